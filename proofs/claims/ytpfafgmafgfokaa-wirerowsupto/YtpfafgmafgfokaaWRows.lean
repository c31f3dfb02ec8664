/- keep.WireRows: the walk. -/
import Derived.Test.YtpfafgmafgfokaaWDone
import Derived.Test.YtpfafgmafgfokaaWRowsMath
import Derived.Deep.RegionHeld3
import Derived.Deep.RegionWith
namespace Go.Proofs.Ytpfafgmafgfokaa
open Go.RowKit

/-- the numbers that a slice holds -/
def NumsIn (w : World) (B : Nat) (A : Option Addr) (N : List Int) : Prop :=
  ∀ k n, N[k]? = some n → ∃ ad, A = some ad ∧ (ad.add k).block < B ∧ w.cell? (ad.add k) = some (.int .i64 n)
/-- the texts that a slice holds -/
def TextsIn (w : World) (B : Nat) (A : Option Addr) (T : List ByteArray) : Prop :=
  ∀ k t, T[k]? = some t → ∃ ad, A = some ad ∧ (ad.add k).block < B ∧ w.cell? (ad.add k) = some (.string t)

/-- a writer that holds these bytes; none: an error -/
def St (w : World) (g : Nat) : Option ByteArray → Prop
  | some s => ∃ ps, WOk w g ps ∧ s = bs (cat ps)
  | none => ∃ e, (e != 0) = true ∧ WBad w g e
theorem St.below {w w' : World} {g : Nat} {o : Option ByteArray} (h : St w g o) (k : Below w.heap.size w w') : St w' g o := by
  cases o with
  | none => obtain ⟨e, h0, h1⟩ := h; exact ⟨e, h0, h1.below k⟩
  | some s => obtain ⟨ps, h1, h2⟩ := h; exact ⟨ps, h1.below k, h2⟩
def Moved (w : World) (g : Nat) (o : Option ByteArray) (x : Ending) (w' : World) : Prop := x = .returned (.tuple #[]) ∧ St w' g o ∧ w.grownBy w' (some g)

theorem cat_app' (ps : List ByteArray) (x : ByteArray) : bs (cat ps) ++ x = bs (cat (x :: ps)) := by
  apply bytes_eq
  rw [append_list, bs_list, bs_list]
  rfl
theorem st_number (g : Nat) (o : Option ByteArray) (n : Int) (hs : ∀ s, o = some s → s.size ≤ 281474976710656) (w : World) (h : St w g o) :
    Calls Try.prog 28 #[.pointer (some ⟨g, 0, none⟩), .int .i64 n] w (Moved w g (numO (some n) o)) := by
  by_cases hn : 0 ≤ n ∧ n < 4611686018427387904
  · obtain ⟨m, rfl⟩ := Int.eq_ofNat_of_zero_le hn.1
    have hm : m < 4611686018427387904 := by omega
    have C := putIs_yes ⟨#[]⟩ (by decide) m hm
    rw [empty_append] at C
    have hl := num_len9 m hm
    have e : numO (some (m : Int)) o = o.map (· ++ bs (num m)) := by unfold numO; simp only; rw [if_pos hn, Int.toNat_natCast]
    rw [e]
    cases o with
    | none =>
      obtain ⟨e, h0, h1⟩ := h
      exact (WNumber_bad g m _ e 0 h0 C w h1).mono fun x w' ⟨q1, q2, q3⟩ => ⟨q1, ⟨e, h0, q2⟩, q3⟩
    | some s =>
      obtain ⟨ps, h1, rfl⟩ := h
      have hb := hs _ rfl
      rw [bs_size] at hb
      exact (WNumber_ok g ps m _ C (by rw [bs_size]; omega) hb w h1).mono fun x w' ⟨q1, q2, q3⟩ => ⟨q1, ⟨_, q2, cat_app' _ _⟩, q3⟩
  · have C := putIs_no ⟨#[]⟩ n (by omega)
    have e : numO (some n) o = none := by unfold numO; simp only; rw [if_neg hn]
    rw [e]
    cases o with
    | none =>
      obtain ⟨e, h0, h1⟩ := h
      exact (WNumber_bad g n _ e 3 h0 C w h1).mono fun x w' ⟨q1, q2, q3⟩ => ⟨q1, ⟨e, h0, q2⟩, q3⟩
    | some s =>
      obtain ⟨ps, h1, rfl⟩ := h
      exact (WNumber_err g ps n _ 3 (by decide) C w h1).mono fun x w' ⟨q1, q2, q3⟩ => ⟨q1, ⟨3, by decide, q2⟩, q3⟩
theorem st_text (g : Nat) (o : Option ByteArray) (t : ByteArray) (hs : ∀ s, o = some s → s.size ≤ 281474976710656) (w : World) (h : St w g o) :
    Calls Try.prog 29 #[.pointer (some ⟨g, 0, none⟩), .string t] w (Moved w g (textO (some t) o)) := by
  by_cases ht : t.size ≤ 4096
  · have C := putTextIs_yes ⟨#[]⟩ t (by decide) ht
    rw [empty_append] at C
    have hl := num_len9 t.size (by omega)
    have e : textO (some t) o = o.map (· ++ (bs (num t.size) ++ t)) := by unfold textO; simp only; rw [if_pos ht]
    rw [e]
    cases o with
    | none =>
      obtain ⟨e, h0, h1⟩ := h
      exact (WText_bad g t _ e 0 h0 C w h1).mono fun x w' ⟨q1, q2, q3⟩ => ⟨q1, ⟨e, h0, q2⟩, q3⟩
    | some s =>
      obtain ⟨ps, h1, rfl⟩ := h
      have hb := hs _ rfl
      rw [bs_size] at hb
      exact (WText_ok g ps t _ C (by rw [ByteArray.size_append, bs_size]; omega) hb w h1).mono fun x w' ⟨q1, q2, q3⟩ => ⟨q1, ⟨_, q2, cat_app' _ _⟩, q3⟩
  · have C := putTextIs_no ⟨#[]⟩ t (by omega)
    have e : textO (some t) o = none := by unfold textO; simp only; rw [if_neg ht]
    rw [e]
    cases o with
    | none =>
      obtain ⟨e, h0, h1⟩ := h
      exact (WText_bad g t _ e 1 h0 C w h1).mono fun x w' ⟨q1, q2, q3⟩ => ⟨q1, ⟨e, h0, q2⟩, q3⟩
    | some s =>
      obtain ⟨ps, h1, rfl⟩ := h
      exact (WText_err g ps t _ 1 (by decide) C w h1).mono fun x w' ⟨q1, q2, q3⟩ => ⟨q1, ⟨1, by decide, q2⟩, q3⟩

/-- behind k rounds of the writer -/
def R1 (N : List Int) (T : List ByteArray) (w : World) (i : Value) (wr : World) : Prop :=
  ∃ k : Nat, (k ≤ N.length ∨ k ≤ T.length) ∧ i = .int .i64 (k : Int) ∧ St wr w.heap.size (acc N T k) ∧ Below w.heap.size w wr
theorem acc_mid (N : List Int) (T : List ByteArray) (k : Nat) (hk : k < N.length) (s : ByteArray) (h : numO (some N[k]) (acc N T k) = some s) : s.size ≤ 18 * k + sz T + 9 := by
  unfold numO at h
  simp only at h
  split at h
  · rename_i hg
    obtain ⟨s0, h0, rfl⟩ := Option.map_eq_some_iff.1 h
    have := acc_size N T k s0 h0
    rw [ByteArray.size_append, bs_size]
    have := num_len9 (N[k]).toNat (by omega)
    omega
  · cases h

theorem bs_drop (a b : List UInt8) : (bs (a ++ b)).extract a.length (bs (a ++ b)).size = bs b := by
  apply bytes_eq
  rw [extract_list, bs_list, bs_list, bs_size, List.drop_left', List.length_append, Nat.add_sub_cancel_left, List.take_length]
  rfl
theorem rd_num (g m : Nat) (hm : m < 4611686018427387904) (r : List UInt8) (hr : r.length ≤ 281474976710000) (W : World) (h : Rd W g (bs (num m ++ r)) 0) :
    Calls Try.prog 22 #[.pointer (some ⟨g, 0, none⟩)] W (After W g (.int .i64 (m : Int)) (bs r) 0) := by
  have hl := num_len9 m hm
  have hs : (bs (num m ++ r)).size = (num m).length + r.length := by rw [bs_size, List.length_append]
  have C := getIs_some (bs (num m ++ r)) (by omega) m (num m).length (by rw [bs_list]; exact got_num m hm r)
  have q := Number_go g _ m _ 0 C (by omega) W h
  rw [bs_drop] at q
  exact q
theorem rd_text (g : Nat) (t : ByteArray) (ht : t.size ≤ 4096) (r : List UInt8) (hr : r.length ≤ 281474976700000) (W : World) (h : Rd W g (bs ((num t.size ++ t.data.toList) ++ r)) 0) :
    Calls Try.prog 23 #[.pointer (some ⟨g, 0, none⟩)] W (After W g (.string t) (bs r) 0) := by
  have hl := num_len9 t.size (by omega)
  have e : t.data.toList.length = t.size := rfl
  have hs : (bs ((num t.size ++ t.data.toList) ++ r)).size = (num t.size).length + t.size + r.length := by rw [bs_size, List.length_append, List.length_append]; rfl
  have C := text_yes (bs ((num t.size ++ t.data.toList) ++ r)) (by omega) t.size (num t.size).length (by rw [bs_list, List.append_assoc]; exact got_num t.size (by omega) _) ht (by omega)
  have e2 : (bs ((num t.size ++ t.data.toList) ++ r)).extract (num t.size).length ((num t.size).length + t.size) = t := by
    apply bytes_eq
    rw [extract_list, bs_list, List.append_assoc, List.drop_left', Nat.add_sub_cancel_left, ← e, List.take_left']
    · rfl
    · rfl
  rw [e2] at C
  have q := Text_go g _ t _ 0 C (by omega) W h
  have e3 : (num t.size).length + t.size = (num t.size ++ t.data.toList).length := by rw [List.length_append]; rfl
  rw [e3, bs_drop] at q
  exact q
section
variable {P : Program} {ops : Array Oper} {Q : Exit → Act → World → Prop} {md : Region.Mode} {S : World → Prop}
/-- an operation that yields is taken first -/
theorem takeY (i d : Nat) (v : Value) {oi : Oper} {fuel : Nat} {listed : Array Bool} {ts : Array Value} {df : List Deferred} {w : World} (hi : ops[i]? = some oi) (hd : oi.dst = some d)
    (hs : Region.noSelect ops = true) (hf : Region.free md ops listed i = true) (hr : (Region.ready md ops listed).contains i = true)
    (hQ : ∀ c a w, Q (.panic c) (a.put oi.dst v) w → Q (.panic c) a w) (hw : Region.wanted oi (yielded ops ts) = true)
    (hv : ∀ w, S w → (execOp (Act.eval ⟨ts, df⟩) oi).run P w = .ok (.value v) w) (hS : S w)
    (h : wpAnyH P md ops Q S fuel (listed.setIfInBounds i true) ⟨ts.setIfInBounds d v, df⟩ w) : wpAnyH P md ops Q S (fuel + 1) listed ⟨ts, df⟩ w :=
  wpAnyH_take hi hs hf hr hQ (Or.inl ⟨hw, hv⟩) hS (by rw [hd]; exact h)
/-- an operation that is not wanted is taken first -/
theorem takeN (i d : Nat) {oi : Oper} {fuel : Nat} {listed : Array Bool} {ts : Array Value} {df : List Deferred} {w : World} (hi : ops[i]? = some oi) (hd : oi.dst = some d)
    (hs : Region.noSelect ops = true) (hf : Region.free md ops listed i = true) (hr : (Region.ready md ops listed).contains i = true)
    (hQ : ∀ c a w, Q (.panic c) (a.put oi.dst undef) w → Q (.panic c) a w) (hw : Region.wanted oi (yielded ops ts) = false) (hS : S w)
    (h : wpAnyH P md ops Q S fuel (listed.setIfInBounds i true) ⟨ts.setIfInBounds d undef, df⟩ w) : wpAnyH P md ops Q S (fuel + 1) listed ⟨ts, df⟩ w :=
  wpAnyH_take hi hs hf hr hQ (Or.inr ⟨hw, rfl⟩) hS (by rw [hd]; exact h)
end
/-- behind k rounds of the reader -/
def R2 (N : List Int) (T : List ByteArray) (K g : Nat) (more : ByteArray) (w : World) (i : Value) (wr : World) : Prop :=
  ∃ (k : Nat) (r : List UInt8), k ≤ K ∧ i = .int .i64 (k : Int) ∧ Rd wr g (bs r) 0 ∧ rowsTo N T K ++ more.data.toList = rowsTo N T k ++ r ∧ Below w.heap.size w wr

set_option maxRecDepth 100000 in
set_option maxHeartbeats 4000000 in
theorem Rows_walk (N : List Int) (T : List ByteArray) (A A2 : Option Addr) (c c2 : Nat) (more : ByteArray) (hN : N.length ≤ 4194304) (hT : T.length ≤ 4194304) (hz : sz T ≤ 4194304) (hm : more.size ≤ 4194304) (w : World)
    (hP : NumsIn w w.heap.size A N) (hQ : TextsIn w w.heap.size A2 T) :
    Calls Try.prog 10 #[.slice A N.length c, .slice A2 T.length c2, .string more] w fun x w' => x = .returned (.bool true) ∧ Below w.heap.size w w' := by
  go_enter Try.func10, Try.ntmps10
  go_wp2_with fail
  go_loopw [8] (fun i wr => R1 N T w i wr) (fun i _ => N.length + T.length - (intOf i).toNat)
  case atStart => exact ⟨0, .inl (Nat.zero_le _), rfl, ⟨[], ⟨.pointer none, Arr.new _ _ _, rfl⟩, rfl⟩, (Below.refl _ _).alloc (Nat.le_refl _) _⟩
  case round =>
    obtain ⟨k, hk, rfl, hS, hB⟩ := hrel
    have hk4 : k ≤ 4194304 := by omega
    have hs0 : ∀ s, acc N T k = some s → s.size ≤ 281474976710656 := fun s h => by have := acc_size N T k s h; omega
    by_cases hn : k < N.length
    · obtain ⟨ad, rfl, hbl, h0⟩ := hP k N[k] (List.getElem?_eq_getElem hn)
      have g0 := (hB.cell hbl).trans h0
      have hi : (k : Int) < N.length := by omega
      have S1 := st_number w.heap.size (acc N T k) N[k] hs0 wr hS
      have hs1 : ∀ s, numO (some N[k]) (acc N T k) = some s → s.size ≤ 281474976710656 := fun s h => by have := acc_mid N T k hn s h; omega
      by_cases ht : k < T.length
      · obtain ⟨ad2, rfl, hbl2, h2⟩ := hQ k T[k] (List.getElem?_eq_getElem ht)
        have hi2 : (k : Int) < T.length := by omega
        have HA : Hid (acc N T (k + 1) = textO (some T[k]) (numO (some N[k]) (acc N T k))) := by
          show _ = _
          rw [acc, List.getElem?_eq_getElem hn, List.getElem?_eq_getElem ht]
        have HS1 := Lib.hid hs1
        clear hs0 hs1 hS h0
        generalize N[k] = nk at *
        generalize T[k] = tk at *
        generalize numO (some nk) (acc N T k) = o1 at *
        go_wp2_with fail
        (with_reducible refine S1.mono ?_)
        clear S1
        rintro _ w2 ⟨rfl, hS2, k2⟩
        have hB2 := below_gb hB k2 (Nat.le_refl _) hB.size
        have g2 := (hB2.cell hbl2).trans h2
        go_wp2_with fail
        have q := st_text w.heap.size o1 tk HS1.out w2 hS2
        (with_reducible refine q.mono ?_)
        clear q
        rintro _ w3 ⟨rfl, hS3, k3⟩
        have hB3 := below_gb hB2 k3 (Nat.le_refl _) hB2.size
        go_wp2_with fail
        refine ⟨⟨k + 1, by omega, by go_num, by rw [HA.out]; exact hS3, hB3⟩, by simp [intOf]; omega⟩
      · have hi2 : ¬ (k : Int) < T.length := by omega
        have HA : Hid (acc N T (k + 1) = numO (some N[k]) (acc N T k)) := by
          show _ = _
          rw [acc, List.getElem?_eq_getElem hn, List.getElem?_eq_none (show T.length ≤ k by omega)]
          rfl
        clear hs0 hs1 hS h0
        generalize N[k] = nk at *
        generalize numO (some nk) (acc N T k) = o1 at *
        go_wp2_with fail
        (with_reducible refine S1.mono ?_)
        clear S1
        rintro _ w2 ⟨rfl, hS2, k2⟩
        have hB2 := below_gb hB k2 (Nat.le_refl _) hB.size
        go_wp2_with fail
        refine ⟨⟨k + 1, by omega, by go_num, by rw [HA.out]; exact hS2, hB2⟩, by simp [intOf]; omega⟩
    · have hi : ¬ (k : Int) < N.length := by omega
      by_cases ht : k < T.length
      · obtain ⟨ad2, rfl, hbl2, h2⟩ := hQ k T[k] (List.getElem?_eq_getElem ht)
        have hi2 : (k : Int) < T.length := by omega
        have g2 := (hB.cell hbl2).trans h2
        have HA : Hid (acc N T (k + 1) = textO (some T[k]) (acc N T k)) := by
          show _ = _
          rw [acc, List.getElem?_eq_none (show N.length ≤ k by omega), List.getElem?_eq_getElem ht]
          rfl
        have S1 := st_text w.heap.size (acc N T k) T[k] hs0 wr hS
        clear hs0 hS
        generalize T[k] = tk at *
        go_wp2_with fail
        (with_reducible refine S1.mono ?_)
        clear S1
        rintro _ w3 ⟨rfl, hS3, k3⟩
        have hB3 := below_gb hB k3 (Nat.le_refl _) hB.size
        go_wp2_with fail
        refine ⟨⟨k + 1, by omega, by go_num, by rw [HA.out]; exact hS3, hB3⟩, by simp [intOf]; omega⟩
      · have hi2 : ¬ (k : Int) < T.length := by omega
        have hkN : N.length ≤ k := by omega
        have hkT : T.length ≤ k := by omega
        have hkk : k ≤ N.length ∨ k ≤ T.length := by omega
        cases ha : acc N T k with
        | none =>
          rw [ha] at hS
          obtain ⟨e, he, hW⟩ := hS
          clear ha hs0 hP hQ
          go_wp2_with fail
          (with_reducible refine (Done_bad w.heap.size e he wr hW).mono ?_)
          rintro _ w2 ⟨rfl, b2⟩
          have hB2 := hB.trans (b2.mono hB.size)
          go_wp2_with fail
          (with_reducible refine (puts_any _).mono ?_)
          rintro _ w3 ⟨rfl, b3⟩
          go_wp2_with fail
          go_ret
          exact ⟨rfl, hB2.trans (b3.mono hB2.size)⟩
        | some s =>
          have hsz := hs0 s ha
          have hsz2 := acc_size N T k s ha
          obtain ⟨hrows, hgood⟩ := acc_some N T k s ha
          rw [ha] at hS
          obtain ⟨ps, hW, hsps⟩ := hS
          have D := Done_ok w.heap.size ps (by rw [← bs_size, ← hsps]; exact hsz) wr hW
          rw [← hsps] at D
          have HD := Lib.hid D
          have HR := Lib.hid hrows
          have HG := Lib.hid hgood
          clear ha hs0 D hsps hW hrows hgood
          go_wp2_with fail
          (with_reducible refine HD.out.mono ?_)
          rintro _ w2 ⟨rfl, b2⟩
          have hB2 := hB.trans (b2.mono hB.size)
          clear HD b2
          go_wp2_with fail
          (with_reducible refine (Read_any (s ++ more) w2).mono ?_)
          rintro _ w3 ⟨rfl, hR, b3⟩
          have hB3 := hB2.trans (b3.mono hB2.size)
          have hg := hB2.size
          generalize w2.heap.size = gr at *
          clear b3 hB2 w2
          have hR0 : Rd w3 gr (bs (rowsTo N T k ++ more.data.toList)) 0 := by
            have e : s ++ more = bs (rowsTo N T k ++ more.data.toList) := by
              apply bytes_eq
              rw [append_list, HR.out, bs_list]
            rw [← e]
            exact hR
          clear hR
          go_wp2_with fail
          go_loopw [12] (fun i wr => R2 N T k gr more w i wr) (fun i _ => k - (intOf i).toNat)
          case atStart => exact ⟨0, _, Nat.zero_le _, rfl, hR0, rfl, hB3⟩
          case round =>
            clear hR0 hB3 w3 hB
            obtain ⟨j, r, hj, rfl, hR, hrest, hB4⟩ := hrel
            have HRest := Lib.hid hrest
            clear hrest
            by_cases hlt : j < k
            · obtain ⟨r', hr', hrest'⟩ := rest_step N T k j _ r hlt HRest.out
              have hlen : r'.length ≤ 281474976700000 := by
                have e1 := congrArg List.length hrest'
                rw [List.length_append, List.length_append, ← HR.out] at e1
                have e2 : s.data.toList.length = s.size := rfl
                have e3 : more.data.toList.length = more.size := rfl
                omega
              have HRest' := Lib.hid hrest'
              obtain ⟨good1, good2⟩ := HG.out j hlt
              subst hr'
              clear HRest hrest'
              unfold row at hR
              by_cases hn2 : j < N.length
              · rw [List.getElem?_eq_getElem hn2] at hR good1
                have hj1 : (j : Int) < N.length := by omega
                obtain ⟨ad, rfl, hbl, h0⟩ := hP j N[j] (List.getElem?_eq_getElem hn2)
                have g0 := (hB4.cell hbl).trans h0
                have hgd := good1 _ rfl
                obtain ⟨m, hme⟩ := Int.eq_ofNat_of_zero_le hgd.1
                simp only at hR
                rw [hme] at hR g0 hgd h0
                rw [Int.toNat_natCast] at hR
                have hm62 : m < 4611686018427387904 := by omega
                clear good1 hme hgd
                by_cases ht2 : j < T.length
                · rw [List.getElem?_eq_getElem ht2] at hR good2
                  have hj2 : (j : Int) < T.length := by omega
                  obtain ⟨ad2, rfl, hbl2, h2⟩ := hQ j T[j] (List.getElem?_eq_getElem ht2)
                  have g2 := (hB4.cell hbl2).trans h2
                  have hts := good2 _ rfl
                  simp only at hR
                  clear good2
                  generalize T[j] = tj at *
                  have hl9 := num_len9 tj.size (by omega)
                  have etl : tj.data.toList.length = tj.size := rfl
                  have C1 := rd_num gr m hm62 ((num tj.size ++ tj.data.toList) ++ r') (by rw [List.length_append, List.length_append]; omega)
                  have C2 := rd_text gr tj hts r' hlen
                  rw [List.append_assoc] at hR
                  generalize bs (num m ++ ((num tj.size ++ tj.data.toList) ++ r')) = X1 at *
                  generalize bs ((num tj.size ++ tj.data.toList) ++ r') = X2 at *
                  clear hl9 etl hts hm62 hlen
                  have HC1 := Lib.hid C1
                  have HC2 := Lib.hid C2
                  clear C1 C2 hP hQ
                  go_wp2_with fail
                  have hV : wr.drew.cell? (ad.add j) = some (.int .i64 (m : Int)) ∧ wr.drew.cell? (ad2.add j) = some (.string tj) := ⟨g0, g2⟩
                  have hne1 : (ad.add j).block ≠ gr := by omega
                  have hne2 : (ad2.add j).block ≠ gr := by omega
                  have HL1 := Lib.hid (Nat.lt_of_lt_of_le hbl hB4.size)
                  have HL2 := Lib.hid (Nat.lt_of_lt_of_le hbl2 hB4.size)
                  have HE1 := Lib.hid hne1
                  have HE2 := Lib.hid hne2
                  clear hne1 hne2
                  go_region_held3 (fun w' => w'.cell? (ad.add j) = some (.int .i64 (m : Int)) ∧ w'.cell? (ad2.add j) = some (.string tj))
                    (first | exact hV | exact hV1 | exact hV2)
                    (first
                      | (go_at_call 22
                         (with_reducible refine (HC1.out _ ?_).mono ?_)
                         · exact hR
                         rintro _ w1 ⟨rfl, hR1, k1⟩
                         have hV1 : w1.cell? (ad.add j) = some (.int .i64 (m : Int)) ∧ w1.cell? (ad2.add j) = some (.string tj) := ⟨k1.cell hV.1 (fun e => HE1.out (Option.some.inj e)), k1.cell hV.2 (fun e => HE2.out (Option.some.inj e))⟩)
                      | (go_at_call 23
                         (with_reducible refine (HC2.out _ ?_).mono ?_)
                         · exact hR1
                         rintro _ w2 ⟨rfl, hR2, k2⟩
                         have hV2 : w2.cell? (ad.add j) = some (.int .i64 (m : Int)) ∧ w2.cell? (ad2.add j) = some (.string tj) := ⟨k2.cell hV1.1 (fun e => HE1.out (Option.some.inj e)), k2.cell hV1.2 (fun e => HE2.out (Option.some.inj e))⟩))
                  have hB5 := below_gb hB4.drew k1 hg hB4.size
                  have hB6 := below_gb hB5 k2 hg hB5.size
                  clear hV hV1 hV2 k1 k2 HC1 HC2
                  go_wp2_with fail
                  refine ⟨⟨j + 1, r', hlt, by go_num, hR2, HRest'.out, hB6⟩, by simp [intOf]; omega⟩
                · rw [List.getElem?_eq_none (show T.length ≤ j by omega)] at hR
                  have hj3 : decide (j < T.length) = false := by simpa using ht2
                  have hj4 : decide ((j : Int) < (T.length : Int)) = false := by simpa using ht2
                  simp only [List.append_nil] at hR
                  have C1 := rd_num gr m hm62 r' (by omega)
                  generalize bs (num m ++ r') = X1 at *
                  have HC1 := Lib.hid C1
                  clear C1 hP hQ good2 hm62 hlen
                  go_wp2_with fail
                  have hV : wr.drew.cell? (ad.add j) = some (.int .i64 (m : Int)) := g0
                  have HE1 := Lib.hid (show (ad.add j).block ≠ gr by omega)
                  have HT2 := Lib.hid ht2
                  clear ht2
                  refine wp_region_held_drew (S := fun w' => w'.cell? (ad.add j) = some (.int .i64 (m : Int))) (by kernel_rfl) hV (fun hHeld => ?_)
                  refine takeY 0 77 (.int .i64 (j : Int)) rfl rfl (by kernel_rfl) (by kernel_rfl) (by kernel_rfl) (fun _ _ _ h => h) (by rfl) (fun w hSw => ?_) hHeld ?_
                  · first
                    | (go_simp; done)
                    | (go_simp; with_reducible rfl)
                  simp only [List.setIfInBounds_toArray, List.set_cons_zero, List.set_cons_succ]
                  refine takeY 1 78 (.slice (some ad) N.length c) rfl rfl (by kernel_rfl) (by kernel_rfl) (by kernel_rfl) (fun _ _ _ h => h) (by rfl) (fun w hSw => ?_) hHeld ?_
                  · first
                    | (go_simp; done)
                    | (go_simp; with_reducible rfl)
                  simp only [List.setIfInBounds_toArray, List.set_cons_zero, List.set_cons_succ]
                  refine takeY 2 79 (.int .i64 (N.length : Int)) rfl rfl (by kernel_rfl) (by kernel_rfl) (by kernel_rfl) (fun _ _ _ h => h) (by rfl) (fun w hSw => ?_) hHeld ?_
                  · first
                    | (go_simp; done)
                    | (go_simp; with_reducible rfl)
                  simp only [List.setIfInBounds_toArray, List.set_cons_zero, List.set_cons_succ]
                  refine takeY 3 80 (.bool true) rfl rfl (by kernel_rfl) (by kernel_rfl) (by kernel_rfl) (fun _ _ _ h => h) (by rfl) (fun w hSw => ?_) hHeld ?_
                  · first
                    | (go_simp; done)
                    | (go_simp; with_reducible rfl)
                  simp only [List.setIfInBounds_toArray, List.set_cons_zero, List.set_cons_succ]
                  refine takeY 4 81 (.bool true) rfl rfl (by kernel_rfl) (by kernel_rfl) (by kernel_rfl) (fun _ _ _ h => h) (by rfl) (fun w hSw => ?_) hHeld ?_
                  · first
                    | (go_simp; done)
                    | (go_simp; with_reducible rfl)
                  simp only [List.setIfInBounds_toArray, List.set_cons_zero, List.set_cons_succ]
                  refine takeY 5 82 (.pointer (some ⟨gr, 0, none⟩)) rfl rfl (by kernel_rfl) (by kernel_rfl) (by kernel_rfl) (fun _ _ _ h => h) (by rfl) (fun w hSw => ?_) hHeld ?_
                  · first
                    | (go_simp; done)
                    | (go_simp; with_reducible rfl)
                  simp only [List.setIfInBounds_toArray, List.set_cons_zero, List.set_cons_succ]
                  refine takeY 7 84 (.slice (some ad) N.length c) rfl rfl (by kernel_rfl) (by kernel_rfl) (by kernel_rfl) (fun _ _ _ h => h) (by rfl) (fun w hSw => ?_) hHeld ?_
                  · first
                    | (go_simp; done)
                    | (go_simp; with_reducible rfl)
                  simp only [List.setIfInBounds_toArray, List.set_cons_zero, List.set_cons_succ]
                  refine takeY 8 85 (.int .i64 (j : Int)) rfl rfl (by kernel_rfl) (by kernel_rfl) (by kernel_rfl) (fun _ _ _ h => h) (by rfl) (fun w hSw => ?_) hHeld ?_
                  · first
                    | (go_simp; done)
                    | (go_simp; with_reducible rfl)
                  simp only [List.setIfInBounds_toArray, List.set_cons_zero, List.set_cons_succ]
                  refine takeY 9 86 (.pointer (some (ad.add j))) rfl rfl (by kernel_rfl) (by kernel_rfl) (by kernel_rfl) (fun _ _ _ h => h) (by rfl) (fun w hSw => ?_) hHeld ?_
                  · first
                    | (go_simp; done)
                    | (go_simp; with_reducible rfl)
                  simp only [List.setIfInBounds_toArray, List.set_cons_zero, List.set_cons_succ]
                  refine takeY 10 87 (.int .i64 (m : Int)) rfl rfl (by kernel_rfl) (by kernel_rfl) (by kernel_rfl) (fun _ _ _ h => h) (by rfl) (fun w hSw => ?_) hHeld ?_
                  · first
                    | (go_simp; done)
                    | (go_simp; with_reducible rfl)
                  simp only [List.setIfInBounds_toArray, List.set_cons_zero, List.set_cons_succ]
                  refine wpAnyH_ready (rs := [6]) (by kernel_rfl) (by simp) ?_
                  refine AllReadyH.cons rfl (fun K hK => ?_) AllReadyH.nil
                  go_simp
                  (with_reducible refine (HC1.out _ ?_).mono ?_)
                  · exact hR
                  rintro _ w1 ⟨rfl, hR1, k1⟩
                  have hV1 : w1.cell? (ad.add j) = some (.int .i64 (m : Int)) := k1.cell hV (fun e => HE1.out (Option.some.inj e))
                  (try simp only [])
                  refine hK.out _ _ hV1 (fun hHeld => ?_)
                  clear hK K
                  (try simp only [Act.put, List.setIfInBounds_toArray, List.set_cons_zero, List.set_cons_succ])
                  refine takeY 11 88 (.bool false) rfl rfl (by kernel_rfl) (by kernel_rfl) (by kernel_rfl) (fun _ _ _ h => h) (by rfl) (fun w hSw => ?_) hHeld ?_
                  · first
                    | (go_simp; done)
                    | (go_simp; with_reducible rfl)
                  simp only [List.setIfInBounds_toArray, List.set_cons_zero, List.set_cons_succ]
                  refine takeY 12 89 (.bool false) rfl rfl (by kernel_rfl) (by kernel_rfl) (by kernel_rfl) (fun _ _ _ h => h) (by rfl) (fun w hSw => ?_) hHeld ?_
                  · first
                    | (go_simp; done)
                    | (go_simp; with_reducible rfl)
                  simp only [List.setIfInBounds_toArray, List.set_cons_zero, List.set_cons_succ]
                  refine takeY 13 90 (.bool false) rfl rfl (by kernel_rfl) (by kernel_rfl) (by kernel_rfl) (fun _ _ _ h => h) (by rfl) (fun w hSw => ?_) hHeld ?_
                  · first
                    | (go_simp; done)
                    | (go_simp; with_reducible rfl)
                  simp only [List.setIfInBounds_toArray, List.set_cons_zero, List.set_cons_succ]
                  refine takeY 14 91 (.int .i64 (j : Int)) rfl rfl (by kernel_rfl) (by kernel_rfl) (by kernel_rfl) (fun _ _ _ h => h) (by rfl) (fun w hSw => ?_) hHeld ?_
                  · first
                    | (go_simp; done)
                    | (go_simp; with_reducible rfl)
                  simp only [List.setIfInBounds_toArray, List.set_cons_zero, List.set_cons_succ]
                  refine takeY 15 92 (.slice A2 T.length c2) rfl rfl (by kernel_rfl) (by kernel_rfl) (by kernel_rfl) (fun _ _ _ h => h) (by rfl) (fun w hSw => ?_) hHeld ?_
                  · first
                    | (go_simp; done)
                    | (go_simp; with_reducible rfl)
                  simp only [List.setIfInBounds_toArray, List.set_cons_zero, List.set_cons_succ]
                  refine takeY 16 93 (.int .i64 (T.length : Int)) rfl rfl (by kernel_rfl) (by kernel_rfl) (by kernel_rfl) (fun _ _ _ h => h) (by rfl) (fun w hSw => ?_) hHeld ?_
                  · first
                    | (go_simp; done)
                    | (go_simp; with_reducible rfl)
                  simp only [List.setIfInBounds_toArray, List.set_cons_zero, List.set_cons_succ]
                  refine takeY 17 94 (.bool false) rfl rfl (by kernel_rfl) (by kernel_rfl) (by kernel_rfl) (fun _ _ _ h => h) (by rfl) (fun w hSw => ?_) hHeld ?_
                  · first
                    | (go_simp; done)
                    | (go_simp; with_reducible rfl)
                  simp only [List.setIfInBounds_toArray, List.set_cons_zero, List.set_cons_succ]
                  refine takeY 18 95 (.bool false) rfl rfl (by kernel_rfl) (by kernel_rfl) (by kernel_rfl) (fun _ _ _ h => h) (by rfl) (fun w hSw => ?_) hHeld ?_
                  · first
                    | (go_simp; done)
                    | (go_simp; with_reducible rfl)
                  simp only [List.setIfInBounds_toArray, List.set_cons_zero, List.set_cons_succ]
                  refine takeN 19 96 rfl rfl (by kernel_rfl) (by kernel_rfl) (by kernel_rfl) (fun _ _ _ h => h) (by rfl) hHeld ?_
                  simp only [List.setIfInBounds_toArray, List.set_cons_zero, List.set_cons_succ]
                  refine takeN 20 97 rfl rfl (by kernel_rfl) (by kernel_rfl) (by kernel_rfl) (fun _ _ _ h => h) (by rfl) hHeld ?_
                  simp only [List.setIfInBounds_toArray, List.set_cons_zero, List.set_cons_succ]
                  refine takeN 21 98 rfl rfl (by kernel_rfl) (by kernel_rfl) (by kernel_rfl) (fun _ _ _ h => h) (by rfl) hHeld ?_
                  simp only [List.setIfInBounds_toArray, List.set_cons_zero, List.set_cons_succ]
                  refine takeN 22 99 rfl rfl (by kernel_rfl) (by kernel_rfl) (by kernel_rfl) (fun _ _ _ h => h) (by rfl) hHeld ?_
                  simp only [List.setIfInBounds_toArray, List.set_cons_zero, List.set_cons_succ]
                  refine takeN 23 100 rfl rfl (by kernel_rfl) (by kernel_rfl) (by kernel_rfl) (fun _ _ _ h => h) (by rfl) hHeld ?_
                  simp only [List.setIfInBounds_toArray, List.set_cons_zero, List.set_cons_succ]
                  refine takeN 24 101 rfl rfl (by kernel_rfl) (by kernel_rfl) (by kernel_rfl) (fun _ _ _ h => h) (by rfl) hHeld ?_
                  simp only [List.setIfInBounds_toArray, List.set_cons_zero, List.set_cons_succ]
                  refine takeN 25 102 rfl rfl (by kernel_rfl) (by kernel_rfl) (by kernel_rfl) (fun _ _ _ h => h) (by rfl) hHeld ?_
                  simp only [List.setIfInBounds_toArray, List.set_cons_zero, List.set_cons_succ]
                  refine takeY 26 103 (.bool false) rfl rfl (by kernel_rfl) (by kernel_rfl) (by kernel_rfl) (fun _ _ _ h => h) (by rfl) (fun w hSw => ?_) hHeld ?_
                  · first
                    | (go_simp; done)
                    | (go_simp; with_reducible rfl)
                  simp only [List.setIfInBounds_toArray, List.set_cons_zero, List.set_cons_succ]
                  refine takeY 27 104 (.bool false) rfl rfl (by kernel_rfl) (by kernel_rfl) (by kernel_rfl) (fun _ _ _ h => h) (by rfl) (fun w hSw => ?_) hHeld ?_
                  · first
                    | (go_simp; done)
                    | (go_simp; with_reducible rfl)
                  simp only [List.setIfInBounds_toArray, List.set_cons_zero, List.set_cons_succ]
                  refine wpAnyH_done (by kernel_rfl) ?_ _
                  have hB5 := below_gb hB4.drew k1 hg hB4.size
                  clear hV hV1 k1 HC1
                  go_wp2_with fail
                  refine ⟨⟨j + 1, r', hlt, by go_num, hR1, HRest'.out, hB5⟩, by simp [intOf]; omega⟩
              · rw [List.getElem?_eq_none (show N.length ≤ j by omega)] at hR
                have hj3 : decide (j < N.length) = false := by simpa using hn2
                have hj4 : decide ((j : Int) < (N.length : Int)) = false := by simpa using hn2
                have ht2 : j < T.length := by omega
                rw [List.getElem?_eq_getElem ht2] at hR good2
                have hj2 : (j : Int) < T.length := by omega
                obtain ⟨ad2, rfl, hbl2, h2⟩ := hQ j T[j] (List.getElem?_eq_getElem ht2)
                have g2 := (hB4.cell hbl2).trans h2
                have hts := good2 _ rfl
                simp only [List.nil_append] at hR
                clear good2 good1
                generalize T[j] = tj at *
                have C2 := rd_text gr tj hts r' hlen
                generalize bs ((num tj.size ++ tj.data.toList) ++ r') = X2 at *
                have HC2 := Lib.hid C2
                clear C2 hP hQ hts hlen
                go_wp2_with fail
                have hV : wr.drew.cell? (ad2.add j) = some (.string tj) := g2
                have HE2 := Lib.hid (show (ad2.add j).block ≠ gr by omega)
                have HN2 := Lib.hid hn2
                clear hn2
                refine wp_region_held_drew (S := fun w' => w'.cell? (ad2.add j) = some (.string tj)) (by kernel_rfl) hV (fun hHeld => ?_)
                refine takeY 0 77 (.int .i64 (j : Int)) rfl rfl (by kernel_rfl) (by kernel_rfl) (by kernel_rfl) (fun _ _ _ h => h) (by rfl) (fun w hSw => ?_) hHeld ?_
                · first
                  | (go_simp; done)
                  | (go_simp; with_reducible rfl)
                simp only [List.setIfInBounds_toArray, List.set_cons_zero, List.set_cons_succ]
                refine takeY 1 78 (.slice A N.length c) rfl rfl (by kernel_rfl) (by kernel_rfl) (by kernel_rfl) (fun _ _ _ h => h) (by rfl) (fun w hSw => ?_) hHeld ?_
                · first
                  | (go_simp; done)
                  | (go_simp; with_reducible rfl)
                simp only [List.setIfInBounds_toArray, List.set_cons_zero, List.set_cons_succ]
                refine takeY 2 79 (.int .i64 (N.length : Int)) rfl rfl (by kernel_rfl) (by kernel_rfl) (by kernel_rfl) (fun _ _ _ h => h) (by rfl) (fun w hSw => ?_) hHeld ?_
                · first
                  | (go_simp; done)
                  | (go_simp; with_reducible rfl)
                simp only [List.setIfInBounds_toArray, List.set_cons_zero, List.set_cons_succ]
                refine takeY 3 80 (.bool false) rfl rfl (by kernel_rfl) (by kernel_rfl) (by kernel_rfl) (fun _ _ _ h => h) (by rfl) (fun w hSw => ?_) hHeld ?_
                · first
                  | (go_simp; done)
                  | (go_simp; with_reducible rfl)
                simp only [List.setIfInBounds_toArray, List.set_cons_zero, List.set_cons_succ]
                refine takeY 4 81 (.bool false) rfl rfl (by kernel_rfl) (by kernel_rfl) (by kernel_rfl) (fun _ _ _ h => h) (by rfl) (fun w hSw => ?_) hHeld ?_
                · first
                  | (go_simp; done)
                  | (go_simp; with_reducible rfl)
                simp only [List.setIfInBounds_toArray, List.set_cons_zero, List.set_cons_succ]
                refine takeN 5 82 rfl rfl (by kernel_rfl) (by kernel_rfl) (by kernel_rfl) (fun _ _ _ h => h) (by rfl) hHeld ?_
                simp only [List.setIfInBounds_toArray, List.set_cons_zero, List.set_cons_succ]
                refine takeN 6 83 rfl rfl (by kernel_rfl) (by kernel_rfl) (by kernel_rfl) (fun _ _ _ h => h) (by rfl) hHeld ?_
                simp only [List.setIfInBounds_toArray, List.set_cons_zero, List.set_cons_succ]
                refine takeN 7 84 rfl rfl (by kernel_rfl) (by kernel_rfl) (by kernel_rfl) (fun _ _ _ h => h) (by rfl) hHeld ?_
                simp only [List.setIfInBounds_toArray, List.set_cons_zero, List.set_cons_succ]
                refine takeN 8 85 rfl rfl (by kernel_rfl) (by kernel_rfl) (by kernel_rfl) (fun _ _ _ h => h) (by rfl) hHeld ?_
                simp only [List.setIfInBounds_toArray, List.set_cons_zero, List.set_cons_succ]
                refine takeN 9 86 rfl rfl (by kernel_rfl) (by kernel_rfl) (by kernel_rfl) (fun _ _ _ h => h) (by rfl) hHeld ?_
                simp only [List.setIfInBounds_toArray, List.set_cons_zero, List.set_cons_succ]
                refine takeN 10 87 rfl rfl (by kernel_rfl) (by kernel_rfl) (by kernel_rfl) (fun _ _ _ h => h) (by rfl) hHeld ?_
                simp only [List.setIfInBounds_toArray, List.set_cons_zero, List.set_cons_succ]
                refine takeN 11 88 rfl rfl (by kernel_rfl) (by kernel_rfl) (by kernel_rfl) (fun _ _ _ h => h) (by rfl) hHeld ?_
                simp only [List.setIfInBounds_toArray, List.set_cons_zero, List.set_cons_succ]
                refine takeY 12 89 (.bool false) rfl rfl (by kernel_rfl) (by kernel_rfl) (by kernel_rfl) (fun _ _ _ h => h) (by rfl) (fun w hSw => ?_) hHeld ?_
                · first
                  | (go_simp; done)
                  | (go_simp; with_reducible rfl)
                simp only [List.setIfInBounds_toArray, List.set_cons_zero, List.set_cons_succ]
                refine takeY 13 90 (.bool false) rfl rfl (by kernel_rfl) (by kernel_rfl) (by kernel_rfl) (fun _ _ _ h => h) (by rfl) (fun w hSw => ?_) hHeld ?_
                · first
                  | (go_simp; done)
                  | (go_simp; with_reducible rfl)
                simp only [List.setIfInBounds_toArray, List.set_cons_zero, List.set_cons_succ]
                refine takeY 14 91 (.int .i64 (j : Int)) rfl rfl (by kernel_rfl) (by kernel_rfl) (by kernel_rfl) (fun _ _ _ h => h) (by rfl) (fun w hSw => ?_) hHeld ?_
                · first
                  | (go_simp; done)
                  | (go_simp; with_reducible rfl)
                simp only [List.setIfInBounds_toArray, List.set_cons_zero, List.set_cons_succ]
                refine takeY 15 92 (.slice (some ad2) T.length c2) rfl rfl (by kernel_rfl) (by kernel_rfl) (by kernel_rfl) (fun _ _ _ h => h) (by rfl) (fun w hSw => ?_) hHeld ?_
                · first
                  | (go_simp; done)
                  | (go_simp; with_reducible rfl)
                simp only [List.setIfInBounds_toArray, List.set_cons_zero, List.set_cons_succ]
                refine takeY 16 93 (.int .i64 (T.length : Int)) rfl rfl (by kernel_rfl) (by kernel_rfl) (by kernel_rfl) (fun _ _ _ h => h) (by rfl) (fun w hSw => ?_) hHeld ?_
                · first
                  | (go_simp; done)
                  | (go_simp; with_reducible rfl)
                simp only [List.setIfInBounds_toArray, List.set_cons_zero, List.set_cons_succ]
                refine takeY 17 94 (.bool true) rfl rfl (by kernel_rfl) (by kernel_rfl) (by kernel_rfl) (fun _ _ _ h => h) (by rfl) (fun w hSw => ?_) hHeld ?_
                · first
                  | (go_simp; done)
                  | (go_simp; with_reducible rfl)
                simp only [List.setIfInBounds_toArray, List.set_cons_zero, List.set_cons_succ]
                refine takeY 18 95 (.bool true) rfl rfl (by kernel_rfl) (by kernel_rfl) (by kernel_rfl) (fun _ _ _ h => h) (by rfl) (fun w hSw => ?_) hHeld ?_
                · first
                  | (go_simp; done)
                  | (go_simp; with_reducible rfl)
                simp only [List.setIfInBounds_toArray, List.set_cons_zero, List.set_cons_succ]
                refine takeY 19 96 (.pointer (some ⟨gr, 0, none⟩)) rfl rfl (by kernel_rfl) (by kernel_rfl) (by kernel_rfl) (fun _ _ _ h => h) (by rfl) (fun w hSw => ?_) hHeld ?_
                · first
                  | (go_simp; done)
                  | (go_simp; with_reducible rfl)
                simp only [List.setIfInBounds_toArray, List.set_cons_zero, List.set_cons_succ]
                refine takeY 21 98 (.slice (some ad2) T.length c2) rfl rfl (by kernel_rfl) (by kernel_rfl) (by kernel_rfl) (fun _ _ _ h => h) (by rfl) (fun w hSw => ?_) hHeld ?_
                · first
                  | (go_simp; done)
                  | (go_simp; with_reducible rfl)
                simp only [List.setIfInBounds_toArray, List.set_cons_zero, List.set_cons_succ]
                refine takeY 22 99 (.int .i64 (j : Int)) rfl rfl (by kernel_rfl) (by kernel_rfl) (by kernel_rfl) (fun _ _ _ h => h) (by rfl) (fun w hSw => ?_) hHeld ?_
                · first
                  | (go_simp; done)
                  | (go_simp; with_reducible rfl)
                simp only [List.setIfInBounds_toArray, List.set_cons_zero, List.set_cons_succ]
                refine takeY 23 100 (.pointer (some (ad2.add j))) rfl rfl (by kernel_rfl) (by kernel_rfl) (by kernel_rfl) (fun _ _ _ h => h) (by rfl) (fun w hSw => ?_) hHeld ?_
                · first
                  | (go_simp; done)
                  | (go_simp; with_reducible rfl)
                simp only [List.setIfInBounds_toArray, List.set_cons_zero, List.set_cons_succ]
                refine takeY 24 101 (.string tj) rfl rfl (by kernel_rfl) (by kernel_rfl) (by kernel_rfl) (fun _ _ _ h => h) (by rfl) (fun w hSw => ?_) hHeld ?_
                · first
                  | (go_simp; done)
                  | (go_simp; with_reducible rfl)
                simp only [List.setIfInBounds_toArray, List.set_cons_zero, List.set_cons_succ]
                refine wpAnyH_ready (rs := [20]) (by kernel_rfl) (by simp) ?_
                refine AllReadyH.cons rfl (fun K hK => ?_) AllReadyH.nil
                go_simp
                (with_reducible refine (HC2.out _ ?_).mono ?_)
                · exact hR
                rintro _ w2 ⟨rfl, hR2, k2⟩
                have hV2 : w2.cell? (ad2.add j) = some (.string tj) := k2.cell hV (fun e => HE2.out (Option.some.inj e))
                (try simp only [])
                refine hK.out _ _ hV2 (fun hHeld => ?_)
                clear hK K
                (try simp only [Act.put, List.setIfInBounds_toArray, List.set_cons_zero, List.set_cons_succ])
                refine takeY 25 102 (.bool false) rfl rfl (by kernel_rfl) (by kernel_rfl) (by kernel_rfl) (fun _ _ _ h => h) (by rfl) (fun w hSw => ?_) hHeld ?_
                · first
                  | (go_simp; done)
                  | (go_simp; with_reducible rfl)
                simp only [List.setIfInBounds_toArray, List.set_cons_zero, List.set_cons_succ]
                refine takeY 26 103 (.bool false) rfl rfl (by kernel_rfl) (by kernel_rfl) (by kernel_rfl) (fun _ _ _ h => h) (by rfl) (fun w hSw => ?_) hHeld ?_
                · first
                  | (go_simp; done)
                  | (go_simp; with_reducible rfl)
                simp only [List.setIfInBounds_toArray, List.set_cons_zero, List.set_cons_succ]
                refine takeY 27 104 (.bool false) rfl rfl (by kernel_rfl) (by kernel_rfl) (by kernel_rfl) (fun _ _ _ h => h) (by rfl) (fun w hSw => ?_) hHeld ?_
                · first
                  | (go_simp; done)
                  | (go_simp; with_reducible rfl)
                simp only [List.setIfInBounds_toArray, List.set_cons_zero, List.set_cons_succ]
                refine wpAnyH_done (by kernel_rfl) ?_ _
                have hB5 := below_gb hB4.drew k2 hg hB4.size
                clear hV hV2 k2 HC2
                go_wp2_with fail
                refine ⟨⟨j + 1, r', hlt, by go_num, hR2, HRest'.out, hB5⟩, by simp [intOf]; omega⟩
            · obtain rfl : j = k := by omega
              have hmore : more.data.toList = r := List.append_cancel_left HRest.out
              rw [← hmore, bs_of] at hR
              have hj1 : ¬ (j : Int) < N.length := by omega
              have hj2 : ¬ (j : Int) < T.length := by omega
              have e1 : more.extract 0 more.size = more := by
                apply bytes_eq
                rw [extract_list, List.drop_zero, Nat.sub_zero, ← list_len, List.take_length]
              have e2 : (more.extract more.size more.size).size = 0 := by rw [ByteArray.size_extract]; omega
              have CB := fun W h => Bytes_go gr more more.size (Nat.le_refl _) W h
              rw [e1] at CB
              generalize more.extract more.size more.size = z at *
              have HCB := Lib.hid CB
              have HZ := Lib.hid e2
              clear CB e1 e2 hmore HRest HG hP hQ HR
              go_wp2_with fail
              (with_reducible refine (Bad_any gr more 0 wr hR).mono ?_)
              rintro _ w1 ⟨rfl, rfl⟩
              go_wp2_with fail
              (with_reducible refine (Left_any gr more 0 wr hR).mono ?_)
              rintro _ w1 ⟨rfl, rfl⟩
              go_wp2_with fail
              (with_reducible refine (HCB.out wr hR).mono ?_)
              rintro _ w1 ⟨rfl, hR1, k1⟩
              have hB5 := below_gb hB4 k1 hg hB4.size
              go_wp2_with fail
              (with_reducible refine (Left_any gr z 0 w1 hR1).mono ?_)
              rintro _ w2 ⟨rfl, rfl⟩
              rw [HZ.out]
              go_wp2_with fail
              (with_reducible refine (puts_any _).mono ?_)
              rintro _ w3 ⟨rfl, b3⟩
              go_wp2_with fail
              go_ret
              exact ⟨rfl, hB5.trans (b3.mono hB5.size)⟩
end Go.Proofs.Ytpfafgmafgfokaa
