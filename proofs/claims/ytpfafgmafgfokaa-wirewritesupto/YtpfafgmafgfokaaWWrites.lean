/- law.WireWrites: the walk. -/
import Derived.Test.YtpfafgmafgfokaaWDone
import Derived.Test.YtpfafgmafgfokaaWPuts
namespace Go.Proofs.Ytpfafgmafgfokaa
open Go.RowKit

/-- a put of a writer: its kind, its number, its text -/
abbrev PutT := Int × Int × ByteArray
/-- the puts that a slice holds -/
def PutsIn (w : World) (B : Nat) (A : Option Addr) (L : List PutT) : Prop :=
  ∀ k x, L[k]? = some x → ∃ ad, A = some ad ∧ (ad.add (k * 3)).block < B ∧ w.cell? (ad.add (k * 3)) = some (.int .i64 x.1) ∧
    w.cell? ⟨(ad.add (k * 3)).block, (ad.add (k * 3)).off + 1, none⟩ = some (.int .i64 x.2.1) ∧ w.cell? ⟨(ad.add (k * 3)).block, (ad.add (k * 3)).off + 2, none⟩ = some (.string x.2.2)

/-- a writer that holds these bytes, or this error -/
def Inv (w : World) (g : Nat) (s : ByteArray) (e : Int) : Prop := (e = 0 ∧ ∃ ps, WOk w g ps ∧ s = bs (cat ps)) ∨ ((e != 0) = true ∧ WBad w g e)
theorem Inv.arr {w : World} {g : Nat} {s : ByteArray} {e : Int} (h : Inv w g s e) : ∃ cs, Arr w g 53 cs := by
  rcases h with ⟨_, ps, ⟨v, ha, _⟩, _⟩ | ⟨_, v, n, ha⟩
  · exact ⟨_, ha⟩
  · exact ⟨_, ha⟩
theorem Inv.below {w w' : World} {g : Nat} {s : ByteArray} {e : Int} (h : Inv w g s e) (k : Below w.heap.size w w') : Inv w' g s e := by
  rcases h with ⟨h0, ps, h1, h2⟩ | ⟨h0, h1⟩
  · exact .inl ⟨h0, ps, h1.below k, h2⟩
  · exact .inr ⟨h0, h1.below k⟩
def Stepped (w : World) (g : Nat) (s : ByteArray) (e : Int) (x : Ending) (w' : World) : Prop := x = .returned (.tuple #[]) ∧ Inv w' g s e ∧ w.grownBy w' (some g)

theorem append_empty (x : ByteArray) : x ++ (⟨#[]⟩ : ByteArray) = x := by
  apply ByteArray.ext
  simp
theorem cat_app (ps : List ByteArray) (x : ByteArray) : bs (cat ps) ++ x = bs (cat (x :: ps)) := by
  apply bytes_eq
  rw [append_list, bs_list, bs_list]
  rfl
theorem step_in (g : Nat) (s : ByteArray) (e : Int) (n : Nat) (hn : n < 4611686018427387904) (hs : s.size ≤ 281474976710656) (w : World) (h : Inv w g s e) :
    Calls Try.prog 28 #[.pointer (some ⟨g, 0, none⟩), .int .i64 (n : Int)] w (Stepped w g (s ++ bs (num n)) e) := by
  have C := putIs_yes ⟨#[]⟩ (by decide) n hn
  rw [empty_append] at C
  have hl := num_len9 n hn
  rcases h with ⟨rfl, ps, h1, rfl⟩ | ⟨h0, h1⟩
  · rw [bs_size] at hs
    refine (WNumber_ok g ps n _ C (by rw [bs_size]; omega) hs w h1).mono fun x w' ⟨q1, q2, q3⟩ => ⟨q1, .inl ⟨rfl, _, q2, cat_app _ _⟩, q3⟩
  · exact (WNumber_bad g n _ e 0 h0 C w h1).mono fun x w' ⟨q1, q2, q3⟩ => ⟨q1, .inr ⟨h0, q2⟩, q3⟩
theorem step_out (g : Nat) (s : ByteArray) (e : Int) (n : Int) (hn : n < 0 ∨ 4611686018427387904 ≤ n) (w : World) (h : Inv w g s e) :
    Calls Try.prog 28 #[.pointer (some ⟨g, 0, none⟩), .int .i64 n] w (Stepped w g s (if e = 0 then 3 else e)) := by
  have C := putIs_no ⟨#[]⟩ n hn
  rcases h with ⟨rfl, ps, h1, rfl⟩ | ⟨h0, h1⟩
  · exact (WNumber_err g ps n _ 3 (by decide) C w h1).mono fun x w' ⟨q1, q2, q3⟩ => ⟨q1, .inr ⟨by decide, q2⟩, q3⟩
  · have he : e ≠ 0 := by simpa using h0
    rw [if_neg he]
    exact (WNumber_bad g n _ e 3 h0 C w h1).mono fun x w' ⟨q1, q2, q3⟩ => ⟨q1, .inr ⟨h0, q2⟩, q3⟩
theorem step_text (g : Nat) (s : ByteArray) (e : Int) (t : ByteArray) (ht : t.size ≤ 4096) (hs : s.size ≤ 281474976710656) (w : World) (h : Inv w g s e) :
    Calls Try.prog 29 #[.pointer (some ⟨g, 0, none⟩), .string t] w (Stepped w g (s ++ (bs (num t.size) ++ t)) e) := by
  have C := putTextIs_yes ⟨#[]⟩ t (by decide) ht
  rw [empty_append] at C
  have hl := num_len9 t.size (by omega)
  rcases h with ⟨rfl, ps, h1, rfl⟩ | ⟨h0, h1⟩
  · rw [bs_size] at hs
    refine (WText_ok g ps t _ C (by rw [ByteArray.size_append, bs_size]; omega) hs w h1).mono fun x w' ⟨q1, q2, q3⟩ => ⟨q1, .inl ⟨rfl, _, q2, cat_app _ _⟩, q3⟩
  · exact (WText_bad g t _ e 0 h0 C w h1).mono fun x w' ⟨q1, q2, q3⟩ => ⟨q1, .inr ⟨h0, q2⟩, q3⟩
theorem step_long (g : Nat) (s s' : ByteArray) (e : Int) (t : ByteArray) (ht : 4096 < t.size) (w : World) (h : Inv w g s e) :
    Calls Try.prog 29 #[.pointer (some ⟨g, 0, none⟩), .string t] w (Stepped w g s' (if e = 0 then 1 else e)) := by
  have C := putTextIs_no ⟨#[]⟩ t ht
  rcases h with ⟨rfl, ps, h1, rfl⟩ | ⟨h0, h1⟩
  · exact (WText_err g ps t _ 1 (by decide) C w h1).mono fun x w' ⟨q1, q2, q3⟩ => ⟨q1, .inr ⟨by decide, q2⟩, q3⟩
  · have he : e ≠ 0 := by simpa using h0
    rw [if_neg he]
    exact (WText_bad g t _ e 1 h0 C w h1).mono fun x w' ⟨q1, q2, q3⟩ => ⟨q1, .inr ⟨h0, q2⟩, q3⟩
theorem step_bytes (g : Nat) (s : ByteArray) (e : Int) (t : ByteArray) (ht : t.size ≤ 281474976710656) (hs : s.size ≤ 281474976710656) (w : World) (h : Inv w g s e) :
    Calls Try.prog 30 #[.pointer (some ⟨g, 0, none⟩), .string t] w (Stepped w g (s ++ t) e) := by
  rcases h with ⟨rfl, ps, h1, rfl⟩ | ⟨h0, h1⟩
  · rw [bs_size] at hs
    exact (WBytes_ok g ps t ht hs w h1).mono fun x w' ⟨q1, q2, q3⟩ => ⟨q1, .inl ⟨rfl, _, q2, cat_app _ _⟩, q3⟩
  · exact (WBytes_bad g t e h0 w h1).mono fun x w' ⟨q1, q2, q3⟩ => ⟨q1, .inr ⟨h0, q2⟩, q3⟩
theorem step_done (g : Nat) (s : ByteArray) (e : Int) (hs : s.size ≤ 281474976710656) (w : World) (h : Inv w g s e) :
    Calls Try.prog 31 #[.pointer (some ⟨g, 0, none⟩)] w fun x w' => x = .returned (.tuple #[.string (if e = 0 then s else ⟨#[]⟩), .int .i64 e]) ∧ Below w.heap.size w w' := by
  rcases h with ⟨rfl, ps, h1, rfl⟩ | ⟨h0, h1⟩
  · rw [bs_size] at hs
    exact Done_ok g ps hs w h1
  · have he : e ≠ 0 := by simpa using h0
    rw [if_neg he]
    exact Done_bad g e h0 w h1

/-- how many bytes puts may come to -/
def wt : List PutT → Nat
  | [] => 0
  | x :: l => x.2.2.size + 16 + wt l
theorem wt_append (a b : List PutT) : wt (a ++ b) = wt a + wt b := by
  induction a with
  | nil => simp [wt]
  | cons x a ih => rw [List.cons_append, wt, ih, wt]; omega
theorem wt_take (L : List PutT) (k : Nat) (h : k < L.length) : wt (L.take (k + 1)) = wt (L.take k) + (L[k].2.2.size + 16) := by
  rw [List.take_succ_eq_append_getElem h, wt_append]; rfl
theorem wt_le (L : List PutT) (k : Nat) : wt (L.take k) ≤ wt L := by
  have h := wt_append (L.take k) (L.drop k)
  rw [List.take_append_drop] at h
  omega
def WWRel (L : List PutT) (w : World) (s e i : Value) (wr : World) : Prop :=
  ∃ (k : Nat) (t : ByteArray) (er : Int), k ≤ L.length ∧ i = .int .i64 (k : Int) ∧ s = .string t ∧ e = .int .i64 er ∧ t.size ≤ wt (L.take k) ∧ Inv wr w.heap.size t er ∧ Below w.heap.size w wr

set_option maxRecDepth 100000 in
set_option maxHeartbeats 4000000 in
theorem Writes_walk (L : List PutT) (A : Option Addr) (c : Nat) (hl : L.length ≤ 281474976710656) (hw : wt L ≤ 281474976710656) (w : World) (hP : PutsIn w w.heap.size A L) :
    Calls Try.prog 6 #[.slice A L.length c] w fun x w' => x = .returned (.bool true) ∧ Below w.heap.size w w' := by
  go_enter Try.func6, Try.ntmps6
  go_wp2_with fail
  go_loopw [4, 5, 6] (fun s e i wr => WWRel L w s e i wr) (fun _ _ i _ => L.length - (intOf i).toNat)
  case atStart => exact ⟨0, ⟨#[]⟩, 0, Nat.zero_le _, rfl, rfl, rfl, Nat.zero_le _, .inl ⟨rfl, [], ⟨.pointer none, Arr.new _ _ _, rfl⟩, rfl⟩, (Below.refl _ _).alloc (Nat.le_refl _) _⟩
  case round =>
    obtain ⟨k, t, er, hk, rfl, rfl, rfl, ht, hI, hB⟩ := hrel
    have hwk := wt_le L k
    by_cases hlt : k < L.length
    · obtain ⟨ad, rfl, hbl, h0, h1, h2⟩ := hP k L[k] (List.getElem?_eq_getElem hlt)
      have HW := Lib.hid (wt_take L k hlt)
      have hwk1 := wt_le L (k + 1)
      generalize L[k] = x at *
      obtain ⟨kd, n, s⟩ := x
      simp only at h0 h1 h2 HW
      have g0 := (hB.cell hbl).trans h0
      have g1 := (hB.cell (p := ⟨(ad.add (k * 3)).block, (ad.add (k * 3)).off + 1, none⟩) hbl).trans h1
      have g2 := (hB.cell (p := ⟨(ad.add (k * 3)).block, (ad.add (k * 3)).off + 2, none⟩) hbl).trans h2
      clear h0 h1 h2 hP
      have hss : s.size ≤ 281474976710656 := by have := HW.out; omega
      have hts : t.size ≤ 281474976710656 := by omega
      have HH : Hid (t.size + s.size + 16 ≤ wt (L.take (k + 1))) := by have := HW.out; show _ ≤ _; omega
      clear HW hwk hwk1 ht hw
      generalize hN : L.length = N at *
      have HN := Lib.hid hN
      clear hN
      have hi : (k : Int) < N := by omega
      have b1 : Below wr.heap.size wr (wr.alloc (.cells #[.int .i64 kd, .int .i64 n, .string s] 55)) := (Below.refl _ _).alloc (Nat.le_refl _) _
      have hX := Arr.new wr 55 #[.int .i64 kd, .int .i64 n, .string s]
      have hI1 := hI.below b1
      have hB1 := hB.trans (b1.mono hB.size)
      have hne : w.heap.size ≠ wr.heap.size := by
        obtain ⟨cs, ha⟩ := hI1.arr
        exact ha.ne hX (by decide)
      have hKX : ∀ w2, (wr.alloc (.cells #[.int .i64 kd, .int .i64 n, .string s] 55)).grownBy w2 (some w.heap.size) → Arr w2 wr.heap.size 55 #[.int .i64 kd, .int .i64 n, .string s] := fun w2 k2 => hX.kept k2 (fun e => hne (Option.some.inj e).symm)
      have HKX := Lib.hid hKX
      have HNE := Lib.hid hne
      clear hX hKX hne b1 hB hI
      by_cases hk0 : kd = 0
      · subst hk0
        by_cases hr : n < 0 ∨ 4611686018427387904 ≤ n
        · have CN := numberIs_no n hr
          by_cases he : er = 0
          · subst he
            go_wp2_with fail
            have q := step_out w.heap.size t 0 n hr _ hI1
            (with_reducible refine q.mono ?_)
            clear q
            rintro _ w2 ⟨rfl, hI2, k2⟩
            have hB2 := below_gb hB1 k2 (Nat.le_refl _) hB1.size
            have x1 := (HKX.out _ k2).cell 1
            simp only [List.getElem?_toArray, List.getElem?_cons_zero, List.getElem?_cons_succ] at x1
            rw [if_pos rfl] at hI2
            clear hr k2
            go_wp2_with fail
            have q := CN w2
            (with_reducible refine q.mono ?_)
            clear q
            rintro _ w3 ⟨rfl, b3⟩
            go_wp2_with fail
            refine ⟨⟨k + 1, t, 3, by rw [HN.out]; omega, by go_num, rfl, rfl, by have := HH.out; omega, hI2.below b3, hB2.trans (b3.mono hB2.size)⟩, by simp [intOf]; omega⟩
          · have he1 : (er == 0) = false := by rw [beq_eq_false_iff_ne]; exact he
            go_wp2_with fail
            have q := step_out w.heap.size t er n hr _ hI1
            (with_reducible refine q.mono ?_)
            clear q
            rintro _ w2 ⟨rfl, hI2, k2⟩
            have hB2 := below_gb hB1 k2 (Nat.le_refl _) hB1.size
            have x1 := (HKX.out _ k2).cell 1
            simp only [List.getElem?_toArray, List.getElem?_cons_zero, List.getElem?_cons_succ] at x1
            rw [if_neg he] at hI2
            clear hr k2
            go_wp2_with fail
            have q := CN w2
            (with_reducible refine q.mono ?_)
            clear q
            rintro _ w3 ⟨rfl, b3⟩
            go_wp2_with fail
            rw [append_empty]
            refine ⟨⟨k + 1, t, er, by rw [HN.out]; omega, by go_num, rfl, rfl, by have := HH.out; omega, hI2.below b3, hB2.trans (b3.mono hB2.size)⟩, by simp [intOf]; omega⟩
        · obtain ⟨m, rfl⟩ := Int.eq_ofNat_of_zero_le (show 0 ≤ n by omega)
          have hm : m < 4611686018427387904 := by omega
          have CN := numberIs_yes m hm
          have hfull := num_full m
          have hl9 : (bs (num m)).size ≤ 9 := by rw [bs_size]; exact num_len9 m hm
          go_wp2_with fail
          have q := step_in w.heap.size t er m hm hts _ hI1
          (with_reducible refine q.mono ?_)
          clear q
          rintro _ w2 ⟨rfl, hI2, k2⟩
          have hB2 := below_gb hB1 k2 (Nat.le_refl _) hB1.size
          have x1 := (HKX.out _ k2).cell 1
          simp only [List.getElem?_toArray, List.getElem?_cons_zero, List.getElem?_cons_succ] at x1
          generalize bs (num m) = x at *
          clear hr k2 hm
          go_wp2_with fail
          have q := CN w2
          (with_reducible refine q.mono ?_)
          clear q
          rintro _ w3 ⟨rfl, b3⟩
          go_wp2_with fail
          refine ⟨⟨k + 1, t ++ x, er, by rw [HN.out]; omega, by go_num, rfl, rfl, by have := HH.out; rw [ByteArray.size_append]; omega, hI2.below b3, hB2.trans (b3.mono hB2.size)⟩, by simp [intOf]; omega⟩
      · have hk0' : (kd == 0) = false := by rw [beq_eq_false_iff_ne]; exact hk0
        by_cases hk1 : kd = 1
        · subst hk1
          have CT : RefTextIs s (bs (num s.size) ++ s) := fun W => RefText_any s hss W
          have hl9 : (bs (num s.size) ++ s).size ≤ 9 + s.size := by rw [ByteArray.size_append, bs_size]; have := num_len9 s.size (by omega); omega
          by_cases hlong : 4096 < s.size
          · have hlong' : (4096 : Int) < s.size := by omega
            generalize bs (num s.size) ++ s = y at *
            by_cases he : er = 0
            · subst he
              go_wp2_with fail
              have q := step_long w.heap.size t (t ++ y) 0 s hlong _ hI1
              (with_reducible refine q.mono ?_)
              clear q
              rintro _ w2 ⟨rfl, hI2, k2⟩
              have hB2 := below_gb hB1 k2 (Nat.le_refl _) hB1.size
              have x2 := (HKX.out _ k2).cell 2
              simp only [List.getElem?_toArray, List.getElem?_cons_zero, List.getElem?_cons_succ] at x2
              rw [if_pos rfl] at hI2
              clear k2
              go_wp2_with fail
              have q := CT w2
              (with_reducible refine q.mono ?_)
              clear q
              rintro _ w3 ⟨rfl, b3⟩
              go_wp2_with fail
              refine ⟨⟨k + 1, t ++ y, 1, by rw [HN.out]; omega, by go_num, rfl, rfl, by have := HH.out; rw [ByteArray.size_append]; omega, hI2.below b3, hB2.trans (b3.mono hB2.size)⟩, by simp [intOf]; omega⟩
            · have he1 : (er == 0) = false := by rw [beq_eq_false_iff_ne]; exact he
              go_wp2_with fail
              have q := step_long w.heap.size t (t ++ y) er s hlong _ hI1
              (with_reducible refine q.mono ?_)
              clear q
              rintro _ w2 ⟨rfl, hI2, k2⟩
              have hB2 := below_gb hB1 k2 (Nat.le_refl _) hB1.size
              have x2 := (HKX.out _ k2).cell 2
              simp only [List.getElem?_toArray, List.getElem?_cons_zero, List.getElem?_cons_succ] at x2
              rw [if_neg he] at hI2
              clear k2
              go_wp2_with fail
              have q := CT w2
              (with_reducible refine q.mono ?_)
              clear q
              rintro _ w3 ⟨rfl, b3⟩
              go_wp2_with fail
              refine ⟨⟨k + 1, t ++ y, er, by rw [HN.out]; omega, by go_num, rfl, rfl, by have := HH.out; rw [ByteArray.size_append]; omega, hI2.below b3, hB2.trans (b3.mono hB2.size)⟩, by simp [intOf]; omega⟩
          · have hlong' : ¬ (4096 : Int) < s.size := by omega
            have q0 := step_text w.heap.size t er s (by omega) hts _ hI1
            generalize bs (num s.size) ++ s = y at *
            have Q0 := Lib.hid q0
            clear q0
            go_wp2_with fail
            have q := Q0.out
            (with_reducible refine q.mono ?_)
            clear q
            rintro _ w2 ⟨rfl, hI2, k2⟩
            have hB2 := below_gb hB1 k2 (Nat.le_refl _) hB1.size
            have x2 := (HKX.out _ k2).cell 2
            simp only [List.getElem?_toArray, List.getElem?_cons_zero, List.getElem?_cons_succ] at x2
            clear k2
            go_wp2_with fail
            have q := CT w2
            (with_reducible refine q.mono ?_)
            clear q
            rintro _ w3 ⟨rfl, b3⟩
            go_wp2_with fail
            refine ⟨⟨k + 1, t ++ y, er, by rw [HN.out]; omega, by go_num, rfl, rfl, by have := HH.out; rw [ByteArray.size_append]; omega, hI2.below b3, hB2.trans (b3.mono hB2.size)⟩, by simp [intOf]; omega⟩
        · have hk1' : (kd == 1) = false := by rw [beq_eq_false_iff_ne]; exact hk1
          go_wp2_with fail
          have q := step_bytes w.heap.size t er s hss hts _ hI1
          (with_reducible refine q.mono ?_)
          clear q
          rintro _ w2 ⟨rfl, hI2, k2⟩
          have hB2 := below_gb hB1 k2 (Nat.le_refl _) hB1.size
          have x2 := (HKX.out _ k2).cell 2
          simp only [List.getElem?_toArray, List.getElem?_cons_zero, List.getElem?_cons_succ] at x2
          clear k2
          go_wp2_with fail
          refine ⟨⟨k + 1, t ++ s, er, by rw [HN.out]; omega, by go_num, rfl, rfl, by have := HH.out; rw [ByteArray.size_append]; omega, hI2, hB2⟩, by simp [intOf]; omega⟩
    · have hts : t.size ≤ 281474976710656 := by omega
      have q0 := step_done w.heap.size t er hts wr hI
      clear hP ht hw hwk hI
      generalize L.length = N at *
      have hi : ¬ (k : Int) < N := by omega
      by_cases he : er = 0
      · subst he
        rw [if_pos rfl] at q0
        have Q0 := Lib.hid q0
        clear q0
        go_wp2_with fail
        have q := Q0.out
        (with_reducible refine q.mono ?_)
        clear q
        rintro _ w2 ⟨rfl, b2⟩
        have hB2 := hB.trans (b2.mono hB.size)
        go_wp2_with fail
        (with_reducible refine (lawPuts_any _).mono ?_)
        rintro _ w3 ⟨rfl, b3⟩
        go_wp2_with fail
        go_ret
        exact ⟨rfl, hB2.trans (b3.mono hB2.size)⟩
      · rw [if_neg he] at q0
        have he1 : (er != 0) = true := by rw [bne_iff_ne]; exact he
        have Q0 := Lib.hid q0
        clear q0
        go_wp2_with fail
        have q := Q0.out
        (with_reducible refine q.mono ?_)
        clear q
        rintro _ w2 ⟨rfl, b2⟩
        have hB2 := hB.trans (b2.mono hB.size)
        go_wp2_with fail
        (with_reducible refine (lawPuts_any _).mono ?_)
        rintro _ w3 ⟨rfl, b3⟩
        go_wp2_with fail
        go_ret
        exact ⟨rfl, hB2.trans (b3.mono hB2.size)⟩
end Go.Proofs.Ytpfafgmafgfokaa
