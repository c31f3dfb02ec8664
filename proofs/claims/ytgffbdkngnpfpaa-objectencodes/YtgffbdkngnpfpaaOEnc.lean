/- An object's bytes; what is written behind one another. -/
import Derived.Test.YtgffbdkngnpfpaaOMem
import Derived.Test.YtgffbdkngnpfpaaWDone
namespace Go.Proofs.Ytgffbdkngnpfpaa
open Go.RowKit

/-- a text's bytes, its length ahead of it -/
def txt (s : ByteArray) : List UInt8 := num s.size ++ s.data.toList
def dirN (d : Bool) : Nat := if d then 1 else 0
def entL (e : Ent) : List UInt8 := txt e.name ++ (num (dirN e.dir) ++ e.id.data.toList)
def entsL : List Ent → List UInt8
  | [] => []
  | e :: l => entL e ++ entsL l
def parsL : List ByteArray → List UInt8
  | [] => []
  | p :: l => p.data.toList ++ parsL l
def fieldsL (o : Ob) : List UInt8 :=
  if o.kind = 1 then txt o.data else if o.kind = 2 then num o.ents.length ++ entsL o.ents
  else if o.kind = 3 then o.tree.data.toList ++ (num o.pars.length ++ (parsL o.pars ++ (txt o.who ++ (num o.time.toNat ++ txt o.note))))
  else o.target.data.toList ++ (txt o.who ++ txt o.note)
def encL (o : Ob) : List UInt8 := num o.kind.toNat ++ fieldsL o
/-- what Encode answers -/
def encS (o : Ob) : ByteArray := if good o ≠ 0 then ⟨#[]⟩ else if 8192 < (encL o).length then ⟨#[]⟩ else bs (encL o)
def encE (o : Ob) : Int := if good o ≠ 0 then good o else if 8192 < (encL o).length then 1 else 0

structure GoodF (o : Ob) : Prop where
  kind : o.kind = 1 ∨ o.kind = 2 ∨ o.kind = 3 ∨ o.kind = 4
  stray : strayB o = false
  data : o.data.size ≤ 4096
  who : o.who.size ≤ 4096
  note : o.note.size ≤ 4096
  ents : o.ents.length ≤ 64
  pars : o.pars.length ≤ 4
  each : entsB ⟨#[]⟩ o.ents = true
  ids : parsE [] o.pars = 0
  tree : o.kind = 3 → o.tree.size = 32
  target : o.kind = 4 → o.target.size = 32
  early : 0 ≤ o.time
  late : o.time < 1099511627776
theorem good_facts {o : Ob} (h : good o = 0) : GoodF o := by
  unfold good at h
  split at h
  · cases h
  rename_i h1
  split at h
  · cases h
  rename_i h2
  split at h
  · cases h
  rename_i h3
  split at h
  · cases h
  rename_i h4
  split at h
  · cases h
  rename_i h5
  split at h
  · rename_i h6; exact absurd h h6
  rename_i h6
  split at h
  · cases h
  rename_i h7
  split at h
  · cases h
  split at h
  · cases h
  rename_i h9
  unfold kindB at h1
  unfold longB at h3
  unfold fullB at h4
  unfold noIdB idB at h7
  unfold lateB at h9
  simp only [Bool.not_eq_true', Bool.not_eq_false, Bool.or_eq_true, Bool.and_eq_true, beq_iff_eq, decide_eq_true_eq, Bool.not_eq_true, not_or, not_and, beq_eq_false_iff_ne, ne_eq, Decidable.not_not] at *
  exact ⟨by omega, h2, by omega, by omega, by omega, by omega, by omega, h5, h6, h7.1, h7.2, by omega, by omega⟩
theorem entsB_all : ∀ (l : List Ent) (b : ByteArray), entsB b l = true → ∀ e ∈ l, e.name.size ≤ 60 ∧ e.id.size = 32
  | [], _, _, e, h => by cases h
  | x :: l, b, h, e, he => by
    rw [entsB] at h
    simp only [Bool.and_eq_true] at h
    obtain ⟨⟨⟨h1, h2⟩, _⟩, h4⟩ := h
    rcases List.mem_cons.1 he with rfl | he
    · unfold nameB at h1
      unfold idB at h2
      simp at h1 h2
      exact ⟨by omega, h2⟩
    · exact entsB_all l _ h4 e he
theorem parsE_all : ∀ (l had : List ByteArray), parsE had l = 0 → ∀ e ∈ l, e.size = 32
  | [], _, _, e, h => by cases h
  | x :: l, had, h, e, he => by
    rw [parsE] at h
    split at h
    · cases h
    · rename_i h1
      split at h
      · cases h
      · rcases List.mem_cons.1 he with rfl | he
        · unfold idB at h1; simpa using h1
        · exact parsE_all l _ h e he
theorem txt_len (s : ByteArray) (h : s.size ≤ 4096) : (txt s).length ≤ 4099 := by
  unfold txt
  rw [List.length_append]
  have := num_len3 s.size h
  have e : s.data.toList.length = s.size := rfl
  omega
theorem entsL_app : ∀ (a : List Ent) (e : Ent), entsL (a ++ [e]) = entsL a ++ entL e
  | [], e => by simp [entsL]
  | x :: a, e => by rw [List.cons_append, entsL, entsL_app a e, entsL, List.append_assoc]
theorem parsL_app : ∀ (a : List ByteArray) (e : ByteArray), parsL (a ++ [e]) = parsL a ++ e.data.toList
  | [], e => by simp [parsL]
  | x :: a, e => by rw [List.cons_append, parsL, parsL_app a e, parsL, List.append_assoc]
theorem entL_len (e : Ent) (h : e.name.size ≤ 60 ∧ e.id.size = 32) : (entL e).length ≤ 110 := by
  unfold entL txt
  simp only [List.length_append]
  have := num_len3 e.name.size (by omega)
  have := num_len3 (dirN e.dir) (by unfold dirN; split <;> omega)
  have e1 : e.name.data.toList.length = e.name.size := rfl
  have e2 : e.id.data.toList.length = e.id.size := rfl
  omega
theorem entsL_len : ∀ (l : List Ent), (∀ e ∈ l, e.name.size ≤ 60 ∧ e.id.size = 32) → (entsL l).length ≤ 110 * l.length
  | [], _ => by simp [entsL]
  | x :: l, h => by
    rw [entsL, List.length_append, List.length_cons]
    have := entL_len x (h x (by simp))
    have := entsL_len l (fun e he => h e (by simp [he]))
    omega
theorem parsL_len : ∀ (l : List ByteArray), (∀ e ∈ l, e.size = 32) → (parsL l).length = 32 * l.length
  | [], _ => by simp [parsL]
  | x :: l, h => by
    rw [parsL, List.length_append, List.length_cons, parsL_len l (fun e he => h e (by simp [he])), show x.data.toList.length = x.size from rfl, h x (by simp)]
    omega

/-- a writer of these bytes -/
def WL (w : World) (g : Nat) (l : List UInt8) : Prop := ∃ ps, WOk w g ps ∧ cat ps = l
def Wrote (w : World) (g : Nat) (l : List UInt8) (x : Ending) (w' : World) : Prop := x = .returned (.tuple #[]) ∧ WL w' g l ∧ w.grownBy w' (some g)
theorem WL.below {w w' : World} {g : Nat} {l : List UInt8} (h : WL w g l) (k : Below w.heap.size w w') : WL w' g l := by
  obtain ⟨ps, h1, h2⟩ := h
  exact ⟨ps, h1.below k, h2⟩
theorem WL.lt {w : World} {g : Nat} {l : List UInt8} (h : WL w g l) : g < w.heap.size := by
  obtain ⟨ps, ⟨v, ha, _⟩, _⟩ := h
  exact ha.lt
theorem wl_number (g : Nat) (l : List UInt8) (n : Nat) (hn : n < 4611686018427387904) (hl : l.length ≤ 281474976710656) (w : World) (h : WL w g l) :
    Calls Try.prog 20 #[.pointer (some ⟨g, 0, none⟩), .int .i64 (n : Int)] w (Wrote w g (l ++ num n)) := by
  obtain ⟨ps, h1, rfl⟩ := h
  refine (WNumber_ok g ps (n : Int) _ (putIs_yes ⟨#[]⟩ (by decide) n hn) (by rw [empty_append, bs_size]; have := num_len9 n hn; omega) hl w h1).mono fun x w' ⟨e, h2, h3⟩ => ⟨e, ⟨_, h2, ?_⟩, h3⟩
  rw [cat, empty_append, bs_list]
theorem wl_text (g : Nat) (l : List UInt8) (s : ByteArray) (hs : s.size ≤ 4096) (hl : l.length ≤ 281474976710656) (w : World) (h : WL w g l) :
    Calls Try.prog 42 #[.pointer (some ⟨g, 0, none⟩), .string s] w (Wrote w g (l ++ txt s)) := by
  obtain ⟨ps, h1, rfl⟩ := h
  refine (WText_ok g ps s _ (putTextIs_yes ⟨#[]⟩ s (by decide) hs) (by rw [empty_append, ByteArray.size_append, bs_size]; have := num_len9 s.size (by omega); omega) hl w h1).mono fun x w' ⟨e, h2, h3⟩ => ⟨e, ⟨_, h2, ?_⟩, h3⟩
  rw [cat, empty_append, append_list, bs_list]
  rfl
theorem wl_bytes (g : Nat) (l : List UInt8) (s : ByteArray) (hs : s.size ≤ 4096) (hl : l.length ≤ 281474976710656) (w : World) (h : WL w g l) :
    Calls Try.prog 44 #[.pointer (some ⟨g, 0, none⟩), .string s] w (Wrote w g (l ++ s.data.toList)) := by
  obtain ⟨ps, h1, rfl⟩ := h
  exact (WBytes_ok g ps s (by omega) hl w h1).mono fun x w' ⟨e, h2, h3⟩ => ⟨e, ⟨_, h2, rfl⟩, h3⟩
theorem dirNumber_any (d : Bool) (w : World) : Calls Try.prog 57 #[.bool d] w fun e w' => e = .returned (.int .i64 (dirN d : Int)) ∧ w = w' := by
  cases d
  · go_enter Try.func57, Try.ntmps57
    go_wp2_with fail
    go_ret
    exact ⟨rfl, rfl⟩
  · go_enter Try.func57, Try.ntmps57
    go_wp2_with fail
    go_ret
    exact ⟨rfl, rfl⟩

theorem sum_step (l n : List UInt8) (L : List Ent) (k : Nat) (hk : k < L.length) : l ++ n ++ entsL (L.take (k + 1)) = l ++ n ++ entsL (L.take k) ++ txt L[k].name ++ num (dirN L[k].dir) ++ L[k].id.data.toList := by
  rw [List.take_succ_eq_append_getElem hk, entsL_app, entL]
  simp only [List.append_assoc]

set_option maxRecDepth 100000 in
set_option maxHeartbeats 1000000 in
theorem writeEntries_any (L : List Ent) (hl : L.length ≤ 64) (hall : ∀ e ∈ L, e.name.size ≤ 60 ∧ e.id.size = 32) (A : Option Addr) (c g B : Nat) (hg : B ≤ g) (l : List UInt8) (hll : l.length ≤ 10000) (w : World) (hP : Ens w B A L) (hw : WL w g l) :
    Calls Try.prog 43 #[.pointer (some ⟨g, 0, none⟩), .slice A L.length c] w (Wrote w g (l ++ num L.length ++ entsL L)) := by
  have hgw := hw.lt
  go_enter Try.func43, Try.ntmps43
  go_wp2_with fail
  (with_reducible refine (wl_number g l L.length (by omega) (by omega) w hw).mono ?_)
  rintro _ w1 ⟨rfl, hw1, k1⟩
  clear hw
  go_wp2_with fail
  go_loopw [12] (fun i wr => ∃ k : Nat, k ≤ L.length ∧ i = .int .i64 (k : Int) ∧ WL wr g (l ++ num L.length ++ entsL (L.take k)) ∧ w.grownBy wr (some g)) (fun i _ => L.length - (intOf i).toNat)
  case atStart => exact ⟨0, Nat.zero_le _, rfl, by rw [List.take_zero, entsL, List.append_nil]; exact hw1, k1⟩
  case round =>
    obtain ⟨k, hk, rfl, hW, hK⟩ := hrel
    have hB := below_gb (B := B) (Below.refl _ w) hK hg (by omega)
    have hgr := hW.lt
    have hsm : (l ++ num L.length ++ entsL (L.take k)).length ≤ 20000 := by
      simp only [List.length_append]
      have := num_len3 L.length (by omega)
      have h1 := entsL_len (L.take k) (fun e he => hall e (List.mem_of_mem_take he))
      rw [List.length_take] at h1
      omega
    by_cases hlt : k < L.length
    · have hs := sum_step l (num L.length) L k hlt
      have HS := Lib.hid hs
      clear hs
      obtain ⟨ad, rfl, hbl, h0, h1, h2⟩ := hP k L[k] (List.getElem?_eq_getElem hlt)
      have g0 := (hB.cell hbl).trans h0
      have g1 := (hB.cell (p := ⟨(ad.add (k * 3)).block, (ad.add (k * 3)).off + 1, none⟩) hbl).trans h1
      have g2 := (hB.cell (p := ⟨(ad.add (k * 3)).block, (ad.add (k * 3)).off + 2, none⟩) hbl).trans h2
      have hi : (k : Int) < L.length := by omega
      obtain ⟨n1, n2⟩ := hall L[k] (List.getElem_mem hlt)
      clear h0 h1 h2 hP hall hB
      generalize L[k] = x at *
      obtain ⟨nm, dr, id⟩ := x
      simp only at g0 g1 g2 n1 n2 HS
      have hX := Arr.new wr 51 #[.string nm, .bool dr, .string id]
      have hW1 := hW.below ((Below.refl _ _).alloc (Nat.le_refl _) (.cells #[.string nm, .bool dr, .string id] 51))
      have hK1 := gb_trans hK (gb_alloc (r := some g) (.cells #[.string nm, .bool dr, .string id] 51))
      have hne : some wr.heap.size ≠ some g := fun e => by cases e; omega
      have hq1 := txt_len nm (by omega)
      have hq2 := num_len3 (dirN dr) (by unfold dirN; split <;> omega)
      have hd : dirN dr < 2 := by unfold dirN; split <;> omega
      clear hW hK
      generalize l ++ num L.length ++ entsL (L.take k) = l0 at *
      go_wp2_with fail
      (with_reducible refine (wl_text g l0 nm (by omega) (by omega) _ hW1).mono ?_)
      rintro _ w2 ⟨rfl, hW2, k2⟩
      have hX2 := hX.kept k2 hne
      have hK2 := gb_trans hK1 k2
      clear hX hW1 hK1 k2
      have c1 := hX2.cell 1
      simp only [List.getElem?_toArray, List.getElem?_cons_zero, List.getElem?_cons_succ] at c1
      go_wp2_with fail
      (with_reducible refine (dirNumber_any dr _).mono ?_)
      rintro _ _ ⟨rfl, rfl⟩
      go_wp2_with fail
      (with_reducible refine (wl_number g (l0 ++ txt nm) (dirN dr) (by omega) (by rw [List.length_append]; omega) _ hW2).mono ?_)
      rintro _ w3 ⟨rfl, hW3, k3⟩
      have hX3 := hX2.kept k3 hne
      have hK3 := gb_trans hK2 k3
      clear hX2 hW2 hK2 k3 c1
      have c2 := hX3.cell 2
      simp only [List.getElem?_toArray, List.getElem?_cons_zero, List.getElem?_cons_succ] at c2
      go_wp2_with fail
      (with_reducible refine (wl_bytes g (l0 ++ txt nm ++ num (dirN dr)) id (by omega) (by simp only [List.length_append]; omega) _ hW3).mono ?_)
      rintro _ w4 ⟨rfl, hW4, k4⟩
      go_wp2_with fail
      refine ⟨⟨k + 1, hlt, by go_num, ?_, gb_trans hK3 k4⟩, by simp [intOf]; omega⟩
      rw [HS.out]
      exact hW4
    · obtain rfl : k = L.length := by omega
      have hi : ¬ (L.length : Int) < L.length := by omega
      rw [List.take_length] at hW
      clear hP hall hB hsm
      go_wp2_with fail
      go_end0
      exact ⟨rfl, by rw [List.append_assoc] at hW; exact hW, hK⟩
set_option maxRecDepth 100000 in
theorem writeParents_any (T : List ByteArray) (hl : T.length ≤ 4) (hall : ∀ e ∈ T, e.size = 32) (A : Option Addr) (c g B : Nat) (hg : B ≤ g) (l : List UInt8) (hll : l.length ≤ 10000) (w : World) (hP : Txs w B A T) (hw : WL w g l) :
    Calls Try.prog 45 #[.pointer (some ⟨g, 0, none⟩), .slice A T.length c] w (Wrote w g (l ++ num T.length ++ parsL T)) := by
  have hgw := hw.lt
  go_enter Try.func45, Try.ntmps45
  go_wp2_with fail
  (with_reducible refine (wl_number g l T.length (by omega) (by omega) w hw).mono ?_)
  rintro _ w1 ⟨rfl, hw1, k1⟩
  clear hw
  go_wp2_with fail
  go_loopw [12] (fun i wr => ∃ k : Nat, k ≤ T.length ∧ i = .int .i64 (k : Int) ∧ WL wr g (l ++ num T.length ++ parsL (T.take k)) ∧ w.grownBy wr (some g)) (fun i _ => T.length - (intOf i).toNat)
  case atStart => exact ⟨0, Nat.zero_le _, rfl, by rw [List.take_zero, parsL, List.append_nil]; exact hw1, k1⟩
  case round =>
    obtain ⟨k, hk, rfl, hW, hK⟩ := hrel
    have hB := below_gb (B := B) (Below.refl _ w) hK hg (by omega)
    have hgr := hW.lt
    have hsm : (l ++ num T.length ++ parsL (T.take k)).length ≤ 20000 := by
      simp only [List.length_append]
      have := num_len3 T.length (by omega)
      have h1 := parsL_len (T.take k) (fun e he => hall e (List.mem_of_mem_take he))
      rw [List.length_take] at h1
      omega
    by_cases hlt : k < T.length
    · have HS : Hid (l ++ num T.length ++ parsL (T.take (k + 1)) = l ++ num T.length ++ parsL (T.take k) ++ T[k].data.toList) := by
        show _ = _
        rw [List.take_succ_eq_append_getElem hlt, parsL_app]
        simp only [List.append_assoc]
      obtain ⟨ad, rfl, hbl, h0⟩ := hP k T[k] (List.getElem?_eq_getElem hlt)
      have g0 := (hB.cell hbl).trans h0
      have hi : (k : Int) < T.length := by omega
      have n1 := hall T[k] (List.getElem_mem hlt)
      clear h0 hP hall hB
      generalize T[k] = x at *
      generalize l ++ num T.length ++ parsL (T.take k) = l0 at *
      go_wp2_with fail
      (with_reducible refine (wl_bytes g l0 x (by omega) (by omega) _ hW).mono ?_)
      rintro _ w4 ⟨rfl, hW4, k4⟩
      go_wp2_with fail
      refine ⟨⟨k + 1, hlt, by go_num, ?_, gb_trans hK k4⟩, by simp [intOf]; omega⟩
      rw [HS.out]
      exact hW4
    · obtain rfl : k = T.length := by omega
      have hi : ¬ (T.length : Int) < T.length := by omega
      rw [List.take_length] at hW
      clear hP hall hB hsm
      go_wp2_with fail
      go_end0
      exact ⟨rfl, by rw [List.append_assoc] at hW; exact hW, hK⟩
end Go.Proofs.Ytgffbdkngnpfpaa
