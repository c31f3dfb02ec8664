/- Texts in one: PCur, PWSpec, PBack, OLinks. -/
import Derived.Test.YthigdhiebogffaaDoorIMap
import Derived.Test.YthigdhiebogffaaDoorORefCur
import Derived.Test.YthigdhiebogffaaDoorPAdd
import Derived.Test.YthigdhiebogffaaDoorOApp
import Derived.Test.YthigdhiebogffaaDoorSum
import Derived.Test.YthigdhiebogffaaDoorOGoodC
import Derived.Deep.Cut
/- The document's own cursor by a reader's states, of any length; the start of a representation, case by case. -/
namespace Go.Proofs.YthigdhiebogffaaDoor
open Go.RowKit

def CL (w : World) (g : Nat) : St → Prop
  | some l => Cu w g (bs l) 0 ∧ l.length ≤ 281474976710656
  | none => ∃ s e, (e != 0) = true ∧ Cu w g s e
theorem CL.lt {w : World} {g : Nat} {st : St} (h : CL w g st) : g < w.heap.size := by
  cases st with
  | none => obtain ⟨s, e, he, h⟩ := h; exact Arr.lt h
  | some l => exact Arr.lt h.1
theorem CL.kp {X : Nat → Prop} {w w' : World} {g : Nat} {st : St} (h : CL w g st) (k : Kp X w w') (hx : ¬ X g) : CL w' g st := by
  cases st with
  | none => obtain ⟨s, e, he, h⟩ := h; exact ⟨s, e, he, Arr.kp h k hx⟩
  | some l => exact ⟨Arr.kp h.1 k hx, h.2⟩
theorem CL.bel {w w' : World} {g : Nat} {st : St} (h : CL w g st) (k : Below w.heap.size w w') : CL w' g st := h.kp (X := fun _ => False) (Kp.bel k) (fun x => x)
/-- the error's cell of a cursor -/
theorem CL.bad {w : World} {g : Nat} (h : CL w g none) : ∃ e, (e != 0) = true ∧ w.cell? ⟨g, 1, none⟩ = some (.int .i64 e) := by
  obtain ⟨s, e, he, h⟩ := h
  exact ⟨e, he, h.c1⟩
theorem CL.ok {w : World} {g : Nat} {l : List UInt8} (h : CL w g (some l)) : w.cell? ⟨g, 0, none⟩ = some (.string (bs l)) ∧ w.cell? ⟨g, 1, none⟩ = some (.int .i64 0) := ⟨h.1.c0, h.1.c1⟩
def Cle (w : World) (g : Nat) (v : Value) (st : St) (x : Ending) (w' : World) : Prop := x = .returned v ∧ CL w' g st ∧ w.grownBy w' (some g)
theorem cl_num (g : Nat) (st : St) (w : World) (h : CL w g st) : Calls Tryd.prog 28 #[.pointer (some ⟨g, 0, none⟩)] w (Cle w g (.int .i64 ((stNum st).1 : Int)) (stNum st).2) := by
  cases st with
  | none =>
    obtain ⟨s, e, he, h⟩ := h
    exact (cnumber_bad g s e he w h).mono fun x w' ⟨h1, h2, h3⟩ => ⟨h1, ⟨s, e, he, h2⟩, h3⟩
  | some l =>
    obtain ⟨h, hl⟩ := h
    have hs : (bs l).size ≤ 281474976710656 := by rw [bs_size]; omega
    cases hg : got l with
    | none =>
      rw [show stNum (some l) = (0, none) from by simp [stNum, rdNum, hg]]
      exact (cnumber_go g (bs l) 0 0 2 (refGetIs_none _ hs (by rw [bs_list]; exact hg)) (by omega) w h).mono fun x w' ⟨h1, h2, h3⟩ => ⟨h1, ⟨_, 2, by decide, h2⟩, h3⟩
    | some y =>
      obtain ⟨n, k⟩ := y
      have hk := got_some _ _ _ hg
      rw [show stNum (some l) = (n, some (l.drop k)) from by simp [stNum, rdNum, hg]]
      refine (cnumber_go g (bs l) n k 0 (refGetIs_some _ hs n k (by rw [bs_list]; exact hg)) (by rw [bs_size]; exact hk.2.2.2.2) w h).mono fun x w' ⟨h1, h2, h3⟩ => ⟨h1, ⟨?_, by rw [List.length_drop]; omega⟩, h3⟩
      rw [bs_drop] at h2
      exact h2
theorem cl_take (g n : Nat) (st : St) (w : World) (h : CL w g st) : Calls Tryd.prog 29 #[.pointer (some ⟨g, 0, none⟩), .int .i64 (n : Int)] w (Cle w g (.string (stTake n st).1) (stTake n st).2) := by
  cases st with
  | none =>
    obtain ⟨s, e, he, h⟩ := h
    exact (ctake_bad g s n e he (by rw [beq_eq_false_iff_ne]; exact (bne_iff_ne).1 he) w h).mono fun x w' ⟨h1, h2, h3⟩ => ⟨h1, ⟨s, e, he, h2⟩, h3⟩
  | some l =>
    obtain ⟨h, hl⟩ := h
    by_cases h5 : n ≤ l.length
    · rw [show stTake n (some l) = (bs (l.take n), some (l.drop n)) from by simp only [stTake]; rw [if_pos h5]]
      refine (ctake_go g (bs l) n (by rw [bs_size]; exact h5) w h).mono fun x w' ⟨h1, h2, h3⟩ => ⟨?_, ⟨?_, ?_⟩, h3⟩
      · rw [h1, bs_head]
      · rw [bs_drop] at h2; exact h2
      · rw [List.length_drop]; omega
    · rw [show stTake n (some l) = (⟨#[]⟩, none) from by simp only [stTake]; rw [if_neg h5]]
      exact (ctake_no g (bs l) n (.inr (by rw [bs_size]; omega)) w h).mono fun x w' ⟨h1, h2, h3⟩ => ⟨h1, ⟨_, 2, by decide, h2⟩, h3⟩
theorem cl_txt (g : Nat) (l : List UInt8) (w : World) (h : CL w g (some l)) : Calls Tryd.prog 30 #[.pointer (some ⟨g, 0, none⟩)] w (Cle w g (.string (stTxt (some l)).1) (stTxt (some l)).2) := by
  obtain ⟨h, hl⟩ := h
  have hs : (bs l).size ≤ 281474976710656 := by rw [bs_size]; omega
  cases hg : got l with
  | none =>
    rw [show stTxt (some l) = (⟨#[]⟩, none) from by simp [stTxt, rdText, rdNum, hg]]
    exact (ctext_go g (bs l) ⟨#[]⟩ 0 2 (refText_none _ hs (by rw [bs_list]; exact hg)) (by omega) w h).mono fun x w' ⟨h1, h2, h3⟩ => ⟨h1, ⟨_, 2, by decide, h2⟩, h3⟩
  | some y =>
    obtain ⟨n, k⟩ := y
    have hk := (got_some _ _ _ hg).2.2.2.2
    by_cases h4 : n ≤ 4096
    · by_cases h5 : n ≤ (l.drop k).length
      · rw [show stTxt (some l) = (bs ((l.drop k).take n), some ((l.drop k).drop n)) from by simp only [stTxt, rdText, rdNum, hg]; rw [if_pos ⟨h4, h5⟩]]
        rw [List.length_drop] at h5
        refine (ctext_go g (bs l) _ (k + n) 0 (refText_yes _ hs n k (by rw [bs_list]; exact hg) h4 (by rw [bs_size]; omega)) (by rw [bs_size]; omega) w h).mono fun x w' ⟨h1, h2, h3⟩ => ⟨?_, ⟨?_, ?_⟩, h3⟩
        · rw [h1, bs_mid]
        · rw [bs_drop] at h2
          rw [List.drop_drop]
          exact h2
        · simp only [List.length_drop]; omega
      · rw [show stTxt (some l) = (⟨#[]⟩, none) from by simp only [stTxt, rdText, rdNum, hg]; rw [if_neg (fun q => h5 q.2)]]
        rw [List.length_drop] at h5
        exact (ctext_go g (bs l) ⟨#[]⟩ 0 2 (refText_short _ hs n k (by rw [bs_list]; exact hg) h4 (by rw [bs_size]; omega)) (by omega) w h).mono fun x w' ⟨h1, h2, h3⟩ => ⟨h1, ⟨_, 2, by decide, h2⟩, h3⟩
    · rw [show stTxt (some l) = (⟨#[]⟩, none) from by simp only [stTxt, rdText, rdNum, hg]; rw [if_neg (fun q => h4 q.1)]]
      exact (ctext_go g (bs l) ⟨#[]⟩ 0 1 (refText_long _ hs n k (by rw [bs_list]; exact hg) (by omega)) (by omega) w h).mono fun x w' ⟨h1, h2, h3⟩ => ⟨h1, ⟨_, 1, by decide, h2⟩, h3⟩
section
variable {l l1 l2 : List UInt8} {n h : Nat} {id : ByteArray}
theorem rdStart_bad (a : rdNum l = none) : rdStart l = none := by unfold rdStart; rw [a]
theorem rdStart_big (a : rdNum l = some (h, l1)) (b : 2 < h) : rdStart l = none := by
  unfold rdStart
  rw [a]
  simp only
  rw [if_neg (by omega), if_neg (by omega), if_neg (by omega)]
theorem rdStart_0n (a : rdNum l = some (0, l1)) (b : rdNum l1 = none) : rdStart l = none := by
  unfold rdStart
  rw [a]
  simp only
  rw [if_pos trivial, b]
theorem rdStart_0s (a : rdNum l = some (0, l1)) (b : rdNum l1 = some (n, l2)) (c : ¬ n ≤ l2.length) : rdStart l = none := by
  unfold rdStart
  rw [a]
  simp only
  rw [if_pos trivial, b]
  simp only
  rw [if_pos (by omega)]
theorem rdStart_0 (a : rdNum l = some (0, l1)) (b : rdNum l1 = some (n, l2)) (c : n ≤ l2.length) : rdStart l = some (⟨0, 0, ⟨#[]⟩, bs (l2.take n)⟩, l2.drop n) := by
  unfold rdStart
  rw [a]
  simp only
  rw [if_pos trivial, b]
  simp only
  rw [if_neg (by omega)]
theorem rdStart_1n (a : rdNum l = some (1, l1)) (b : rdNum l1 = none) : rdStart l = none := by
  unfold rdStart
  rw [a]
  simp only
  rw [if_neg (by omega), if_pos trivial, b]
theorem rdStart_1 (a : rdNum l = some (1, l1)) (b : rdNum l1 = some (n, l2)) : rdStart l = some (⟨1, n, ⟨#[]⟩, ⟨#[]⟩⟩, l2) := by
  unfold rdStart
  rw [a]
  simp only
  rw [if_neg (by omega), if_pos trivial, b]
theorem rdStart_2n (a : rdNum l = some (2, l1)) (b : rdId l1 = none) : rdStart l = none := by
  unfold rdStart
  rw [a]
  simp only
  rw [if_neg (by omega), if_neg (by omega), if_pos trivial, b]
theorem rdStart_2 (a : rdNum l = some (2, l1)) (b : rdId l1 = some (id, l2)) : rdStart l = some (⟨2, 0, id, ⟨#[]⟩⟩, l2) := by
  unfold rdStart
  rw [a]
  simp only
  rw [if_neg (by omega), if_neg (by omega), if_pos trivial, b]
end
section
variable {O T : List ByteArray} {D : List Nat} {l l1 l2 : List UInt8} {p : Rp} {b d : ByteArray} {n : Nat} {e : Int}
theorem objP_none (a : rdStart l = none) : objP O T D l = .error 2 := by unfold objP; rw [a]
theorem objP_whole (a : rdStart l = some (p, l1)) (h : p.way = 0) : objP O T D l = .ok (p.bytes, 0, l1) := by
  unfold objP
  rw [a]
  simp only
  rw [if_pos h]
theorem objP_base (a : rdStart l = some (p, l1)) (h : p.way ≠ 0) (k : baseP O T D p = .error e) : objP O T D l = .error e := by
  unfold objP
  rw [a]
  simp only
  rw [if_neg h, k]
theorem objP_text (a : rdStart l = some (p, l1)) (h : p.way ≠ 0) (k : baseP O T D p = .ok (b, n)) (t : rdText l1 = none) : objP O T D l = .error 2 := by
  unfold objP
  rw [a]
  simp only
  rw [if_neg h, k]
  simp only
  rw [t]
theorem objP_more (a : rdStart l = some (p, l1)) (h : p.way ≠ 0) (k : baseP O T D p = .ok (b, n)) (t : rdText l1 = some (d, l2)) :
    objP O T D l = if 8 ≤ n then .error 10 else if (applyD b.data.toList d.data.toList).2 ≠ 0 then .error (applyD b.data.toList d.data.toList).2 else .ok (bs (applyD b.data.toList d.data.toList).1, n + 1, l2) := by
  unfold objP
  rw [a]
  simp only
  rw [if_neg h, k]
  simp only
  rw [t]
end
end Go.Proofs.YthigdhiebogffaaDoor

/- What Write answers: a pack of these objects; how it is read. -/
namespace Go.Proofs.YthigdhiebogffaaDoor
open Go.RowKit

theorem sha_32 (l : List UInt8) : (sha l).length = 32 := digest_length _ (blocks_len8 _ _ (blocks_len8 _ _ rfl))
theorem dec_size {s : ByteArray} (h : (decO s.data.toList).2 = 0) : s.size ≤ 8192 := by
  unfold decO at h
  split at h
  · cases h
  · rename_i h3
    have : s.data.toList.length = s.size := rfl
    omega
/-- a representation of s behind the objects T, whose chains are D long -/
def Stp (T : List ByteArray) (D : List Nat) (s : ByteArray) (n : Nat) (e : List UInt8) : Prop :=
  (e = rep0 s ∧ n = 0) ∨
  (∃ (k m : Nat) (b d : ByteArray), T[k]? = some b ∧ D[k]? = some m ∧ m < 8 ∧ d.size ≤ 4096 ∧ applyD b.data.toList d.data.toList = (s.data.toList, 0) ∧ n = m + 1 ∧ e = rep1 k d ∧ e.length < (rep0 s).length ∧ k < 4611686018427387904)
inductive Packed : List ByteArray → List Nat → List UInt8 → Prop
  | nil : Packed [] [] []
  | snoc {T : List ByteArray} {D : List Nat} {l : List UInt8} {s : ByteArray} {n : Nat} {e : List UInt8} : Packed T D l → Stp T D s n e → Packed (T ++ [s]) (D ++ [n]) (l ++ e)
/-- what is wrong with these objects, behind those -/
def mayE : List ByteArray → List ByteArray → Int
  | _, [] => 0
  | T, s :: r => if addP T s ≠ 0 then addP T s else mayE (T ++ [s]) r
def mayP (l O : List ByteArray) : Int := if 400 < l.length ∨ 400 < O.length then 6 else mayE [] l
/-- the bytes a pack may take -/
def bulk : List ByteArray → Nat
  | [] => 0
  | s :: l => s.size + 3 + bulk l
theorem bulk_app : ∀ (a : List ByteArray) (s : ByteArray), bulk (a ++ [s]) = bulk a + (s.size + 3)
  | [], s => by simp [bulk]
  | x :: a, s => by rw [List.cons_append, bulk, bulk_app a s, bulk]; omega
theorem bulk_le : ∀ (a : List ByteArray), (∀ x ∈ a, x.size ≤ 8192) → bulk a ≤ 8195 * a.length
  | [], _ => by simp [bulk]
  | x :: a, h => by
    rw [bulk, List.length_cons]
    have := bulk_le a (fun y hy => h y (List.mem_cons_of_mem _ hy))
    have := h x List.mem_cons_self
    omega
theorem rep0_len (s : ByteArray) (hs : s.size ≤ 8192) : (rep0 s).length ≤ s.size + 3 := by
  unfold rep0
  rw [List.length_append, List.length_append]
  have h1 := num_2 s.size (by omega)
  have h2 : (num 0).length = 1 := by rw [num_small 0 (by omega)]; rfl
  have : s.data.toList.length = s.size := rfl
  omega
theorem stp_len {T : List ByteArray} {D : List Nat} {s : ByteArray} {n : Nat} {e : List UInt8} (h : Stp T D s n e) (hs : s.size ≤ 8192) : e.length ≤ s.size + 3 := by
  have h0 := rep0_len s hs
  rcases h with ⟨rfl, _⟩ | ⟨_, _, _, _, _, _, _, _, _, _, _, hl, _⟩
  · exact h0
  · omega
theorem packed_len {T : List ByteArray} {D : List Nat} {l : List UInt8} (h : Packed T D l) : (∀ x ∈ T, x.size ≤ 8192) → l.length ≤ bulk T := by
  induction h with
  | nil => intro _; exact Nat.zero_le _
  | snoc h1 h2 ih =>
    intro hT
    have a := ih (fun x hx => hT x (List.mem_append_left _ hx))
    have b := stp_len h2 (hT _ (by simp))
    rw [List.length_append, bulk_app]
    omega
theorem packed_deep {T : List ByteArray} {D : List Nat} {l : List UInt8} (h : Packed T D l) : T.length = D.length ∧ ∀ n ∈ D, n ≤ 8 := by
  induction h with
  | nil => exact ⟨rfl, fun n hn => by cases hn⟩
  | snoc h1 h2 ih =>
    refine ⟨by simp [ih.1], fun n hn => ?_⟩
    rcases List.mem_append.1 hn with h | h
    · exact ih.2 n h
    · rw [List.mem_singleton.1 h]
      rcases h2 with ⟨_, e⟩ | ⟨_, m, _, _, _, _, hm, _, _, e, _⟩ <;> omega
/-- bases of a pack under way -/
def LOk (T : List ByteArray) (D : List Nat) (L : List Pb) : Prop := ∀ b ∈ L, PbOk b ∧ b.deep < 8 ∧ T[b.index]? = some b.obj ∧ D[b.index]? = some b.deep
theorem lok_nil : LOk [] [] [] := fun b hb => by cases hb
theorem enc_stp {T : List ByteArray} {D : List Nat} {L : List Pb} {s : ByteArray} {n : Nat} {e : List UInt8} (hL : LOk T D L) (h : Enc L s n e) : Stp T D s n e := by
  rcases h with h | ⟨b, hb, d, hd, hap, hn, hlen, he⟩
  · exact .inl h
  · obtain ⟨h1, h2, t1, d1⟩ := hL b hb
    exact .inr ⟨b.index, b.deep, b.obj, d, t1, d1, h2, hd, hap, hn, he, hlen, h1.index⟩
theorem lok_more {T : List ByteArray} {D : List Nat} {L : List Pb} {s : ByteArray} {n : Nat} (hL : LOk T D L) (hT : T.length = D.length) (hs : s.size ≤ 8192) (hl : T.length < 4611686018427387904) (hn : n ≤ 8) :
    LOk (T ++ [s]) (D ++ [n]) (if 8 ≤ n then L else L ++ [⟨s, T.length, n⟩]) := by
  have old : LOk (T ++ [s]) (D ++ [n]) L := fun b hb => by
    obtain ⟨h1, h2, t1, d1⟩ := hL b hb
    have a1 := (List.getElem?_eq_some_iff.1 t1).1
    have a2 := (List.getElem?_eq_some_iff.1 d1).1
    exact ⟨h1, h2, by rw [List.getElem?_append_left a1]; exact t1, by rw [List.getElem?_append_left a2]; exact d1⟩
  by_cases h8 : 8 ≤ n
  · rw [if_pos h8]; exact old
  · rw [if_neg h8]
    intro b hb
    rcases List.mem_append.1 hb with h | h
    · exact old b h
    · rw [List.mem_singleton.1 h]
      refine ⟨⟨hs, hl, hn⟩, (by show n < 8; omega), ?_, ?_⟩
      · show (T ++ [s])[T.length]? = some s
        simp
      · show (D ++ [n])[T.length]? = some n
        rw [hT]
        simp
theorem may_next {l : List ByteArray} {k : Nat} {s : ByteArray} (h : l[k]? = some s) (hm : mayE [] l = mayE (l.take k) (l.drop k)) :
    mayE [] l = if addP (l.take k) s ≠ 0 then addP (l.take k) s else mayE (l.take (k + 1)) (l.drop (k + 1)) := by
  obtain ⟨hk, rfl⟩ := List.getElem?_eq_some_iff.1 h
  rw [hm, List.drop_eq_getElem_cons hk, mayE, take_next h]
/-- the pack's bytes ahead of the sum -/
def front (n : Nat) (l : List UInt8) : List UInt8 := [80] ++ num n ++ l
/-- behind Write -/
def WEndR (R : Int) (l : List ByteArray) (w : World) (x : Ending) (w' : World) : Prop :=
  (if R ≠ 0 then x = .returned (.tuple #[.string ⟨#[]⟩, .int .i64 R])
   else ∃ (D : List Nat) (b : List UInt8), Packed l D b ∧ (∀ x ∈ l, x.size ≤ 8192) ∧ x = .returned (.tuple #[.string (bs (front l.length b ++ sha (front l.length b))), .int .i64 0])) ∧ Below w.heap.size w w'
def WEnd (l O : List ByteArray) (w : World) (x : Ending) (w' : World) : Prop := WEndR (mayP l O) l w x w'
theorem wend_err {R : Int} {l : List ByteArray} {w w' : World} (h : R ≠ 0) (b : Below w.heap.size w w') : WEndR R l w (.returned (.tuple #[.string ⟨#[]⟩, .int .i64 R])) w' := ⟨by rw [if_pos h], b⟩
theorem wend_ok {l : List ByteArray} {w w' : World} {D : List Nat} {b : List UInt8} (h : Packed l D b) (hs : ∀ x ∈ l, x.size ≤ 8192) (k : Below w.heap.size w w') : WEndR 0 l w (.returned (.tuple #[.string (bs (front l.length b ++ sha (front l.length b))), .int .i64 0])) w' :=
  ⟨by rw [if_neg (by simp)]; exact ⟨D, b, h, hs, rfl⟩, k⟩
end Go.Proofs.YthigdhiebogffaaDoor

/- Reading what Write wrote: plain mathematics. -/
namespace Go.Proofs.YthigdhiebogffaaDoor
open Go.RowKit

theorem list_bytes (s : ByteArray) : s.data.toList.length = s.size := rfl
theorem rdText_of (s : ByteArray) (h : s.size ≤ 4096) (r : List UInt8) : rdText (txt s ++ r) = some (s, r) := by
  unfold rdText txt
  rw [List.append_assoc, rdNum_num _ (by omega)]
  simp only
  rw [if_pos ⟨h, by rw [List.length_append, list_bytes]; omega⟩]
  rw [List.take_left' (list_bytes s), List.drop_left' (list_bytes s), bs_of]
theorem idOf_size (x : ByteArray) : (idOf x).size = 32 := by unfold idOf; rw [bs_size, sha_32]
theorem start_rep0 (s : ByteArray) (hs : s.size < 4611686018427387904) (r : List UInt8) : rdStart (rep0 s ++ r) = some (⟨0, 0, ⟨#[]⟩, s⟩, r) := by
  have h1 : rdNum (rep0 s ++ r) = some (0, num s.size ++ s.data.toList ++ r) := by
    unfold rep0
    rw [List.append_assoc, rdNum_num _ (by omega)]
  have h2 : rdNum (num s.size ++ s.data.toList ++ r) = some (s.size, s.data.toList ++ r) := by
    rw [List.append_assoc, rdNum_num _ hs]
  rw [rdStart_0 h1 h2 (by rw [List.length_append, list_bytes]; omega), List.take_left' (list_bytes s), List.drop_left' (list_bytes s), bs_of]
theorem start_rep1 (k : Nat) (d : ByteArray) (hk : k < 4611686018427387904) (r : List UInt8) : rdStart (rep1 k d ++ r) = some (⟨1, k, ⟨#[]⟩, ⟨#[]⟩⟩, txt d ++ r) := by
  have h1 : rdNum (rep1 k d ++ r) = some (1, num k ++ txt d ++ r) := by
    unfold rep1
    rw [List.append_assoc, rdNum_num _ (by omega)]
  have h2 : rdNum (num k ++ txt d ++ r) = some (k, txt d ++ r) := by
    rw [List.append_assoc, rdNum_num _ hk]
  rw [rdStart_1 h1 h2]
section
variable {O2 T : List ByteArray} {D : List Nat} {s : ByteArray} {n : Nat} {e : List UInt8}
theorem obj_0 (hs : s.size < 4611686018427387904) (r : List UInt8) : objP O2 T D (rep0 s ++ r) = .ok (s, 0, r) := objP_whole (start_rep0 s hs r) rfl
theorem obj_delta {p : Rp} {b d : ByteArray} {m : Nat} {l r : List UInt8} (a : rdStart l = some (p, txt d ++ r)) (h : p.way ≠ 0) (k : baseP O2 T D p = .ok (b, m)) (hm : m < 8) (hd : d.size ≤ 4096) (hap : applyD b.data.toList d.data.toList = (s.data.toList, 0)) :
    objP O2 T D l = .ok (s, m + 1, r) := by
  rw [objP_more a h k (rdText_of d hd r), if_neg (by omega), hap]
  simp only [ne_eq, not_true_eq_false, if_false, bs_of]
theorem obj_1 {k m : Nat} {b d : ByteArray} (ht : T[k]? = some b) (hdm : D[k]? = some m) (hm : m < 8) (hd : d.size ≤ 4096) (hap : applyD b.data.toList d.data.toList = (s.data.toList, 0)) (hk : k < 4611686018427387904) (r : List UInt8) :
    objP O2 T D (rep1 k d ++ r) = .ok (s, m + 1, r) := by
  refine obj_delta (start_rep1 k d hk r) (by show (1 : Nat) ≠ 0; decide) (b := b) (m := m) ?_ hm hd hap
  unfold baseP
  rw [if_pos rfl]
  simp only
  rw [ht]
  simp only
  rw [List.getD_eq_getElem?_getD, hdm]
  rfl
theorem stp_read (h : Stp T D s n e) (hs : s.size ≤ 8192) (r : List UInt8) : objP O2 T D (e ++ r) = .ok (s, n, r) := by
  rcases h with ⟨rfl, rfl⟩ | ⟨k, m, b, d, ht, hdm, hm, hd, hap, rfl, rfl, _, hk⟩
  · exact obj_0 (by omega) r
  · exact obj_1 ht hdm hm hd hap hk r
end
/-- each of these may be added to those ahead of it -/
def AddOk (T : List ByteArray) : Prop := ∀ (k : Nat) (s : ByteArray), T[k]? = some s → addP (T.take k) s = 0
theorem addOk_init {T : List ByteArray} {s : ByteArray} (h : AddOk (T ++ [s])) : AddOk T ∧ addP T s = 0 := by
  refine ⟨fun k x hk => ?_, ?_⟩
  · have hlt := (List.getElem?_eq_some_iff.1 hk).1
    have := h k x (by rw [List.getElem?_append_left hlt]; exact hk)
    rw [List.take_append_of_le_length (Nat.le_of_lt hlt)] at this
    exact this
  · have := h T.length s (by simp)
    rw [List.take_left] at this
    exact this
theorem may_add : ∀ (l T : List ByteArray), mayE T l = 0 → ∀ (k : Nat) (s : ByteArray), l[k]? = some s → addP (T ++ l.take k) s = 0
  | [], T, _, k, s, hk => by simp at hk
  | x :: l, T, h, k, s, hk => by
    rw [mayE] at h
    by_cases h1 : addP T x ≠ 0
    · rw [if_pos h1] at h; exact absurd h h1
    · rw [if_neg h1] at h
      cases k with
      | zero =>
        simp at hk
        subst hk
        rw [List.take_zero, List.append_nil]
        omega
      | succ k =>
        rw [List.getElem?_cons_succ] at hk
        have := may_add l (T ++ [x]) h k s hk
        rw [List.append_assoc] at this
        exact this
theorem addOk_may {l O : List ByteArray} (h : mayP l O = 0) : AddOk l ∧ l.length ≤ 400 ∧ O.length ≤ 400 := by
  unfold mayP at h
  split at h
  · cases h
  · rename_i h1
    refine ⟨fun k s hk => ?_, by omega, by omega⟩
    have := may_add l [] h k s hk
    rwa [List.nil_append] at this
theorem un_packed {O2 : List ByteArray} {T : List ByteArray} {D : List Nat} {l : List UInt8} (h : Packed T D l) :
    AddOk T → (∀ x ∈ T, x.size ≤ 8192) → ∀ (m : Nat) (r : List UInt8), unP O2 (T.length + m) [] [] (l ++ r) = unP O2 m T D r := by
  induction h with
  | nil => intro _ _ m r; rw [List.length_nil, Nat.zero_add, List.nil_append]
  | @snoc T D l s n e h1 h2 ih =>
    intro ha hz m r
    obtain ⟨a1, a2⟩ := addOk_init ha
    have hs : s.size ≤ 8192 := hz s (by simp)
    rw [List.length_append, List.append_assoc, show T.length + [s].length + m = T.length + (m + 1) from by simp; omega, ih a1 (fun x hx => hz x (List.mem_append_left _ hx)) (m + 1) (e ++ r)]
    rw [unP, stp_read h2 hs r]
    simp only
    rw [if_neg (by rw [a2]; simp)]
theorem front_read (n : Nat) (hn : n ≤ 400) (b : List UInt8) (O2 : List ByteArray) : readP (front n b ++ sha (front n b)) O2 = match unP O2 n [] [] b with
    | .error e => ([], e)
    | .ok (T, q) => if q = [] then (T, 0) else ([], 2) := by
  have hl : (front n b ++ sha (front n b)).length - 32 = (front n b).length := by rw [List.length_append, sha_32]; omega
  have h1 : front n b = 80 :: (num n ++ b) := by unfold front; simp
  have h2 : 1 ≤ (front n b).length := by rw [h1]; simp
  unfold readP
  rw [if_neg, hl, List.take_left, List.drop_left, if_neg (by simp)]
  · rw [h1, List.drop_succ_cons, List.drop_zero]
    unfold bodyP
    rw [rdNum_num _ (by omega)]
    simp only
    rw [if_neg (by omega)]
    cases unP O2 n [] [] b <;> rfl
  · rintro (h | h)
    · rw [List.length_append, sha_32] at h; omega
    · rw [h1] at h
      simp at h
theorem read_back {O2 l : List ByteArray} {D : List Nat} {b : List UInt8} (h : Packed l D b) (ha : AddOk l) (hz : ∀ x ∈ l, x.size ≤ 8192) (hn : l.length ≤ 400) :
    readP (front l.length b ++ sha (front l.length b)) O2 = (l, 0) := by
  have h1 := un_packed (O2 := O2) h ha hz 0 []
  rw [Nat.add_zero, List.append_nil, unP] at h1
  rw [front_read _ hn, h1]
  simp
theorem front_len {l : List ByteArray} {D : List Nat} {b : List UInt8} (h : Packed l D b) (hz : ∀ x ∈ l, x.size ≤ 8192) (hn : l.length ≤ 400) : (front l.length b ++ sha (front l.length b)).length ≤ bulk l + 35 ∧ 34 ≤ (front l.length b ++ sha (front l.length b)).length := by
  have h1 := packed_len h hz
  have h2 := num_2 l.length (by omega)
  have h3 : 1 ≤ (num l.length).length := by
    rw [num]
    split <;> simp
  unfold front
  simp only [List.length_append, sha_32, List.length_cons, List.length_nil]
  omega
end Go.Proofs.YthigdhiebogffaaDoor

/- object.Links, ref.Links: their contracts. -/
namespace Go.Proofs.YthigdhiebogffaaDoor
open Go.RowKit

def linksL (o : Ob) : List ByteArray := if o.kind = 2 then o.ents.map (·.id) else if o.kind = 3 then o.tree :: o.pars else if o.kind = 4 then [o.target] else []
/-- behind Links -/
def LEnd (w : World) (T : List ByteArray) (x : Ending) (w' : World) : Prop := ∃ A c, x = .returned (.slice A T.length c) ∧ Txs w' w'.heap.size A T ∧ Below w.heap.size w w'
theorem lend_own {w W : World} {v : Value} {T : List ByteArray} {base : Nat} (h : W.ownsRow base 9 1 v T.length (T.map sv)) (b : Below w.heap.size w W) : LEnd w T (.returned v) W := by
  obtain ⟨A, c, rfl, _, hT, _⟩ := own_texts h
  exact ⟨A, c, rfl, hT, b⟩
def idsL (L : List Ent) : List ByteArray := L.map (·.id)
theorem idsL_step (L : List Ent) (k : Nat) (h : k < L.length) : idsL (L.take (k + 1)) = idsL (L.take k) ++ [L[k].id] := by
  unfold idsL
  rw [List.take_succ_eq_append_getElem h, List.map_append]
  rfl
theorem idsL_len (L : List Ent) (k : Nat) (h : k ≤ L.length) : (idsL (L.take k)).length = k := by
  unfold idsL
  rw [List.length_map, List.length_take]
  omega
/-- a round: the box, the ids so far -/
def LinkRel (w : World) (o : Ob) (p : At) (v i : Value) (wr : World) : Prop :=
  ∃ k : Nat, k ≤ o.ents.length ∧ i = .int .i64 (k : Int) ∧ Bx w o p wr ∧ wr.ownsRow (w.heap.size + 1) 9 1 v (idsL (o.ents.take k)).length ((idsL (o.ents.take k)).map sv)
theorem Bx.grow {w W W' : World} {o : Ob} {p : At} {r : Option Nat} (h : Bx w o p W) (k : W.grownBy W' r) (hr : ∀ q, r = some q → w.heap.size < q) : Bx w o p W' :=
  have hb : Below w.heap.size w W' := h.2.2.grown k h.2.2.size (fun q e => Nat.le_of_lt (hr q e))
  have hc : Below w.heap.size W W' := (Below.refl _ _).grown k h.2.2.size (fun q e => Nat.le_of_lt (hr q e))
  ⟨h.1.kept k (fun e => by have := hr _ e.symm; omega), h.2.1.below hc, hb⟩
theorem one_str (x : ByteArray) : ∀ u ∈ [Value.string x], u.oneCell' = true := by
  intro u hu
  simp at hu
  subst hu
  rfl

end Go.Proofs.YthigdhiebogffaaDoor
