/- Texts in one: ORune, OMath. -/
import Derived.Test.YtilolbefeoibhaaDoorProg
import Derived.Test.YtilolbefeoibhaaDoorMem
import Derived.Lib.OthersKept
import Derived.Lib.MapLaws
import Derived.Deep.LoopGhost
import Derived.Shelf.Abstract
import Derived.Below
import Derived.Test.YtilolbefeoibhaaDoorDkMath
/- strings.ContainsFunc with a function that tells runes of 128 and more not apart: it goes by single bytes. -/
namespace Go.Proofs.YtilolbefeoibhaaDoor
open Go.RowKit Go.Lib

/-- byte j of a text (0 behind its end), as a number -/
def byteAt (s : ByteArray) (j : Nat) : Nat := (s.data.toList.getD j 0).toNat
theorem rune_bytes (p : Nat → Bool) (hc : ∀ x y, 128 ≤ x → 128 ≤ y → p x = p y) (s : ByteArray) (pos : Nat) :
    p (Utf8.decode s pos).1 = p (byteAt s pos) ∧ ∀ j, pos ≤ j → j < pos + (Utf8.decode s pos).2 → p (byteAt s j) = p (byteAt s pos) := by
  rw [Go.Lib.decode_N]
  have e0 : (s.data.toList.getD pos 0).toNat = byteAt s pos := rfl
  have e1 : (s.data.toList.getD (pos + 1) 0).toNat = byteAt s (pos + 1) := rfl
  have e2 : (s.data.toList.getD (pos + 2) 0).toNat = byteAt s (pos + 2) := rfl
  have e3 : (s.data.toList.getD (pos + 3) 0).toNat = byteAt s (pos + 3) := rfl
  rw [e0, e1, e2, e3]
  clear e0 e1 e2 e3
  by_cases h0 : byteAt s pos < 128
  · have e : ∀ n b1 b2 b3, decodeN n (byteAt s pos) b1 b2 b3 = (byteAt s pos, 1) := fun n b1 b2 b3 => by unfold decodeN; rw [if_pos h0]
    rw [e]
    refine ⟨rfl, fun j h1 h2 => ?_⟩
    have : j = pos := by simp only at h2; omega
    rw [this]
  · rcases decodeN_shape (s.data.toList.length - pos) (byteAt s pos) (byteAt s (pos + 1)) (byteAt s (pos + 2)) (byteAt s (pos + 3)) with ⟨q, _⟩ | ⟨q0, _, q1, hr, e⟩ | ⟨q0, _, q1, q2, hr, _, e⟩ | ⟨q0, _, q1, q2, q3, hr, _, e⟩ | e
    · exact absurd q h0
    · rw [e]
      refine ⟨hc _ _ (by simp only; omega) (by omega), fun j h1 h2 => ?_⟩
      simp only at h2
      obtain rfl | rfl : j = pos ∨ j = pos + 1 := by omega
      · rfl
      · exact hc _ _ (by omega) (by omega)
    · rw [e]
      refine ⟨hc _ _ (by simp only; omega) (by omega), fun j h1 h2 => ?_⟩
      simp only at h2
      obtain rfl | rfl | rfl : j = pos ∨ j = pos + 1 ∨ j = pos + 2 := by omega
      · rfl
      · exact hc _ _ (by omega) (by omega)
      · exact hc _ _ (by omega) (by omega)
    · rw [e]
      refine ⟨hc _ _ (by simp only; omega) (by omega), fun j h1 h2 => ?_⟩
      simp only at h2
      obtain rfl | rfl | rfl | rfl : j = pos ∨ j = pos + 1 ∨ j = pos + 2 ∨ j = pos + 3 := by omega
      · rfl
      · exact hc _ _ (by omega) (by omega)
      · exact hc _ _ (by omega) (by omega)
      · exact hc _ _ (by omega) (by omega)
    · rw [e]
      refine ⟨hc _ _ (by simp only; omega) (by omega), fun j h1 h2 => ?_⟩
      have : j = pos := by simp only at h2; omega
      rw [this]

/-- is there a byte of which p holds? -/
def hasB (p : Nat → Bool) (s : ByteArray) : Bool := s.data.toList.any fun b => p b.toNat
theorem hasB_no (p : Nat → Bool) (s : ByteArray) (h : ∀ j, j < s.size → p (byteAt s j) = false) : hasB p s = false := by
  unfold hasB
  rw [List.any_eq_false]
  intro b hb
  obtain ⟨j, hj, rfl⟩ := List.getElem_of_mem hb
  have := h j hj
  unfold byteAt at this
  rw [List.getD_eq_getElem?_getD, List.getElem?_eq_getElem hj] at this
  simpa using this
theorem hasB_yes (p : Nat → Bool) (s : ByteArray) (j : Nat) (hj : j < s.size) (h : p (byteAt s j) = true) : hasB p s = true := by
  unfold hasB
  rw [List.any_eq_true]
  unfold byteAt at h
  have hj' : j < s.data.toList.length := hj
  rw [List.getD_eq_getElem?_getD, List.getElem?_eq_getElem hj'] at h
  exact ⟨_, List.getElem_mem hj', by simpa using h⟩

/-- a function of runes that answers p -/
def Pred (g : Nat) (p : Nat → Bool) : Prop := ∀ (W : World) (x : Nat), x ≤ 1114111 → Calls Tryd.prog g #[.int .i32 (x : Int)] W fun e w' => e = .returned (.bool (p x)) ∧ W = w'

set_option maxHeartbeats 2000000 in
set_option maxRecDepth 100000 in
theorem indexFunc_any (g : Nat) (eg : ∀ args w, (callFunc g args).run Tryd.prog w = .ok (.enter g args) w) (p : Nat → Bool) (hc : ∀ x y, 128 ≤ x → 128 ≤ y → p x = p y) (hp : Pred g p) (s : ByteArray) (w : World) :
    Calls Tryd.prog 85 #[.string s, .func (.func g) #[] #[], .bool true] w fun e w' => (∃ n : Int, e = .returned (.int .i64 n) ∧ decide (0 ≤ n) = hasB p s) ∧ Below w.heap.size w w' := by
  go_enter Tryd.func85, Tryd.ntmps85
  go_wp2
  go_loopg [] s.size (fun gf wx => ∃ pos : Nat, wx.heap[w.heap.size]? = some (.stringIter s pos) ∧ Below w.heap.size w wx ∧ (∀ j, j < pos → p (byteAt s j) = false) ∧ s.size ≤ pos + gf)
  case atStart => exact ⟨0, World.iter_heap w s 0, (Below.refl _ w).alloc (Nat.le_refl _) _, fun j h => by omega, by omega⟩
  case round =>
    obtain ⟨pos, hit, hbw, hno, hfu⟩ := hrel
    by_cases hps : pos < s.size
    · obtain ⟨g', rfl⟩ : ∃ g', gk = g' + 1 := ⟨gk - 1, by omega⟩
      have hnx : ∀ ty, (Instr.next (.pointer (some ⟨w.heap.size, 0, none⟩)) true ty).run Tryd.prog wr = _ := fun ty => Lib.run_next_any_at wr w.heap.size s pos ty hit hps
      have hwd := Lib.width_pos s pos
      obtain ⟨hr1, hr2⟩ := rune_bytes p hc s pos
      have hle := Lib.rune_le s pos
      generalize (Utf8.decode s pos).1 = R at *
      generalize (Utf8.decode s pos).2 = K at *
      have hit2 := Lib.iterAt_heap wr w.heap.size s pos (pos + K) hit
      have hbw2 := Lib.below_iterAt hbw (k := w.heap.size) (Nat.le_refl _) s (pos + K)
      generalize wr.iterAt w.heap.size s (pos + K) = W at *
      have cS := hp W R hle
      cases hsp : p R <;> rw [hsp] at cS hr1
      · have hno2 : Hid (∀ j, j < pos + K → p (byteAt s j) = false) := fun j hj => by
          rcases Nat.lt_or_ge j pos with h | h
          · exact hno j h
          · rw [hr2 j h hj, ← hr1]
        clear hno hr2 hr1 hsp
        go_wp2_with (go_at_fn g; refine cS.mono ?_; rintro e W' ⟨rfl, rfl⟩)
        go_roundg g'
        case measure => omega
        case rel => exact ⟨pos + K, hit2, hbw2, hno2.out, by omega⟩
      · have hyes : Hid (hasB p s = true) := hasB_yes p s pos hps hr1.symm
        clear hno hr2 hr1 hsp
        go_wp2_with (go_at_fn g; refine cS.mono ?_; rintro e W' ⟨rfl, rfl⟩)
        go_ret
        exact ⟨⟨_, rfl, by rw [hyes.out]; simp⟩, hbw2⟩
    · have hnx : ∀ ty, (Instr.next (.pointer (some ⟨w.heap.size, 0, none⟩)) true ty).run Tryd.prog wr = _ := fun ty => Lib.run_next_end_at wr w.heap.size s pos ty hit hps
      have hnone : Hid (hasB p s = false) := hasB_no p s fun j hj => hno j (by omega)
      clear hno
      go_wp2
      go_ret
      exact ⟨⟨_, rfl, by rw [hnone.out]; rfl⟩, hbw⟩

theorem IndexFunc_any (g : Nat) (eg : ∀ args w, (callFunc g args).run Tryd.prog w = .ok (.enter g args) w) (p : Nat → Bool) (hc : ∀ x y, 128 ≤ x → 128 ≤ y → p x = p y) (hp : Pred g p) (s : ByteArray) (w : World) :
    Calls Tryd.prog 75 #[.string s, .func (.func g) #[] #[]] w fun e w' => (∃ n : Int, e = .returned (.int .i64 n) ∧ decide (0 ≤ n) = hasB p s) ∧ Below w.heap.size w w' := by
  have C := Lib.hid (indexFunc_any g eg p hc hp s w)
  clear hp hc
  go_enter Tryd.func75, Tryd.ntmps75
  go_wp2_with fail
  (with_reducible refine C.out.mono ?_)
  rintro _ w1 ⟨⟨n, rfl, hn⟩, b1⟩
  have Hn := Lib.hid hn
  clear hn
  go_wp2_with fail
  go_ret
  exact ⟨⟨n, rfl, Hn.out⟩, b1⟩
theorem ContainsFunc_any (g : Nat) (eg : ∀ args w, (callFunc g args).run Tryd.prog w = .ok (.enter g args) w) (p : Nat → Bool) (hc : ∀ x y, 128 ≤ x → 128 ≤ y → p x = p y) (hp : Pred g p) (s : ByteArray) (w : World) :
    Calls Tryd.prog 54 #[.string s, .func (.func g) #[] #[]] w fun e w' => e = .returned (.bool (hasB p s)) ∧ Below w.heap.size w w' := by
  have C := Lib.hid (IndexFunc_any g eg p hc hp s w)
  clear hp hc
  go_enter Tryd.func54, Tryd.ntmps54
  go_wp2_with fail
  (with_reducible refine C.out.mono ?_)
  rintro _ w1 ⟨⟨n, rfl, hn⟩, b1⟩
  have Hn := Lib.hid hn
  clear hn
  go_wp2_with fail
  go_ret
  exact ⟨by rw [← Hn.out]; rfl, b1⟩

theorem cast_eq (x k : Nat) : ((x : Int) == (k : Int)) = (x == k) := by
  rw [Bool.eq_iff_iff, beq_iff_eq, beq_iff_eq]
  omega
def zeroP (x : Nat) : Bool := x == 0
def barredP (x : Nat) : Bool := decide (x < 33) || decide (126 < x) || x == 47
theorem isZero_pred : Pred 55 zeroP := by
  intro W x hx
  go_enter Tryd.func55, Tryd.ntmps55
  go_wp2_with fail
  go_ret
  refine ⟨?_, rfl⟩
  unfold zeroP
  rw [← cast_eq x 0]
  rfl
theorem isForbidden_pred : Pred 83 barredP := by
  intro W x hx
  by_cases h1 : (x : Int) < 33
  · go_enter Tryd.func83, Tryd.ntmps83
    go_wp2_with fail
    go_ret
    refine ⟨?_, rfl⟩
    unfold barredP
    rw [decide_eq_true (by omega : x < 33)]
    rfl
  · by_cases h2 : 126 < (x : Int)
    · go_enter Tryd.func83, Tryd.ntmps83
      go_wp2_with fail
      go_ret
      refine ⟨?_, rfl⟩
      unfold barredP
      rw [decide_eq_true (by omega : 126 < x)]
      simp
    · go_enter Tryd.func83, Tryd.ntmps83
      go_wp2_with fail
      go_ret
      refine ⟨?_, rfl⟩
      unfold barredP
      rw [decide_eq_false (by omega : ¬ x < 33), decide_eq_false (by omega : ¬ 126 < x), ← cast_eq x 47]
      rfl
theorem enters_isZero (args : Array Value) (w : World) : (callFunc 55 args).run Tryd.prog w = .ok (.enter 55 args) w := enters_of Tryd.func55 (by kernel_rfl) rfl args w
theorem enters_isForbidden (args : Array Value) (w : World) : (callFunc 83 args).run Tryd.prog w = .ok (.enter 83 args) w := enters_of Tryd.func83 (by kernel_rfl) rfl args w
/-- a text with a byte 0 -/
abbrev hasZero (s : ByteArray) : Bool := hasB zeroP s
abbrev hasBarred (s : ByteArray) : Bool := hasB barredP s
theorem zero_any (s : ByteArray) (w : World) : Calls Tryd.prog 54 #[.string s, .func (.func 55) #[] #[]] w fun e w' => e = .returned (.bool (hasZero s)) ∧ Below w.heap.size w w' :=
  ContainsFunc_any _ enters_isZero zeroP (fun x y hx hy => by unfold zeroP; rw [beq_eq_false_iff_ne.2 (by omega : x ≠ 0), beq_eq_false_iff_ne.2 (by omega : y ≠ 0)]) isZero_pred s w
theorem barred_any (s : ByteArray) (w : World) : Calls Tryd.prog 54 #[.string s, .func (.func 83) #[] #[]] w fun e w' => e = .returned (.bool (hasBarred s)) ∧ Below w.heap.size w w' :=
  ContainsFunc_any _ enters_isForbidden barredP (fun x y hx hy => by unfold barredP; rw [decide_eq_true (by omega : 126 < x), decide_eq_true (by omega : 126 < y)]; simp) isForbidden_pred s w
end Go.Proofs.YtilolbefeoibhaaDoor

/- Objects, their bytes, and what is wrong with them: plain definitions. -/
namespace Go.Proofs.YtilolbefeoibhaaDoor
open Go.RowKit

structure Ent where
  name : ByteArray
  dir : Bool
  id : ByteArray
  deriving DecidableEq
structure Ob where
  kind : Int
  data : ByteArray
  ents : List Ent
  tree : ByteArray
  pars : List ByteArray
  who : ByteArray
  note : ByteArray
  time : Int
  target : ByteArray
  deriving DecidableEq
def Ob.none : Ob := ⟨0, ⟨#[]⟩, [], ⟨#[]⟩, [], ⟨#[]⟩, ⟨#[]⟩, 0, ⟨#[]⟩⟩

/-- an empty text -/
def nilB (s : ByteArray) : Bool := s.toList == (⟨#[]⟩ : ByteArray).toList
def eqB (a b : ByteArray) : Bool := a.toList == b.toList
def leB (a b : ByteArray) : Bool := Op.bytesLess a.toList b.toList || a.toList == b.toList
theorem eqB_iff (a b : ByteArray) : eqB a b = true ↔ a = b := by
  unfold eqB
  rw [beq_iff_eq, toList_data, toList_data]
  exact ⟨bytes_eq, fun h => by rw [h]⟩
theorem nilB_iff (a : ByteArray) : nilB a = true ↔ a = ⟨#[]⟩ := eqB_iff a _

def kindB (k : Int) : Bool := k == 1 || k == 2 || k == 3 || k == 4
def strayB (o : Ob) : Bool :=
  (o.kind != 1 && !nilB o.data) || (o.kind != 2 && decide (0 < o.ents.length)) || (o.kind != 3 && (!nilB o.tree || decide (0 < o.pars.length) || o.time != 0)) ||
  (o.kind != 4 && !nilB o.target) || (o.kind != 3 && o.kind != 4 && (!nilB o.who || !nilB o.note))
def longB (o : Ob) : Bool := decide (4096 < o.data.size) || decide (4096 < o.who.size) || decide (4096 < o.note.size)
def fullB (o : Ob) : Bool := decide (64 < o.ents.length) || decide (4 < o.pars.length)
def nameB (s : ByteArray) : Bool := !(nilB s || decide (60 < s.size) || eqB s ⟨#[46]⟩ || eqB s ⟨#[46, 46]⟩) && !hasBarred s
def idB (s : ByteArray) : Bool := s.size == 32
def entsB : ByteArray → List Ent → Bool
  | _, [] => true
  | b, e :: l => nameB e.name && idB e.id && !leB e.name b && entsB e.name l
def parsE : List ByteArray → List ByteArray → Int
  | _, [] => 0
  | had, p :: l => if !idB p then 2 else if had.any (eqB p) then 8 else parsE (had ++ [p]) l
def noIdB (o : Ob) : Bool := (o.kind == 3 && !idB o.tree) || (o.kind == 4 && !idB o.target)
def zeroB (o : Ob) : Bool := hasZero o.who || hasZero o.note
def lateB (o : Ob) : Bool := decide (o.time < 0) || decide (1099511627776 ≤ o.time)
/-- what Good answers -/
def good (o : Ob) : Int :=
  if !kindB o.kind then 4 else if strayB o then 2 else if longB o then 1 else if fullB o then 6 else if !entsB ⟨#[]⟩ o.ents then 2
  else if parsE [] o.pars ≠ 0 then parsE [] o.pars else if noIdB o then 2 else if zeroB o then 2 else if lateB o then 3 else 0
end Go.Proofs.YtilolbefeoibhaaDoor
