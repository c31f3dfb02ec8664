/- Texts in one: ORune, OMath, WRead. -/
import Derived.Test.YtmikfmcgddmplaaGreatDoorProg
import Derived.Test.YtmikfmcgddmplaaGreatDoorMem
import Derived.Lib.OthersKept
import Derived.Lib.MapLaws
import Derived.Deep.LoopGhost
import Derived.Shelf.Abstract
import Derived.Below
import Derived.Test.YtmikfmcgddmplaaGreatDoorRdn
/- strings.ContainsFunc with a function that tells runes of 128 and more not apart: it goes by single bytes. -/
namespace Go.Proofs.YtmikfmcgddmplaaGreatDoor
open Go.RowKit Go.Lib

/-- byte j of a text (0 behind its end), as a number -/
def byteAt (s : ByteArray) (j : Nat) : Nat := (s.data.toList.getD j 0).toNat
theorem rune_bytes (p : Nat → Bool) (hc : ∀ x y, 128 ≤ x → 128 ≤ y → p x = p y) (s : ByteArray) (pos : Nat) :
    p (Utf8.decode s pos).1 = p (byteAt s pos) ∧ ∀ j, pos ≤ j → j < pos + (Utf8.decode s pos).2 → p (byteAt s j) = p (byteAt s pos) := by
  rw [Go.Lib.decode_N]
  have e0 : (s.data.toList.getD pos 0).toNat = byteAt s pos := rfl
  have e1 : (s.data.toList.getD (pos + 1) 0).toNat = byteAt s (pos + 1) := rfl
  have e2 : (s.data.toList.getD (pos + 2) 0).toNat = byteAt s (pos + 2) := rfl
  have e3 : (s.data.toList.getD (pos + 3) 0).toNat = byteAt s (pos + 3) := rfl
  rw [e0, e1, e2, e3]
  clear e0 e1 e2 e3
  by_cases h0 : byteAt s pos < 128
  · have e : ∀ n b1 b2 b3, decodeN n (byteAt s pos) b1 b2 b3 = (byteAt s pos, 1) := fun n b1 b2 b3 => by unfold decodeN; rw [if_pos h0]
    rw [e]
    refine ⟨rfl, fun j h1 h2 => ?_⟩
    have : j = pos := by simp only at h2; omega
    rw [this]
  · rcases decodeN_shape (s.data.toList.length - pos) (byteAt s pos) (byteAt s (pos + 1)) (byteAt s (pos + 2)) (byteAt s (pos + 3)) with ⟨q, _⟩ | ⟨q0, _, q1, hr, e⟩ | ⟨q0, _, q1, q2, hr, _, e⟩ | ⟨q0, _, q1, q2, q3, hr, _, e⟩ | e
    · exact absurd q h0
    · rw [e]
      refine ⟨hc _ _ (by simp only; omega) (by omega), fun j h1 h2 => ?_⟩
      simp only at h2
      obtain rfl | rfl : j = pos ∨ j = pos + 1 := by omega
      · rfl
      · exact hc _ _ (by omega) (by omega)
    · rw [e]
      refine ⟨hc _ _ (by simp only; omega) (by omega), fun j h1 h2 => ?_⟩
      simp only at h2
      obtain rfl | rfl | rfl : j = pos ∨ j = pos + 1 ∨ j = pos + 2 := by omega
      · rfl
      · exact hc _ _ (by omega) (by omega)
      · exact hc _ _ (by omega) (by omega)
    · rw [e]
      refine ⟨hc _ _ (by simp only; omega) (by omega), fun j h1 h2 => ?_⟩
      simp only at h2
      obtain rfl | rfl | rfl | rfl : j = pos ∨ j = pos + 1 ∨ j = pos + 2 ∨ j = pos + 3 := by omega
      · rfl
      · exact hc _ _ (by omega) (by omega)
      · exact hc _ _ (by omega) (by omega)
      · exact hc _ _ (by omega) (by omega)
    · rw [e]
      refine ⟨hc _ _ (by simp only; omega) (by omega), fun j h1 h2 => ?_⟩
      have : j = pos := by simp only at h2; omega
      rw [this]

/-- is there a byte of which p holds? -/
def hasB (p : Nat → Bool) (s : ByteArray) : Bool := s.data.toList.any fun b => p b.toNat
theorem hasB_no (p : Nat → Bool) (s : ByteArray) (h : ∀ j, j < s.size → p (byteAt s j) = false) : hasB p s = false := by
  unfold hasB
  rw [List.any_eq_false]
  intro b hb
  obtain ⟨j, hj, rfl⟩ := List.getElem_of_mem hb
  have := h j hj
  unfold byteAt at this
  rw [List.getD_eq_getElem?_getD, List.getElem?_eq_getElem hj] at this
  simpa using this
theorem hasB_yes (p : Nat → Bool) (s : ByteArray) (j : Nat) (hj : j < s.size) (h : p (byteAt s j) = true) : hasB p s = true := by
  unfold hasB
  rw [List.any_eq_true]
  unfold byteAt at h
  have hj' : j < s.data.toList.length := hj
  rw [List.getD_eq_getElem?_getD, List.getElem?_eq_getElem hj'] at h
  exact ⟨_, List.getElem_mem hj', by simpa using h⟩

/-- a function of runes that answers p -/
def Pred (g : Nat) (p : Nat → Bool) : Prop := ∀ (W : World) (x : Nat), x ≤ 1114111 → Calls Tryz.prog g #[.int .i32 (x : Int)] W fun e w' => e = .returned (.bool (p x)) ∧ W = w'

set_option maxHeartbeats 2000000 in
set_option maxRecDepth 100000 in
theorem indexFunc_any (g : Nat) (eg : ∀ args w, (callFunc g args).run Tryz.prog w = .ok (.enter g args) w) (p : Nat → Bool) (hc : ∀ x y, 128 ≤ x → 128 ≤ y → p x = p y) (hp : Pred g p) (s : ByteArray) (w : World) :
    Calls Tryz.prog 156 #[.string s, .func (.func g) #[] #[], .bool true] w fun e w' => (∃ n : Int, e = .returned (.int .i64 n) ∧ decide (0 ≤ n) = hasB p s) ∧ Below w.heap.size w w' := by
  go_enter Tryz.func156, Tryz.ntmps156
  go_wp2
  go_loopg [] s.size (fun gf wx => ∃ pos : Nat, wx.heap[w.heap.size]? = some (.stringIter s pos) ∧ Below w.heap.size w wx ∧ (∀ j, j < pos → p (byteAt s j) = false) ∧ s.size ≤ pos + gf)
  case atStart => exact ⟨0, World.iter_heap w s 0, (Below.refl _ w).alloc (Nat.le_refl _) _, fun j h => by omega, by omega⟩
  case round =>
    obtain ⟨pos, hit, hbw, hno, hfu⟩ := hrel
    by_cases hps : pos < s.size
    · obtain ⟨g', rfl⟩ : ∃ g', gk = g' + 1 := ⟨gk - 1, by omega⟩
      have hnx : ∀ ty, (Instr.next (.pointer (some ⟨w.heap.size, 0, none⟩)) true ty).run Tryz.prog wr = _ := fun ty => Lib.run_next_any_at wr w.heap.size s pos ty hit hps
      have hwd := Lib.width_pos s pos
      obtain ⟨hr1, hr2⟩ := rune_bytes p hc s pos
      have hle := Lib.rune_le s pos
      generalize (Utf8.decode s pos).1 = R at *
      generalize (Utf8.decode s pos).2 = K at *
      have hit2 := Lib.iterAt_heap wr w.heap.size s pos (pos + K) hit
      have hbw2 := Lib.below_iterAt hbw (k := w.heap.size) (Nat.le_refl _) s (pos + K)
      generalize wr.iterAt w.heap.size s (pos + K) = W at *
      have cS := hp W R hle
      cases hsp : p R <;> rw [hsp] at cS hr1
      · have hno2 : Hid (∀ j, j < pos + K → p (byteAt s j) = false) := fun j hj => by
          rcases Nat.lt_or_ge j pos with h | h
          · exact hno j h
          · rw [hr2 j h hj, ← hr1]
        clear hno hr2 hr1 hsp
        go_wp2_with (go_at_fn g; refine cS.mono ?_; rintro e W' ⟨rfl, rfl⟩)
        go_roundg g'
        case measure => omega
        case rel => exact ⟨pos + K, hit2, hbw2, hno2.out, by omega⟩
      · have hyes : Hid (hasB p s = true) := hasB_yes p s pos hps hr1.symm
        clear hno hr2 hr1 hsp
        go_wp2_with (go_at_fn g; refine cS.mono ?_; rintro e W' ⟨rfl, rfl⟩)
        go_ret
        exact ⟨⟨_, rfl, by rw [hyes.out]; simp⟩, hbw2⟩
    · have hnx : ∀ ty, (Instr.next (.pointer (some ⟨w.heap.size, 0, none⟩)) true ty).run Tryz.prog wr = _ := fun ty => Lib.run_next_end_at wr w.heap.size s pos ty hit hps
      have hnone : Hid (hasB p s = false) := hasB_no p s fun j hj => hno j (by omega)
      clear hno
      go_wp2
      go_ret
      exact ⟨⟨_, rfl, by rw [hnone.out]; rfl⟩, hbw⟩

theorem IndexFunc_any (g : Nat) (eg : ∀ args w, (callFunc g args).run Tryz.prog w = .ok (.enter g args) w) (p : Nat → Bool) (hc : ∀ x y, 128 ≤ x → 128 ≤ y → p x = p y) (hp : Pred g p) (s : ByteArray) (w : World) :
    Calls Tryz.prog 145 #[.string s, .func (.func g) #[] #[]] w fun e w' => (∃ n : Int, e = .returned (.int .i64 n) ∧ decide (0 ≤ n) = hasB p s) ∧ Below w.heap.size w w' := by
  have C := Lib.hid (indexFunc_any g eg p hc hp s w)
  clear hp hc
  go_enter Tryz.func145, Tryz.ntmps145
  go_wp2_with fail
  (with_reducible refine C.out.mono ?_)
  rintro _ w1 ⟨⟨n, rfl, hn⟩, b1⟩
  have Hn := Lib.hid hn
  clear hn
  go_wp2_with fail
  go_ret
  exact ⟨⟨n, rfl, Hn.out⟩, b1⟩
theorem ContainsFunc_any (g : Nat) (eg : ∀ args w, (callFunc g args).run Tryz.prog w = .ok (.enter g args) w) (p : Nat → Bool) (hc : ∀ x y, 128 ≤ x → 128 ≤ y → p x = p y) (hp : Pred g p) (s : ByteArray) (w : World) :
    Calls Tryz.prog 118 #[.string s, .func (.func g) #[] #[]] w fun e w' => e = .returned (.bool (hasB p s)) ∧ Below w.heap.size w w' := by
  have C := Lib.hid (IndexFunc_any g eg p hc hp s w)
  clear hp hc
  go_enter Tryz.func118, Tryz.ntmps118
  go_wp2_with fail
  (with_reducible refine C.out.mono ?_)
  rintro _ w1 ⟨⟨n, rfl, hn⟩, b1⟩
  have Hn := Lib.hid hn
  clear hn
  go_wp2_with fail
  go_ret
  exact ⟨by rw [← Hn.out]; rfl, b1⟩

theorem cast_eq (x k : Nat) : ((x : Int) == (k : Int)) = (x == k) := by
  rw [Bool.eq_iff_iff, beq_iff_eq, beq_iff_eq]
  omega
def zeroP (x : Nat) : Bool := x == 0
def barredP (x : Nat) : Bool := decide (x < 33) || decide (126 < x) || x == 47
theorem isZero_pred : Pred 119 zeroP := by
  intro W x hx
  go_enter Tryz.func119, Tryz.ntmps119
  go_wp2_with fail
  go_ret
  refine ⟨?_, rfl⟩
  unfold zeroP
  rw [← cast_eq x 0]
  rfl
theorem isForbidden_pred : Pred 154 barredP := by
  intro W x hx
  by_cases h1 : (x : Int) < 33
  · go_enter Tryz.func154, Tryz.ntmps154
    go_wp2_with fail
    go_ret
    refine ⟨?_, rfl⟩
    unfold barredP
    rw [decide_eq_true (by omega : x < 33)]
    rfl
  · by_cases h2 : 126 < (x : Int)
    · go_enter Tryz.func154, Tryz.ntmps154
      go_wp2_with fail
      go_ret
      refine ⟨?_, rfl⟩
      unfold barredP
      rw [decide_eq_true (by omega : 126 < x)]
      simp
    · go_enter Tryz.func154, Tryz.ntmps154
      go_wp2_with fail
      go_ret
      refine ⟨?_, rfl⟩
      unfold barredP
      rw [decide_eq_false (by omega : ¬ x < 33), decide_eq_false (by omega : ¬ 126 < x), ← cast_eq x 47]
      rfl
theorem enters_isZero (args : Array Value) (w : World) : (callFunc 119 args).run Tryz.prog w = .ok (.enter 119 args) w := enters_of Tryz.func119 (by kernel_rfl) rfl args w
theorem enters_isForbidden (args : Array Value) (w : World) : (callFunc 154 args).run Tryz.prog w = .ok (.enter 154 args) w := enters_of Tryz.func154 (by kernel_rfl) rfl args w
/-- a text with a byte 0 -/
abbrev hasZero (s : ByteArray) : Bool := hasB zeroP s
abbrev hasBarred (s : ByteArray) : Bool := hasB barredP s
theorem zero_any (s : ByteArray) (w : World) : Calls Tryz.prog 118 #[.string s, .func (.func 119) #[] #[]] w fun e w' => e = .returned (.bool (hasZero s)) ∧ Below w.heap.size w w' :=
  ContainsFunc_any _ enters_isZero zeroP (fun x y hx hy => by unfold zeroP; rw [beq_eq_false_iff_ne.2 (by omega : x ≠ 0), beq_eq_false_iff_ne.2 (by omega : y ≠ 0)]) isZero_pred s w
theorem barred_any (s : ByteArray) (w : World) : Calls Tryz.prog 118 #[.string s, .func (.func 154) #[] #[]] w fun e w' => e = .returned (.bool (hasBarred s)) ∧ Below w.heap.size w w' :=
  ContainsFunc_any _ enters_isForbidden barredP (fun x y hx hy => by unfold barredP; rw [decide_eq_true (by omega : 126 < x), decide_eq_true (by omega : 126 < y)]; simp) isForbidden_pred s w
end Go.Proofs.YtmikfmcgddmplaaGreatDoor

/- Objects, their bytes, and what is wrong with them: plain definitions. -/
namespace Go.Proofs.YtmikfmcgddmplaaGreatDoor
open Go.RowKit

structure Ent where
  name : ByteArray
  dir : Bool
  id : ByteArray
  deriving DecidableEq
structure Ob where
  kind : Int
  data : ByteArray
  ents : List Ent
  tree : ByteArray
  pars : List ByteArray
  who : ByteArray
  note : ByteArray
  time : Int
  target : ByteArray
  deriving DecidableEq
def Ob.none : Ob := ⟨0, ⟨#[]⟩, [], ⟨#[]⟩, [], ⟨#[]⟩, ⟨#[]⟩, 0, ⟨#[]⟩⟩

/-- an empty text -/
def nilB (s : ByteArray) : Bool := s.toList == (⟨#[]⟩ : ByteArray).toList
def eqB (a b : ByteArray) : Bool := a.toList == b.toList
def leB (a b : ByteArray) : Bool := Op.bytesLess a.toList b.toList || a.toList == b.toList
theorem eqB_iff (a b : ByteArray) : eqB a b = true ↔ a = b := by
  unfold eqB
  rw [beq_iff_eq, toList_data, toList_data]
  exact ⟨bytes_eq, fun h => by rw [h]⟩
theorem nilB_iff (a : ByteArray) : nilB a = true ↔ a = ⟨#[]⟩ := eqB_iff a _

def kindB (k : Int) : Bool := k == 1 || k == 2 || k == 3 || k == 4
def strayB (o : Ob) : Bool :=
  (o.kind != 1 && !nilB o.data) || (o.kind != 2 && decide (0 < o.ents.length)) || (o.kind != 3 && (!nilB o.tree || decide (0 < o.pars.length) || o.time != 0)) ||
  (o.kind != 4 && !nilB o.target) || (o.kind != 3 && o.kind != 4 && (!nilB o.who || !nilB o.note))
def longB (o : Ob) : Bool := decide (4096 < o.data.size) || decide (4096 < o.who.size) || decide (4096 < o.note.size)
def fullB (o : Ob) : Bool := decide (64 < o.ents.length) || decide (4 < o.pars.length)
def nameB (s : ByteArray) : Bool := !(nilB s || decide (60 < s.size) || eqB s ⟨#[46]⟩ || eqB s ⟨#[46, 46]⟩) && !hasBarred s
def idB (s : ByteArray) : Bool := s.size == 32
def entsB : ByteArray → List Ent → Bool
  | _, [] => true
  | b, e :: l => nameB e.name && idB e.id && !leB e.name b && entsB e.name l
def parsE : List ByteArray → List ByteArray → Int
  | _, [] => 0
  | had, p :: l => if !idB p then 2 else if had.any (eqB p) then 8 else parsE (had ++ [p]) l
def noIdB (o : Ob) : Bool := (o.kind == 3 && !idB o.tree) || (o.kind == 4 && !idB o.target)
def zeroB (o : Ob) : Bool := hasZero o.who || hasZero o.note
def lateB (o : Ob) : Bool := decide (o.time < 0) || decide (1099511627776 ≤ o.time)
/-- what Good answers -/
def good (o : Ob) : Int :=
  if !kindB o.kind then 4 else if strayB o then 2 else if longB o then 1 else if fullB o then 6 else if !entsB ⟨#[]⟩ o.ents then 2
  else if parsE [] o.pars ≠ 0 then parsE [] o.pars else if noIdB o then 2 else if zeroB o then 2 else if lateB o then 3 else 0
end Go.Proofs.YtmikfmcgddmplaaGreatDoor

/- The methods of a reader: their contracts. -/
namespace Go.Proofs.YtmikfmcgddmplaaGreatDoor
open Go.RowKit

section
variable {w w1 w2 : World} {r : Option Nat}
theorem gb_trans (h : w.grownBy w1 r) (k : w1.grownBy w2 r) : w.grownBy w2 r :=
  ⟨k.os.trans h.os, k.tape.trans h.tape, k.output.trans h.output, Nat.le_trans h.size k.size, fun i hi hr => (k.block i (Nat.lt_of_lt_of_le hi h.size) hr).trans (h.block i hi hr)⟩
theorem gb_below (h : Below w.heap.size w w1) : w.grownBy w1 r := ⟨h.os, h.tape, h.output, h.size, fun i hi _ => h.block i hi⟩
theorem gb_set (g i : Nat) (u : Value) : w.grownBy (w.setCell ⟨g, i, none⟩ u) (some g) :=
  ⟨rfl, rfl, rfl, by simp [World.setCell], fun k _ hr => Below.heap_setCell w ⟨g, i, none⟩ u k (fun e => hr (by rw [e]))⟩
theorem gb_alloc (o : Obj) : w.grownBy (w.alloc o) r := gb_below ((Below.refl _ _).alloc (Nat.le_refl _) o)
/-- what is made anew may change as it likes -/
theorem gb_new {g : Nat} (h : w.grownBy w1 r) (k : w1.grownBy w2 (some g)) (hg : w.heap.size ≤ g) : w.grownBy w2 r :=
  ⟨k.os.trans h.os, k.tape.trans h.tape, k.output.trans h.output, Nat.le_trans h.size k.size, fun i hi hr => (k.block i (Nat.lt_of_lt_of_le hi h.size) (fun e => by cases e; omega)).trans (h.block i hi hr)⟩
theorem below_gb {B : Nat} {a : World} {g : Nat} (h : Below B a w) (k : w.grownBy w1 (some g)) (hg : B ≤ g) (hB : B ≤ w.heap.size) : Below B a w1 :=
  h.grown k hB (fun _ e => by cases e; exact hg)
theorem Arr.kept {g : Nat} {t : TypeId} {cs : Array Value} (h : Arr w g t cs) (k : w.grownBy w1 r) (hr : some g ≠ r) : Arr w1 g t cs := (k.block g h.lt hr).trans h
end

/-- a reader: what is left, what went wrong -/
def Rd (w : World) (g : Nat) (s : ByteArray) (e : Int) : Prop := Arr w g 142 #[.string s, .int .i64 e]
theorem Rd.c0 {w : World} {g : Nat} {s : ByteArray} {e : Int} (h : Rd w g s e) : w.cell? ⟨g, 0, none⟩ = some (.string s) := h.cell 0
theorem Rd.c1 {w : World} {g : Nat} {s : ByteArray} {e : Int} (h : Rd w g s e) : w.cell? ⟨g, 1, none⟩ = some (.int .i64 e) := h.cell 1
theorem Rd.set {w : World} {g : Nat} {s : ByteArray} {e : Int} (h : Rd w g s e) (s2 : ByteArray) : Rd (w.setCell ⟨g, 0, none⟩ (.string s2)) g s2 e := h.put 0 _
theorem Rd.err {w : World} {g : Nat} {s : ByteArray} {e : Int} (h : Rd w g s e) (e2 : Int) : Rd (w.setCell ⟨g, 1, none⟩ (.int .i64 e2)) g s e2 := h.put 1 _
/-- behind a method: the answer, the reader, and nothing else of old has turned -/
def After (w : World) (g : Nat) (v : Value) (s : ByteArray) (e : Int) (x : Ending) (w' : World) : Prop := x = .returned v ∧ Rd w' g s e ∧ w.grownBy w' (some g)

theorem Read_any (s : ByteArray) (w : World) :
    Calls Tryz.prog 70 #[.string s] w fun x w' => x = .returned (.pointer (some ⟨w.heap.size, 0, none⟩)) ∧ Rd w' w.heap.size s 0 ∧ Below w.heap.size w w' := by
  go_enter Tryz.func70, Tryz.ntmps70
  go_wp2_with fail
  go_ret
  exact ⟨rfl, Arr.new _ _ _, (Below.refl _ _).alloc (Nat.le_refl _) _⟩
theorem Bad_any (g : Nat) (s : ByteArray) (e : Int) (w : World) (h : Rd w g s e) :
    Calls Tryz.prog 72 #[.pointer (some ⟨g, 0, none⟩)] w fun x w' => x = .returned (.int .i64 e) ∧ w = w' := by
  have c1 := h.c1
  go_enter Tryz.func72, Tryz.ntmps72
  go_wp2_with fail
  go_ret
  exact ⟨rfl, rfl⟩
theorem Left_any (g : Nat) (s : ByteArray) (e : Int) (w : World) (h : Rd w g s e) :
    Calls Tryz.prog 75 #[.pointer (some ⟨g, 0, none⟩)] w fun x w' => x = .returned (.int .i64 (s.size : Int)) ∧ w = w' := by
  have c0 := h.c0
  go_enter Tryz.func75, Tryz.ntmps75
  go_wp2_with fail
  go_ret
  exact ⟨rfl, rfl⟩
theorem consume_any (g : Nat) (s : ByteArray) (e0 : Int) (k : Nat) (e : Int) (hk : k ≤ s.size) (w : World) (h : Rd w g s e0) :
    Calls Tryz.prog 109 #[.pointer (some ⟨g, 0, none⟩), .int .i64 (k : Int), .int .i64 e] w (After w g (.tuple #[]) (s.extract k s.size) e) := by
  have c0 := h.c0
  have f0 := h.free 0
  have h2 := h.set (s.extract k s.size)
  have c1 := h2.c1
  have f1 := h2.free 1
  have h3 := h2.err e
  go_enter Tryz.func109, Tryz.ntmps109
  go_wp2_with fail
  go_end0
  exact ⟨rfl, h3, gb_trans (gb_set _ _ _) (gb_set _ _ _)⟩

/-- Number where nothing went wrong yet -/
theorem Number_go (g : Nat) (s : ByteArray) (n k : Nat) (e : Int) (C : GetIs s n k e) (hk : k ≤ s.size) (w : World) (h : Rd w g s 0) :
    Calls Tryz.prog 71 #[.pointer (some ⟨g, 0, none⟩)] w (After w g (.int .i64 (n : Int)) (s.extract k s.size) e) := by
  have c0 := h.c0
  go_enter Tryz.func71, Tryz.ntmps71
  go_wp2_with fail
  (with_reducible refine (Bad_any g s 0 w h).mono ?_)
  rintro x w1 ⟨rfl, rfl⟩
  go_wp2_with fail
  have q := C w
  (with_reducible refine q.mono ?_)
  clear q
  rintro x w1 ⟨rfl, rfl⟩
  go_wp2_with fail
  (with_reducible refine (consume_any g s 0 k e hk w h).mono ?_)
  rintro x w1 ⟨rfl, h1, g1⟩
  go_wp2_with fail
  go_ret
  exact ⟨rfl, h1, g1⟩
theorem Number_bad (g : Nat) (s : ByteArray) (e : Int) (he : (e != 0) = true) (w : World) (h : Rd w g s e) :
    Calls Tryz.prog 71 #[.pointer (some ⟨g, 0, none⟩)] w (After w g (.int .i64 0) s e) := by
  go_enter Tryz.func71, Tryz.ntmps71
  go_wp2_with fail
  (with_reducible refine (Bad_any g s e w h).mono ?_)
  rintro x w1 ⟨rfl, rfl⟩
  go_wp2_with fail
  go_ret
  exact ⟨rfl, h, World.grownBy.refl _ _⟩
theorem Text_go (g : Nat) (s r : ByteArray) (k : Nat) (e : Int) (C : TextIs s r k e) (hk : k ≤ s.size) (w : World) (h : Rd w g s 0) :
    Calls Tryz.prog 110 #[.pointer (some ⟨g, 0, none⟩)] w (After w g (.string r) (s.extract k s.size) e) := by
  have c0 := h.c0
  go_enter Tryz.func110, Tryz.ntmps110
  go_wp2_with fail
  (with_reducible refine (Bad_any g s 0 w h).mono ?_)
  rintro x w1 ⟨rfl, rfl⟩
  go_wp2_with fail
  have q := C w
  (with_reducible refine q.mono ?_)
  clear q
  rintro x w1 ⟨rfl, rfl⟩
  go_wp2_with fail
  (with_reducible refine (consume_any g s 0 k e hk w h).mono ?_)
  rintro x w1 ⟨rfl, h1, g1⟩
  go_wp2_with fail
  go_ret
  exact ⟨rfl, h1, g1⟩
theorem Text_bad (g : Nat) (s : ByteArray) (e : Int) (he : (e != 0) = true) (w : World) (h : Rd w g s e) :
    Calls Tryz.prog 110 #[.pointer (some ⟨g, 0, none⟩)] w (After w g (.string ⟨#[]⟩) s e) := by
  go_enter Tryz.func110, Tryz.ntmps110
  go_wp2_with fail
  (with_reducible refine (Bad_any g s e w h).mono ?_)
  rintro x w1 ⟨rfl, rfl⟩
  go_wp2_with fail
  go_ret
  exact ⟨rfl, h, World.grownBy.refl _ _⟩
theorem Bytes_bad (g : Nat) (s : ByteArray) (n e : Int) (he : (e != 0) = true) (w : World) (h : Rd w g s e) :
    Calls Tryz.prog 112 #[.pointer (some ⟨g, 0, none⟩), .int .i64 n] w (After w g (.string ⟨#[]⟩) s e) := by
  go_enter Tryz.func112, Tryz.ntmps112
  go_wp2_with fail
  (with_reducible refine (Bad_any g s e w h).mono ?_)
  rintro x w1 ⟨rfl, rfl⟩
  go_wp2_with fail
  go_ret
  exact ⟨rfl, h, World.grownBy.refl _ _⟩
theorem Bytes_no (g : Nat) (s : ByteArray) (n : Int) (hn : n < 0 ∨ (s.size : Int) < n) (w : World) (h : Rd w g s 0) :
    Calls Tryz.prog 112 #[.pointer (some ⟨g, 0, none⟩), .int .i64 n] w (After w g (.string ⟨#[]⟩) s 2) := by
  have c0 := h.c0
  have c1 := h.c1
  have f1 := h.free 1
  have h2 := h.err 2
  rcases hn with hn | hn
  · go_enter Tryz.func112, Tryz.ntmps112
    go_wp2_with fail
    (with_reducible refine (Bad_any g s 0 w h).mono ?_)
    rintro x w1 ⟨rfl, rfl⟩
    go_wp2_with fail
    go_ret
    exact ⟨rfl, h2, gb_set _ _ _⟩
  · have hn2 : ¬ n < 0 := by omega
    go_enter Tryz.func112, Tryz.ntmps112
    go_wp2_with fail
    (with_reducible refine (Bad_any g s 0 w h).mono ?_)
    rintro x w1 ⟨rfl, rfl⟩
    go_wp2_with fail
    go_ret
    exact ⟨rfl, h2, gb_set _ _ _⟩
theorem Bytes_go (g : Nat) (s : ByteArray) (n : Nat) (hn : n ≤ s.size) (w : World) (h : Rd w g s 0) :
    Calls Tryz.prog 112 #[.pointer (some ⟨g, 0, none⟩), .int .i64 (n : Int)] w (After w g (.string (s.extract 0 n)) (s.extract n s.size) 0) := by
  have c0 := h.c0
  have hn2 : ¬ (n : Int) < 0 := by omega
  have hn3 : ¬ (s.size : Int) < n := by omega
  go_enter Tryz.func112, Tryz.ntmps112
  go_wp2_with fail
  (with_reducible refine (Bad_any g s 0 w h).mono ?_)
  rintro x w1 ⟨rfl, rfl⟩
  go_wp2_with fail
  (with_reducible refine (consume_any g s 0 n 0 hn w h).mono ?_)
  rintro x w1 ⟨rfl, h1, g1⟩
  go_wp2_with fail
  go_ret
  exact ⟨rfl, h1, g1⟩
end Go.Proofs.YtmikfmcgddmplaaGreatDoor
