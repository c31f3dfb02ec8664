/- Texts in one: ODecF, PSpec, PRd. -/
import Derived.Test.YtbpmgpbmeganoaaDoorOStray
import Derived.Test.YtbpmgpbmeganoaaDoorOGoodC
import Derived.Test.YtbpmgpbmeganoaaDoorDSpec
import Derived.Test.YtbpmgpbmeganoaaDoorSha
import Derived.Test.YtbpmgpbmeganoaaDoorODecB
import Derived.Test.YtbpmgpbmeganoaaDoorWRead
/- object.Decode: its contract. -/
namespace Go.Proofs.YtbpmgpbmeganoaaDoor
open Go.RowKit

/-- what Decode answers -/
def decO (l : List UInt8) : Ob × Int :=
  if 8192 < l.length then (Ob.none, 1) else match rdNum l with
    | none => (Ob.none, 2)
    | some (n, r) => if kindB (n : Int) = false then (Ob.none, 4) else match rdFields (n : Int) r with
      | none => (Ob.none, 2)
      | some (o, rest) => if 0 < rest.length then (Ob.none, 2) else if good o ≠ 0 then (Ob.none, good o) else (o, 0)
def DEnd (w : World) (o : Ob) (e : Int) (x : Ending) (w' : World) : Prop := ∃ p, x = .returned (.tuple #[.agg (obArr o p), .int .i64 e]) ∧ ObIn w' w'.heap.size o p ∧ Below w.heap.size w w'
/-- and its slices lie in blocks behind the result's -/
def DEndA (w : World) (o : Ob) (e : Int) (x : Ending) (w' : World) : Prop := ∃ p, x = .returned (.tuple #[.agg (obArr o p), .int .i64 e]) ∧ ObIn w' w'.heap.size o p ∧ Below w.heap.size w w' ∧ Above w.heap.size p
theorem noneIn (W : World) (B : Nat) : ObIn W B Ob.none atNil := ⟨Ens.nil _ _ _, Txs.nil _ _ _, Nat.le_refl _⟩
theorem above_nil (b : Nat) : Above b atNil := ⟨(fun _ e => by cases e), (fun _ e => by cases e)⟩
theorem DEnd_eq {w : World} {a : Ob × Int} {o : Ob} {e : Int} (h : a = (o, e)) {x : Ending} {w' : World} (k : DEnd w o e x w') : DEnd w a.1 a.2 x w' := by rw [h]; exact k
theorem DEndA_eq {w : World} {a : Ob × Int} {o : Ob} {e : Int} (h : a = (o, e)) {x : Ending} {w' : World} (k : DEndA w o e x w') : DEndA w a.1 a.2 x w' := by rw [h]; exact k

end Go.Proofs.YtbpmgpbmeganoaaDoor

/- What Read answers: plain definitions. -/
namespace Go.Proofs.YtbpmgpbmeganoaaDoor

/-- how a pack stores an object -/
structure Rp where
  way : Nat
  index : Nat
  id : ByteArray
  bytes : ByteArray
def Rp.none : Rp := ⟨0, 0, ⟨#[]⟩, ⟨#[]⟩⟩
/-- a representation, up to the delta -/
def rdStart (l : List UInt8) : Option (Rp × List UInt8) :=
  match rdNum l with
  | none => none
  | some (h, l1) =>
    if h = 0 then match rdNum l1 with
      | none => none
      | some (n, l2) => if l2.length < n then none else some (⟨0, 0, ⟨#[]⟩, bs (l2.take n)⟩, l2.drop n)
    else if h = 1 then match rdNum l1 with
      | none => none
      | some (k, l2) => some (⟨1, k, ⟨#[]⟩, ⟨#[]⟩⟩, l2)
    else if h = 2 then match rdId l1 with
      | none => none
      | some (id, l2) => some (⟨2, 0, id, ⟨#[]⟩⟩, l2)
    else none
/-- the last of some texts whose id this is -/
def lastId (id : ByteArray) : List ByteArray → Option ByteArray
  | [] => none
  | x :: O => match lastId id O with
    | some y => some y
    | none => if bs (sha x.data.toList) = id then some x else none
/-- what a delta stands upon, and the length of its chain; or an error -/
def baseP (O T : List ByteArray) (D : List Nat) (p : Rp) : Except Int (ByteArray × Nat) :=
  if p.way = 1 then match T[p.index]? with
    | none => .error 3
    | some b => .ok (b, D.getD p.index 0)
  else match lastId p.id O with
    | none => .error 11
    | some b => .ok (b, 0)
/-- the next object, the length of its chain, what is left -/
def objP (O T : List ByteArray) (D : List Nat) (l : List UInt8) : Except Int (ByteArray × Nat × List UInt8) :=
  match rdStart l with
  | none => .error 2
  | some (p, l1) => if p.way = 0 then .ok (p.bytes, 0, l1) else match baseP O T D p with
    | .error e => .error e
    | .ok (b, n) => match rdText l1 with
      | none => .error 2
      | some (d, l2) => if 8 ≤ n then .error 10
        else if (applyD b.data.toList d.data.toList).2 ≠ 0 then .error (applyD b.data.toList d.data.toList).2
        else .ok (bs (applyD b.data.toList d.data.toList).1, n + 1, l2)
/-- is this text one of these? -/
def amid (T : List ByteArray) (s : ByteArray) : Bool := T.any fun x => decide (x = s)
theorem amid_iff {T : List ByteArray} {s : ByteArray} : amid T s = true ↔ s ∈ T := by
  unfold amid
  rw [List.any_eq_true]
  exact ⟨fun ⟨x, h, e⟩ => by rw [← of_decide_eq_true e]; exact h, fun h => ⟨s, h, decide_eq_true rfl⟩⟩
/-- may this object be added to these? -/
def addP (T : List ByteArray) (s : ByteArray) : Int :=
  if (decO s.data.toList).2 ≠ 0 then (decO s.data.toList).2 else if amid T s then 8 else 0
/-- the objects, one by one -/
def unP (O : List ByteArray) : Nat → List ByteArray → List Nat → List UInt8 → Except Int (List ByteArray × List UInt8)
  | 0, T, _, l => .ok (T, l)
  | n + 1, T, D, l => match objP O T D l with
    | .error e => .error e
    | .ok (s, d, r) => if addP T s ≠ 0 then .error (addP T s) else unP O n (T ++ [s]) (D ++ [d]) r
/-- behind the sum -/
def bodyP (O : List ByteArray) (l : List UInt8) : List ByteArray × Int :=
  match rdNum l with
  | none => ([], 2)
  | some (n, r) => if 400 < n then ([], 6) else match unP O n [] [] r with
    | .error e => ([], e)
    | .ok (T, q) => if q = [] then (T, 0) else ([], 2)
/-- Read -/
def readP (b : List UInt8) (O : List ByteArray) : List ByteArray × Int :=
  if b.length < 33 ∨ b.take 1 ≠ [80] then ([], 2)
  else if sha (b.take (b.length - 32)) ≠ b.drop (b.length - 32) then ([], 5)
  else bodyP O ((b.take (b.length - 32)).drop 1)

theorem rdId_less {l r : List UInt8} {t : ByteArray} (h : rdId l = some (t, r)) : r.length < l.length := by
  unfold rdId at h
  split at h
  · simp only [Option.some.injEq, Prod.mk.injEq] at h
    rw [← h.2, List.length_drop]
    omega
  · cases h
theorem rdStart_less {l r : List UInt8} {p : Rp} (h : rdStart l = some (p, r)) : r.length < l.length := by
  unfold rdStart at h
  cases h1 : rdNum l with
  | none => simp [h1] at h
  | some y =>
    obtain ⟨k, l1⟩ := y
    have a1 := rdNum_less h1
    simp only [h1] at h
    by_cases k0 : k = 0
    · rw [if_pos k0] at h
      cases h2 : rdNum l1 with
      | none => simp [h2] at h
      | some z =>
        obtain ⟨n, l2⟩ := z
        have a2 := rdNum_less h2
        simp only [h2] at h
        split at h
        · cases h
        · simp only [Option.some.injEq, Prod.mk.injEq] at h
          rw [← h.2, List.length_drop]
          omega
    · rw [if_neg k0] at h
      by_cases k1 : k = 1
      · rw [if_pos k1] at h
        cases h2 : rdNum l1 with
        | none => simp [h2] at h
        | some z =>
          obtain ⟨n, l2⟩ := z
          have a2 := rdNum_less h2
          simp only [h2, Option.some.injEq, Prod.mk.injEq] at h
          rw [← h.2]
          omega
      · rw [if_neg k1] at h
        by_cases k2 : k = 2
        · rw [if_pos k2] at h
          cases h2 : rdId l1 with
          | none => simp [h2] at h
          | some z =>
            obtain ⟨n, l2⟩ := z
            have a2 := rdId_less h2
            simp only [h2, Option.some.injEq, Prod.mk.injEq] at h
            rw [← h.2]
            omega
        · rw [if_neg k2] at h; cases h
theorem rdText_less {l r : List UInt8} {t : ByteArray} (h : rdText l = some (t, r)) : r.length < l.length := by
  unfold rdText at h
  cases h1 : rdNum l with
  | none => simp [h1] at h
  | some y =>
    obtain ⟨n, l1⟩ := y
    have a1 := rdNum_less h1
    simp only [h1] at h
    split at h
    · simp only [Option.some.injEq, Prod.mk.injEq] at h
      rw [← h.2, List.length_drop]
      omega
    · cases h
theorem objP_less {O T : List ByteArray} {D : List Nat} {l r : List UInt8} {s : ByteArray} {n : Nat} (h : objP O T D l = .ok (s, n, r)) : r.length < l.length := by
  unfold objP at h
  cases h1 : rdStart l with
  | none => simp [h1] at h
  | some y =>
    obtain ⟨p, l1⟩ := y
    have a1 := rdStart_less h1
    simp only [h1] at h
    split at h
    · simp only [Except.ok.injEq, Prod.mk.injEq] at h
      rw [← h.2.2]
      exact a1
    · cases h2 : baseP O T D p with
      | error e => simp [h2] at h
      | ok z =>
        obtain ⟨b, m⟩ := z
        simp only [h2] at h
        cases h3 : rdText l1 with
        | none => simp [h3] at h
        | some q =>
          obtain ⟨d, l2⟩ := q
          have a2 := rdText_less h3
          simp only [h3] at h
          split at h
          · cases h
          · split at h
            · cases h
            · simp only [Except.ok.injEq, Prod.mk.injEq] at h
              rw [← h.2.2]
              omega
end Go.Proofs.YtbpmgpbmeganoaaDoor

/- A reader of a pack by its states: what is left, or none: then the error is ErrForm. -/
namespace Go.Proofs.YtbpmgpbmeganoaaDoor
open Go.RowKit

def RL (w : World) (g : Nat) : St → Prop
  | some l => Rd w g (bs l) 0 ∧ l.length ≤ 281474976710656
  | none => ∃ s, Rd w g s 2
def stE (st : St) : Int := if st.isNone then 2 else 0
theorem RL.lt {w : World} {g : Nat} {st : St} (h : RL w g st) : g < w.heap.size := by
  cases st with
  | none => obtain ⟨s, h⟩ := h; exact Arr.lt h
  | some l => exact Arr.lt h.1
theorem RL.kept {w w' : World} {g : Nat} {st : St} {r : Option Nat} (h : RL w g st) (k : w.grownBy w' r) (hr : some g ≠ r) : RL w' g st := by
  cases st with
  | none => obtain ⟨s, h⟩ := h; exact ⟨s, Arr.kept h k hr⟩
  | some l => exact ⟨Arr.kept h.1 k hr, h.2⟩
theorem RL.ne {w : World} {g k : Nat} {st : St} {t : TypeId} {cs : Array Value} (h : RL w g st) (h' : Arr w k t cs) (ht : 100 ≠ t) : g ≠ k := by
  cases st with
  | none => obtain ⟨s, h⟩ := h; exact Arr.ne h h' ht
  | some l => exact Arr.ne h.1 h' ht
def stTake (n : Nat) : St → ByteArray × St
  | none => (⟨#[]⟩, none)
  | some l => if n ≤ l.length then (bs (l.take n), some (l.drop n)) else (⟨#[]⟩, none)
theorem stTake_id (st : St) : stTake 32 st = stId st := by
  cases st with
  | none => rfl
  | some l =>
    unfold stTake stId rdId
    by_cases h : 32 ≤ l.length
    · simp only [if_pos h]
    · simp only [if_neg h]
def Rle (w : World) (g : Nat) (v : Value) (st : St) (x : Ending) (w' : World) : Prop := x = .returned v ∧ RL w' g st ∧ w.grownBy w' (some g)
theorem rl_num (g : Nat) (st : St) (w : World) (h : RL w g st) : Calls Tryd.prog 76 #[.pointer (some ⟨g, 0, none⟩)] w (Rle w g (.int .i64 ((stNum st).1 : Int)) (stNum st).2) := by
  cases st with
  | none =>
    obtain ⟨s, h⟩ := h
    exact (Number_bad g s 2 (by decide) w h).mono fun x w' ⟨h1, h2, h3⟩ => ⟨h1, ⟨s, h2⟩, h3⟩
  | some l =>
    obtain ⟨h, hl⟩ := h
    have hs : (bs l).size ≤ 281474976710656 := by rw [bs_size]; omega
    cases hg : got l with
    | none =>
      rw [show stNum (some l) = (0, none) from by simp [stNum, rdNum, hg]]
      exact (Number_go g (bs l) 0 0 2 (getIs_none _ hs (by rw [bs_list]; exact hg)) (by omega) w h).mono fun x w' ⟨h1, h2, h3⟩ => ⟨h1, ⟨_, h2⟩, h3⟩
    | some y =>
      obtain ⟨n, k⟩ := y
      have hk := got_some _ _ _ hg
      rw [show stNum (some l) = (n, some (l.drop k)) from by simp [stNum, rdNum, hg]]
      refine (Number_go g (bs l) n k 0 (getIs_some _ hs n k (by rw [bs_list]; exact hg)) (by rw [bs_size]; exact hk.2.2.2.2) w h).mono fun x w' ⟨h1, h2, h3⟩ => ⟨h1, ⟨?_, by rw [List.length_drop]; omega⟩, h3⟩
      rw [bs_drop] at h2
      exact h2
theorem rl_take (g : Nat) (n : Nat) (st : St) (w : World) (h : RL w g st) : Calls Tryd.prog 77 #[.pointer (some ⟨g, 0, none⟩), .int .i64 (n : Int)] w (Rle w g (.string (stTake n st).1) (stTake n st).2) := by
  cases st with
  | none =>
    obtain ⟨s, h⟩ := h
    exact (Bytes_bad g s n 2 (by decide) w h).mono fun x w' ⟨h1, h2, h3⟩ => ⟨h1, ⟨s, h2⟩, h3⟩
  | some l =>
    obtain ⟨h, hl⟩ := h
    by_cases h5 : n ≤ l.length
    · rw [show stTake n (some l) = (bs (l.take n), some (l.drop n)) from by simp only [stTake]; rw [if_pos h5]]
      refine (Bytes_go g (bs l) n (by rw [bs_size]; exact h5) w h).mono fun x w' ⟨h1, h2, h3⟩ => ⟨?_, ⟨?_, ?_⟩, h3⟩
      · rw [h1, bs_head]
      · rw [bs_drop] at h2; exact h2
      · rw [List.length_drop]; omega
    · rw [show stTake n (some l) = (⟨#[]⟩, none) from by simp only [stTake]; rw [if_neg h5]]
      exact (Bytes_no g (bs l) n (.inr (by rw [bs_size]; omega)) w h).mono fun x w' ⟨h1, h2, h3⟩ => ⟨h1, ⟨_, h2⟩, h3⟩
theorem rl_bad (g : Nat) (st : St) (w : World) (h : RL w g st) : Calls Tryd.prog 51 #[.pointer (some ⟨g, 0, none⟩)] w fun x w' => x = .returned (.int .i64 (stE st)) ∧ w = w' := by
  cases st with
  | none =>
    obtain ⟨s, h⟩ := h
    exact Bad_any g s 2 w h
  | some l => exact Bad_any g (bs l) 0 w h.1
/-- a text: what went wrong is not asked -/
def Rte (w : World) (g : Nat) (v : Value) (st : St) (x : Ending) (w' : World) : Prop :=
  x = .returned v ∧ (match st with | some l => RL w' g (some l) | none => ∃ s e, (e != 0) = true ∧ Rd w' g s e) ∧ w.grownBy w' (some g)
theorem rl_txt (g : Nat) (l : List UInt8) (w : World) (h : RL w g (some l)) : Calls Tryd.prog 49 #[.pointer (some ⟨g, 0, none⟩)] w (Rte w g (.string (stTxt (some l)).1) (stTxt (some l)).2) := by
  obtain ⟨h, hl⟩ := h
  have hs : (bs l).size ≤ 281474976710656 := by rw [bs_size]; omega
  cases hg : got l with
  | none =>
    rw [show stTxt (some l) = (⟨#[]⟩, none) from by simp [stTxt, rdText, rdNum, hg]]
    exact (Text_go g (bs l) ⟨#[]⟩ 0 2 (text_none _ hs (by rw [bs_list]; exact hg)) (by omega) w h).mono fun x w' ⟨h1, h2, h3⟩ => ⟨h1, ⟨_, 2, by decide, h2⟩, h3⟩
  | some y =>
    obtain ⟨n, k⟩ := y
    have hk := (got_some _ _ _ hg).2.2.2.2
    by_cases h4 : n ≤ 4096
    · by_cases h5 : n ≤ (l.drop k).length
      · rw [show stTxt (some l) = (bs ((l.drop k).take n), some ((l.drop k).drop n)) from by simp only [stTxt, rdText, rdNum, hg]; rw [if_pos ⟨h4, h5⟩]]
        rw [List.length_drop] at h5
        refine (Text_go g (bs l) _ (k + n) 0 (text_yes _ hs n k (by rw [bs_list]; exact hg) h4 (by rw [bs_size]; omega)) (by rw [bs_size]; omega) w h).mono fun x w' ⟨h1, h2, h3⟩ => ⟨?_, ⟨?_, ?_⟩, h3⟩
        · rw [h1, bs_mid]
        · rw [bs_drop] at h2
          rw [List.drop_drop]
          exact h2
        · simp only [List.length_drop]; omega
      · rw [show stTxt (some l) = (⟨#[]⟩, none) from by simp only [stTxt, rdText, rdNum, hg]; rw [if_neg (fun q => h5 q.2)]]
        rw [List.length_drop] at h5
        exact (Text_go g (bs l) ⟨#[]⟩ 0 2 (text_short _ hs n k (by rw [bs_list]; exact hg) h4 (by rw [bs_size]; omega)) (by omega) w h).mono fun x w' ⟨h1, h2, h3⟩ => ⟨h1, ⟨_, 2, by decide, h2⟩, h3⟩
    · rw [show stTxt (some l) = (⟨#[]⟩, none) from by simp only [stTxt, rdText, rdNum, hg]; rw [if_neg (fun q => h4 q.1)]]
      exact (Text_go g (bs l) ⟨#[]⟩ 0 1 (text_long _ hs n k (by rw [bs_list]; exact hg) (by omega)) (by omega) w h).mono fun x w' ⟨h1, h2, h3⟩ => ⟨h1, ⟨_, 1, by decide, h2⟩, h3⟩

/-- a representation's cells -/
def rpArr (p : Rp) : Array Value := #[.int .i64 p.way, .int .i64 p.index, .string p.id, .string p.bytes]
def zeroR : Array Value := #[.int .i64 0, .int .i64 0, .string ⟨#[]⟩, .string ⟨#[]⟩]
theorem rpArr_one (p : Rp) : (rpArr p).all (·.oneCell') = true := by
  unfold rpArr
  rw [Array.all_eq_true_iff_forall_mem]
  intro v hv
  simp at hv
  rcases hv with rfl | rfl | rfl | rfl <;> rfl
/-- a representation up to the delta, by a reader's states -/
def stStart (st : St) : Rp × St :=
  if (stNum st).1 = 0 then (⟨0, 0, ⟨#[]⟩, (stTake (stNum (stNum st).2).1 (stNum (stNum st).2).2).1⟩, (stTake (stNum (stNum st).2).1 (stNum (stNum st).2).2).2)
  else if (stNum st).1 = 1 then (⟨1, (stNum (stNum st).2).1, ⟨#[]⟩, ⟨#[]⟩⟩, (stNum (stNum st).2).2)
  else if (stNum st).1 = 2 then (⟨2, 0, (stTake 32 (stNum st).2).1, ⟨#[]⟩⟩, (stTake 32 (stNum st).2).2)
  else (Rp.none, none)
theorem stNum_n {l : List UInt8} (h : rdNum l = none) : stNum (some l) = (0, none) := by simp [stNum, h]
theorem stNum_s {l r : List UInt8} {n : Nat} (h : rdNum l = some (n, r)) : stNum (some l) = (n, some r) := by simp [stNum, h]
theorem stNum_o : stNum none = (0, none) := rfl
theorem stId_n {l : List UInt8} (h : rdId l = none) : stId (some l) = (⟨#[]⟩, none) := by simp [stId, h]
theorem stId_s {l r : List UInt8} {t : ByteArray} (h : rdId l = some (t, r)) : stId (some l) = (t, some r) := by simp [stId, h]
theorem stTake_o (n : Nat) : stTake n none = (⟨#[]⟩, none) := rfl
theorem stStart_none {l : List UInt8} (h : rdStart l = none) : (stStart (some l)).2 = none := by
  unfold rdStart at h
  unfold stStart
  cases h1 : rdNum l with
  | none => rw [stNum_n h1]; simp only [stNum_o, stTake_o, if_true]
  | some y =>
    obtain ⟨k, l1⟩ := y
    rw [stNum_s h1]
    simp only [h1] at h ⊢
    by_cases k0 : k = 0
    · rw [if_pos k0] at h ⊢
      cases h2 : rdNum l1 with
      | none => rw [stNum_n h2]; simp only [stTake_o]
      | some z =>
        obtain ⟨n, l2⟩ := z
        rw [stNum_s h2]
        simp only [h2] at h ⊢
        by_cases h3 : l2.length < n
        · unfold stTake
          simp only
          rw [if_neg (by omega)]
        · rw [if_neg h3] at h
          cases h
    · rw [if_neg k0] at h ⊢
      by_cases k1 : k = 1
      · rw [if_pos k1] at h ⊢
        cases h2 : rdNum l1 with
        | none => rw [stNum_n h2]
        | some z => simp [h2] at h
      · rw [if_neg k1] at h ⊢
        by_cases k2 : k = 2
        · rw [if_pos k2] at h ⊢
          rw [stTake_id]
          cases h2 : rdId l1 with
          | none => rw [stId_n h2]
          | some z => simp [h2] at h
        · rw [if_neg k2]
theorem stStart_some {l r : List UInt8} {p : Rp} (h : rdStart l = some (p, r)) : stStart (some l) = (p, some r) := by
  unfold rdStart at h
  unfold stStart
  cases h1 : rdNum l with
  | none => simp [h1] at h
  | some y =>
    obtain ⟨k, l1⟩ := y
    rw [stNum_s h1]
    simp only [h1] at h ⊢
    by_cases k0 : k = 0
    · rw [if_pos k0] at h ⊢
      cases h2 : rdNum l1 with
      | none => simp [h2] at h
      | some z =>
        obtain ⟨n, l2⟩ := z
        rw [stNum_s h2]
        simp only [h2] at h ⊢
        by_cases h3 : l2.length < n
        · rw [if_pos h3] at h
          cases h
        · rw [if_neg h3] at h
          unfold stTake
          simp only
          rw [if_pos (by omega)]
          simp only [Option.some.injEq, Prod.mk.injEq] at h
          rw [← h.1, ← h.2]
    · rw [if_neg k0] at h ⊢
      by_cases k1 : k = 1
      · rw [if_pos k1] at h ⊢
        cases h2 : rdNum l1 with
        | none => simp [h2] at h
        | some z =>
          obtain ⟨n, l2⟩ := z
          rw [stNum_s h2]
          simp only [h2, Option.some.injEq, Prod.mk.injEq] at h ⊢
          exact h
      · rw [if_neg k1] at h ⊢
        by_cases k2 : k = 2
        · rw [if_pos k2] at h ⊢
          rw [stTake_id]
          cases h2 : rdId l1 with
          | none => simp [h2] at h
          | some z =>
            obtain ⟨n, l2⟩ := z
            rw [stId_s h2]
            simp only [h2, Option.some.injEq, Prod.mk.injEq] at h ⊢
            exact h
        · rw [if_neg k2] at h
          cases h
end Go.Proofs.YtbpmgpbmeganoaaDoor
