/- ref.GoodObject: what its walks share. -/
import Derived.Test.YtgffbdkngnpfpaaDoorORef
import Derived.Test.YtgffbdkngnpfpaaDoorOMapB
import Derived.Test.YtgffbdkngnpfpaaDoorOGoodC
namespace Go.Proofs.YtgffbdkngnpfpaaDoor
open Go.RowKit

structure Bm (w : World) (o : Ob) (p : At) (bm : Nat) (l : List KV) (W : World) : Prop where
  bx : Bx w o p W
  mp : MapAt W bm l
  hb : w.heap.size < bm
theorem Bx.kept {w W W' : World} {o : Ob} {p : At} {r : Nat} (h : Bx w o p W) (k : W.grownBy W' (some r)) (hr : w.heap.size < r) : Bx w o p W' :=
  ⟨h.1.kept k (fun e => by cases e; omega), h.2.1.below (below_gb (Below.refl _ _) k (Nat.le_of_lt hr) h.2.2.size), below_gb h.2.2 k (Nat.le_of_lt hr) h.2.2.size⟩
theorem Bm.up {w W W' : World} {o : Ob} {p : At} {bm : Nat} {l l' : List KV} (h : Bm w o p bm l W) (hM : MapAt W' bm l') (k : W.grownBy W' (some bm)) : Bm w o p bm l' W' :=
  ⟨h.bx.kept k h.hb, hM, h.hb⟩
theorem Bm.below {w W W' : World} {o : Ob} {p : At} {bm : Nat} {l : List KV} (h : Bm w o p bm l W) (b : Below W.heap.size W W') : Bm w o p bm l W' :=
  ⟨h.bx.below b, h.mp.below b h.mp.lt, h.hb⟩
theorem Bm.start {w W : World} {o : Ob} {p : At} (h : Bx w o p W) : Bm w o p W.heap.size [] (W.alloc (.map #[] 0)) :=
  ⟨h.below ((Below.refl _ _).alloc (Nat.le_refl _) _), MapAt.new W, h.1.lt⟩
def kData : ByteArray := ⟨#[100, 97, 116, 97]⟩
def kEnts : ByteArray := ⟨#[101, 110, 116, 114, 105, 101, 115]⟩
def kTree : ByteArray := ⟨#[116, 114, 101, 101]⟩
def kPars : ByteArray := ⟨#[112, 97, 114, 101, 110, 116, 115]⟩
def kTime : ByteArray := ⟨#[116, 105, 109, 101]⟩
def kTarget : ByteArray := ⟨#[116, 97, 114, 103, 101, 116]⟩
def kWho : ByteArray := ⟨#[119, 104, 111]⟩
def kNote : ByteArray := ⟨#[110, 111, 116, 101]⟩
def lit8 (v1 v2 v3 v4 v5 v6 v7 v8 : Bool) : List KV := [(kData, v1), (kEnts, v2), (kTree, v3), (kPars, v4), (kTime, v5), (kTarget, v6), (kWho, v7), (kNote, v8)]
theorem up8 (v1 v2 v3 v4 v5 v6 v7 v8 : Bool) :
    upL kNote v8 (upL kWho v7 (upL kTarget v6 (upL kTime v5 (upL kPars v4 (upL kTree v3 (upL kEnts v2 (upL kData v1 []))))))) = lit8 v1 v2 v3 v4 v5 v6 v7 v8 := by rfl
/-- the keys struck one by one -/
def strike (l : List KV) : List ByteArray → List KV
  | [] => l
  | k :: K => strike (upL k false l) K
theorem strike_app (k : ByteArray) : ∀ (K : List ByteArray) (l : List KV), strike l (K ++ [k]) = upL k false (strike l K)
  | [], l => rfl
  | x :: K, l => by rw [List.cons_append, strike, strike_app k K, strike]
theorem row_texts {W : World} {g : Nat} {T : List ByteArray} (h : Arr W g 9 (T.map Value.string).toArray) : Txs W W.heap.size (some ⟨g, 0, none⟩) T := fun k x hx => by
  have hadd : (⟨g, 0, none⟩ : Addr).add k = ⟨g, k, none⟩ := by unfold Addr.add; split <;> simp_all
  refine ⟨_, rfl, by rw [hadd]; exact h.lt, ?_⟩
  rw [hadd, h.cell k, List.getElem?_toArray, List.getElem?_map, hx]
  rfl
theorem base_add (g j : Nat) : (⟨g, 0, none⟩ : Addr).add j = ⟨g, j, none⟩ := by unfold Addr.add; split <;> simp_all
theorem Txs.far {w w' : World} {A : Option Addr} {T : List ByteArray} {r : Nat} (h : Txs w w.heap.size A T) (k : w.grownBy w' (some r)) (hr : ∀ ad, A = some ad → ad.block ≠ r) : Txs w' w'.heap.size A T := fun j x hx => by
  obtain ⟨ad, e, hb, hc⟩ := h j x hx
  have h1 := hr ad e
  have hbk : (ad.add j).block = ad.block := by unfold Addr.add; split <;> rfl
  refine ⟨ad, e, Nat.lt_of_lt_of_le hb k.size, ?_⟩
  rw [← hc]
  unfold World.cell?
  rw [k.block (ad.add j).block hb (fun e1 => by rw [hbk] at e1; cases e1; exact h1 rfl)]
def hadL (T : List ByteArray) : List KV := T.map fun x => (x, true)
theorem pos_had (p : ByteArray) : ∀ T : List ByteArray, T.any (eqB p) = false → pos p (hadL T) = none
  | [], _ => rfl
  | x :: T, h => by
    simp only [List.any_cons, Bool.or_eq_false_iff] at h
    unfold hadL
    rw [List.map_cons, pos, if_neg (fun e => by rw [(eqB_iff p x).2 e] at h; cases h.1), show List.map (fun x => (x, true)) T = hadL T from rfl, pos_had p T h.2]
    rfl
theorem getL_had (p : ByteArray) : ∀ T : List ByteArray, getL p (hadL T) = T.any (eqB p)
  | [] => rfl
  | x :: T => by
    by_cases e : p = x
    · subst e
      unfold getL hadL
      rw [List.map_cons, pos, if_pos rfl]
      simp [(eqB_iff p p).2 rfl]
    · have ih := getL_had p T
      have hne : eqB p x = false := by cases hq : eqB p x with | false => rfl | true => exact absurd ((eqB_iff p x).1 hq) e
      rw [List.any_cons, hne, Bool.false_or, ← ih]
      unfold getL hadL
      rw [List.map_cons, pos, if_neg e]
      cases pos p (List.map (fun x => (x, true)) T) with
      | none => rfl
      | some q => simp
theorem upL_had (p : ByteArray) (T : List ByteArray) (h : T.any (eqB p) = false) : upL p true (hadL T) = hadL (T ++ [p]) := by
  unfold upL
  rw [pos_had p T h]
  simp [hadL]
theorem idB_ne (x : ByteArray) : idB x = !((x.size : Int) != 32) := by
  unfold idB
  rw [← cast_eq]
  simp [bne]
theorem not_empty (s : ByteArray) : (!s.toList.isEmpty) = !nilB s := by
  unfold nilB
  rw [show (⟨#[]⟩ : ByteArray).toList = [] from by rw [toList_data]]
  cases s.toList <;> rfl

theorem five (Wn : World) : Below Wn.heap.size Wn (((((Wn.alloc (.cells #[.string ⟨#[100, 97, 116, 97]⟩] 9)).alloc (.cells #[.string ⟨#[101, 110, 116, 114, 105, 101, 115]⟩] 9)).alloc (.cells #[.string ⟨#[116, 114, 101, 101]⟩, .string ⟨#[112, 97, 114, 101, 110, 116, 115]⟩, .string ⟨#[116, 105, 109, 101]⟩, .string ⟨#[119, 104, 111]⟩, .string ⟨#[110, 111, 116, 101]⟩] 9)).alloc (.cells #[.string ⟨#[116, 97, 114, 103, 101, 116]⟩, .string ⟨#[119, 104, 111]⟩, .string ⟨#[110, 111, 116, 101]⟩] 9)).alloc (.cells #[.slice (some ⟨Wn.heap.size, 0, none⟩) 1 1, .slice (some ⟨Wn.heap.size + 1, 0, none⟩) 1 1, .slice (some ⟨Wn.heap.size + 1 + 1, 0, none⟩) 5 5, .slice (some ⟨Wn.heap.size + 1 + 1 + 1, 0, none⟩) 3 3] 23)) ∧ Arr (((((Wn.alloc (.cells #[.string ⟨#[100, 97, 116, 97]⟩] 9)).alloc (.cells #[.string ⟨#[101, 110, 116, 114, 105, 101, 115]⟩] 9)).alloc (.cells #[.string ⟨#[116, 114, 101, 101]⟩, .string ⟨#[112, 97, 114, 101, 110, 116, 115]⟩, .string ⟨#[116, 105, 109, 101]⟩, .string ⟨#[119, 104, 111]⟩, .string ⟨#[110, 111, 116, 101]⟩] 9)).alloc (.cells #[.string ⟨#[116, 97, 114, 103, 101, 116]⟩, .string ⟨#[119, 104, 111]⟩, .string ⟨#[110, 111, 116, 101]⟩] 9)).alloc (.cells #[.slice (some ⟨Wn.heap.size, 0, none⟩) 1 1, .slice (some ⟨Wn.heap.size + 1, 0, none⟩) 1 1, .slice (some ⟨Wn.heap.size + 1 + 1, 0, none⟩) 5 5, .slice (some ⟨Wn.heap.size + 1 + 1 + 1, 0, none⟩) 3 3] 23)) (Wn.heap.size + 1 + 1 + 1 + 1) 23 #[.slice (some ⟨Wn.heap.size, 0, none⟩) 1 1, .slice (some ⟨Wn.heap.size + 1, 0, none⟩) 1 1, .slice (some ⟨Wn.heap.size + 1 + 1, 0, none⟩) 5 5, .slice (some ⟨Wn.heap.size + 1 + 1 + 1, 0, none⟩) 3 3] ∧
    Arr (((((Wn.alloc (.cells #[.string ⟨#[100, 97, 116, 97]⟩] 9)).alloc (.cells #[.string ⟨#[101, 110, 116, 114, 105, 101, 115]⟩] 9)).alloc (.cells #[.string ⟨#[116, 114, 101, 101]⟩, .string ⟨#[112, 97, 114, 101, 110, 116, 115]⟩, .string ⟨#[116, 105, 109, 101]⟩, .string ⟨#[119, 104, 111]⟩, .string ⟨#[110, 111, 116, 101]⟩] 9)).alloc (.cells #[.string ⟨#[116, 97, 114, 103, 101, 116]⟩, .string ⟨#[119, 104, 111]⟩, .string ⟨#[110, 111, 116, 101]⟩] 9)).alloc (.cells #[.slice (some ⟨Wn.heap.size, 0, none⟩) 1 1, .slice (some ⟨Wn.heap.size + 1, 0, none⟩) 1 1, .slice (some ⟨Wn.heap.size + 1 + 1, 0, none⟩) 5 5, .slice (some ⟨Wn.heap.size + 1 + 1 + 1, 0, none⟩) 3 3] 23)) (Wn.heap.size) 9 #[.string ⟨#[100, 97, 116, 97]⟩] ∧
    Arr (((((Wn.alloc (.cells #[.string ⟨#[100, 97, 116, 97]⟩] 9)).alloc (.cells #[.string ⟨#[101, 110, 116, 114, 105, 101, 115]⟩] 9)).alloc (.cells #[.string ⟨#[116, 114, 101, 101]⟩, .string ⟨#[112, 97, 114, 101, 110, 116, 115]⟩, .string ⟨#[116, 105, 109, 101]⟩, .string ⟨#[119, 104, 111]⟩, .string ⟨#[110, 111, 116, 101]⟩] 9)).alloc (.cells #[.string ⟨#[116, 97, 114, 103, 101, 116]⟩, .string ⟨#[119, 104, 111]⟩, .string ⟨#[110, 111, 116, 101]⟩] 9)).alloc (.cells #[.slice (some ⟨Wn.heap.size, 0, none⟩) 1 1, .slice (some ⟨Wn.heap.size + 1, 0, none⟩) 1 1, .slice (some ⟨Wn.heap.size + 1 + 1, 0, none⟩) 5 5, .slice (some ⟨Wn.heap.size + 1 + 1 + 1, 0, none⟩) 3 3] 23)) (Wn.heap.size + 1) 9 #[.string ⟨#[101, 110, 116, 114, 105, 101, 115]⟩] ∧
    Arr (((((Wn.alloc (.cells #[.string ⟨#[100, 97, 116, 97]⟩] 9)).alloc (.cells #[.string ⟨#[101, 110, 116, 114, 105, 101, 115]⟩] 9)).alloc (.cells #[.string ⟨#[116, 114, 101, 101]⟩, .string ⟨#[112, 97, 114, 101, 110, 116, 115]⟩, .string ⟨#[116, 105, 109, 101]⟩, .string ⟨#[119, 104, 111]⟩, .string ⟨#[110, 111, 116, 101]⟩] 9)).alloc (.cells #[.string ⟨#[116, 97, 114, 103, 101, 116]⟩, .string ⟨#[119, 104, 111]⟩, .string ⟨#[110, 111, 116, 101]⟩] 9)).alloc (.cells #[.slice (some ⟨Wn.heap.size, 0, none⟩) 1 1, .slice (some ⟨Wn.heap.size + 1, 0, none⟩) 1 1, .slice (some ⟨Wn.heap.size + 1 + 1, 0, none⟩) 5 5, .slice (some ⟨Wn.heap.size + 1 + 1 + 1, 0, none⟩) 3 3] 23)) (Wn.heap.size + 1 + 1) 9 #[.string ⟨#[116, 114, 101, 101]⟩, .string ⟨#[112, 97, 114, 101, 110, 116, 115]⟩, .string ⟨#[116, 105, 109, 101]⟩, .string ⟨#[119, 104, 111]⟩, .string ⟨#[110, 111, 116, 101]⟩] ∧
    Arr (((((Wn.alloc (.cells #[.string ⟨#[100, 97, 116, 97]⟩] 9)).alloc (.cells #[.string ⟨#[101, 110, 116, 114, 105, 101, 115]⟩] 9)).alloc (.cells #[.string ⟨#[116, 114, 101, 101]⟩, .string ⟨#[112, 97, 114, 101, 110, 116, 115]⟩, .string ⟨#[116, 105, 109, 101]⟩, .string ⟨#[119, 104, 111]⟩, .string ⟨#[110, 111, 116, 101]⟩] 9)).alloc (.cells #[.string ⟨#[116, 97, 114, 103, 101, 116]⟩, .string ⟨#[119, 104, 111]⟩, .string ⟨#[110, 111, 116, 101]⟩] 9)).alloc (.cells #[.slice (some ⟨Wn.heap.size, 0, none⟩) 1 1, .slice (some ⟨Wn.heap.size + 1, 0, none⟩) 1 1, .slice (some ⟨Wn.heap.size + 1 + 1, 0, none⟩) 5 5, .slice (some ⟨Wn.heap.size + 1 + 1 + 1, 0, none⟩) 3 3] 23)) (Wn.heap.size + 1 + 1 + 1) 9 #[.string ⟨#[116, 97, 114, 103, 101, 116]⟩, .string ⟨#[119, 104, 111]⟩, .string ⟨#[110, 111, 116, 101]⟩] := by
  refine ⟨(((((Below.refl _ _).alloc (Nat.le_refl _) _).alloc (by simp) _).alloc (by simp; omega) _).alloc (by simp; omega) _).alloc (by simp; omega) _, Arr.new_at _ _ _ (by simp), ?_, ?_, ?_, ?_⟩
  · exact ((((Arr.new _ _ _).alloc _).alloc _).alloc _).alloc _
  · exact (((Arr.new_at _ _ _ (by simp)).alloc _).alloc _).alloc _
  · exact ((Arr.new_at _ _ _ (by simp)).alloc _).alloc _
  · exact (Arr.new_at _ _ _ (by simp)).alloc _

theorem stray_map1 (o : Ob) (hk : o.kind = 1) : anyT (strike (lit8 (!o.data.toList.isEmpty) (decide (0 < o.ents.length)) (!o.tree.toList.isEmpty) (decide (0 < o.pars.length)) (o.time != 0) (!o.target.toList.isEmpty) (!o.who.toList.isEmpty) (!o.note.toList.isEmpty)) [kData]) = strayB o := by
  unfold strayB
  simp only [hk, not_empty]
  generalize nilB o.data = a1
  generalize decide (0 < o.ents.length) = a2
  generalize nilB o.tree = a3
  generalize decide (0 < o.pars.length) = a4
  generalize (o.time != 0) = a5
  generalize nilB o.target = a6
  generalize nilB o.who = a7
  generalize nilB o.note = a8
  have e : strike (lit8 (!a1) a2 (!a3) a4 a5 (!a6) (!a7) (!a8)) [kData] = lit8 false a2 (!a3) a4 a5 (!a6) (!a7) (!a8) := by rfl
  rw [e]
  cases a1 <;> cases a2 <;> cases a3 <;> cases a4 <;> cases a5 <;> cases a6 <;> cases a7 <;> cases a8 <;> rfl
theorem stray_map2 (o : Ob) (hk : o.kind = 2) : anyT (strike (lit8 (!o.data.toList.isEmpty) (decide (0 < o.ents.length)) (!o.tree.toList.isEmpty) (decide (0 < o.pars.length)) (o.time != 0) (!o.target.toList.isEmpty) (!o.who.toList.isEmpty) (!o.note.toList.isEmpty)) [kEnts]) = strayB o := by
  unfold strayB
  simp only [hk, not_empty]
  generalize nilB o.data = a1
  generalize decide (0 < o.ents.length) = a2
  generalize nilB o.tree = a3
  generalize decide (0 < o.pars.length) = a4
  generalize (o.time != 0) = a5
  generalize nilB o.target = a6
  generalize nilB o.who = a7
  generalize nilB o.note = a8
  have e : strike (lit8 (!a1) a2 (!a3) a4 a5 (!a6) (!a7) (!a8)) [kEnts] = lit8 (!a1) false (!a3) a4 a5 (!a6) (!a7) (!a8) := by rfl
  rw [e]
  cases a1 <;> cases a2 <;> cases a3 <;> cases a4 <;> cases a5 <;> cases a6 <;> cases a7 <;> cases a8 <;> rfl
theorem stray_map3 (o : Ob) (hk : o.kind = 3) : anyT (strike (lit8 (!o.data.toList.isEmpty) (decide (0 < o.ents.length)) (!o.tree.toList.isEmpty) (decide (0 < o.pars.length)) (o.time != 0) (!o.target.toList.isEmpty) (!o.who.toList.isEmpty) (!o.note.toList.isEmpty)) [kTree, kPars, kTime, kWho, kNote]) = strayB o := by
  unfold strayB
  simp only [hk, not_empty]
  generalize nilB o.data = a1
  generalize decide (0 < o.ents.length) = a2
  generalize nilB o.tree = a3
  generalize decide (0 < o.pars.length) = a4
  generalize (o.time != 0) = a5
  generalize nilB o.target = a6
  generalize nilB o.who = a7
  generalize nilB o.note = a8
  have e : strike (lit8 (!a1) a2 (!a3) a4 a5 (!a6) (!a7) (!a8)) [kTree, kPars, kTime, kWho, kNote] = lit8 (!a1) a2 false false false (!a6) false false := by rfl
  rw [e]
  cases a1 <;> cases a2 <;> cases a3 <;> cases a4 <;> cases a5 <;> cases a6 <;> cases a7 <;> cases a8 <;> rfl
theorem stray_map4 (o : Ob) (hk : o.kind = 4) : anyT (strike (lit8 (!o.data.toList.isEmpty) (decide (0 < o.ents.length)) (!o.tree.toList.isEmpty) (decide (0 < o.pars.length)) (o.time != 0) (!o.target.toList.isEmpty) (!o.who.toList.isEmpty) (!o.note.toList.isEmpty)) [kTarget, kWho, kNote]) = strayB o := by
  unfold strayB
  simp only [hk, not_empty]
  generalize nilB o.data = a1
  generalize decide (0 < o.ents.length) = a2
  generalize nilB o.tree = a3
  generalize decide (0 < o.pars.length) = a4
  generalize (o.time != 0) = a5
  generalize nilB o.target = a6
  generalize nilB o.who = a7
  generalize nilB o.note = a8
  have e : strike (lit8 (!a1) a2 (!a3) a4 a5 (!a6) (!a7) (!a8)) [kTarget, kWho, kNote] = lit8 (!a1) a2 (!a3) a4 a5 false false false := by rfl
  rw [e]
  cases a1 <;> cases a2 <;> cases a3 <;> cases a4 <;> cases a5 <;> cases a6 <;> cases a7 <;> cases a8 <;> rfl
end Go.Proofs.YtgffbdkngnpfpaaDoor
