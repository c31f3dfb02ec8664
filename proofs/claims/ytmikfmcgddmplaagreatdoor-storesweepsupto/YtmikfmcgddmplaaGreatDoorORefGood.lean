/- Texts in one: ORefGoodA, ORefGood1, ORefGood2, ORefGood3, ORefGood4, ORefGood. -/
import Derived.Test.YtmikfmcgddmplaaGreatDoorORef
import Derived.Test.YtmikfmcgddmplaaGreatDoorOMapB
import Derived.Test.YtmikfmcgddmplaaGreatDoorOEncB
/- ref.GoodObject: what its walks share. -/
namespace Go.Proofs.YtmikfmcgddmplaaGreatDoor
open Go.RowKit

structure Bm (w : World) (o : Ob) (p : At) (bm : Nat) (l : List KV) (W : World) : Prop where
  bx : Bx w o p W
  mp : MapAt W bm l
  hb : w.heap.size < bm
theorem Bx.kept {w W W' : World} {o : Ob} {p : At} {r : Nat} (h : Bx w o p W) (k : W.grownBy W' (some r)) (hr : w.heap.size < r) : Bx w o p W' :=
  ⟨h.1.kept k (fun e => by cases e; omega), h.2.1.below (below_gb (Below.refl _ _) k (Nat.le_of_lt hr) h.2.2.size), below_gb h.2.2 k (Nat.le_of_lt hr) h.2.2.size⟩
theorem Bm.up {w W W' : World} {o : Ob} {p : At} {bm : Nat} {l l' : List KV} (h : Bm w o p bm l W) (hM : MapAt W' bm l') (k : W.grownBy W' (some bm)) : Bm w o p bm l' W' :=
  ⟨h.bx.kept k h.hb, hM, h.hb⟩
theorem Bm.below {w W W' : World} {o : Ob} {p : At} {bm : Nat} {l : List KV} (h : Bm w o p bm l W) (b : Below W.heap.size W W') : Bm w o p bm l W' :=
  ⟨h.bx.below b, h.mp.below b h.mp.lt, h.hb⟩
theorem Bm.start {w W : World} {o : Ob} {p : At} (h : Bx w o p W) : Bm w o p W.heap.size [] (W.alloc (.map #[] 0)) :=
  ⟨h.below ((Below.refl _ _).alloc (Nat.le_refl _) _), MapAt.new W, h.1.lt⟩
def kData : ByteArray := ⟨#[100, 97, 116, 97]⟩
def kEnts : ByteArray := ⟨#[101, 110, 116, 114, 105, 101, 115]⟩
def kTree : ByteArray := ⟨#[116, 114, 101, 101]⟩
def kPars : ByteArray := ⟨#[112, 97, 114, 101, 110, 116, 115]⟩
def kTime : ByteArray := ⟨#[116, 105, 109, 101]⟩
def kTarget : ByteArray := ⟨#[116, 97, 114, 103, 101, 116]⟩
def kWho : ByteArray := ⟨#[119, 104, 111]⟩
def kNote : ByteArray := ⟨#[110, 111, 116, 101]⟩
def lit8 (v1 v2 v3 v4 v5 v6 v7 v8 : Bool) : List KV := [(kData, v1), (kEnts, v2), (kTree, v3), (kPars, v4), (kTime, v5), (kTarget, v6), (kWho, v7), (kNote, v8)]
theorem up8 (v1 v2 v3 v4 v5 v6 v7 v8 : Bool) :
    upL kNote v8 (upL kWho v7 (upL kTarget v6 (upL kTime v5 (upL kPars v4 (upL kTree v3 (upL kEnts v2 (upL kData v1 []))))))) = lit8 v1 v2 v3 v4 v5 v6 v7 v8 := by rfl
/-- the keys struck one by one -/
def strike (l : List KV) : List ByteArray → List KV
  | [] => l
  | k :: K => strike (upL k false l) K
theorem strike_app (k : ByteArray) : ∀ (K : List ByteArray) (l : List KV), strike l (K ++ [k]) = upL k false (strike l K)
  | [], l => rfl
  | x :: K, l => by rw [List.cons_append, strike, strike_app k K, strike]
theorem row_texts {W : World} {g : Nat} {T : List ByteArray} (h : Arr W g 9 (T.map Value.string).toArray) : Txs W W.heap.size (some ⟨g, 0, none⟩) T := fun k x hx => by
  have hadd : (⟨g, 0, none⟩ : Addr).add k = ⟨g, k, none⟩ := by unfold Addr.add; split <;> simp_all
  refine ⟨_, rfl, by rw [hadd]; exact h.lt, ?_⟩
  rw [hadd, h.cell k, List.getElem?_toArray, List.getElem?_map, hx]
  rfl
theorem base_add (g j : Nat) : (⟨g, 0, none⟩ : Addr).add j = ⟨g, j, none⟩ := by unfold Addr.add; split <;> simp_all
theorem Txs.far {w w' : World} {A : Option Addr} {T : List ByteArray} {r : Nat} (h : Txs w w.heap.size A T) (k : w.grownBy w' (some r)) (hr : ∀ ad, A = some ad → ad.block ≠ r) : Txs w' w'.heap.size A T := fun j x hx => by
  obtain ⟨ad, e, hb, hc⟩ := h j x hx
  have h1 := hr ad e
  have hbk : (ad.add j).block = ad.block := by unfold Addr.add; split <;> rfl
  refine ⟨ad, e, Nat.lt_of_lt_of_le hb k.size, ?_⟩
  rw [← hc]
  unfold World.cell?
  rw [k.block (ad.add j).block hb (fun e1 => by rw [hbk] at e1; cases e1; exact h1 rfl)]
def hadL (T : List ByteArray) : List KV := T.map fun x => (x, true)
theorem pos_had (p : ByteArray) : ∀ T : List ByteArray, T.any (eqB p) = false → pos p (hadL T) = none
  | [], _ => rfl
  | x :: T, h => by
    simp only [List.any_cons, Bool.or_eq_false_iff] at h
    unfold hadL
    rw [List.map_cons, pos, if_neg (fun e => by rw [(eqB_iff p x).2 e] at h; cases h.1), show List.map (fun x => (x, true)) T = hadL T from rfl, pos_had p T h.2]
    rfl
theorem getL_had (p : ByteArray) : ∀ T : List ByteArray, getL p (hadL T) = T.any (eqB p)
  | [] => rfl
  | x :: T => by
    by_cases e : p = x
    · subst e
      unfold getL hadL
      rw [List.map_cons, pos, if_pos rfl]
      simp [(eqB_iff p p).2 rfl]
    · have ih := getL_had p T
      have hne : eqB p x = false := by cases hq : eqB p x with | false => rfl | true => exact absurd ((eqB_iff p x).1 hq) e
      rw [List.any_cons, hne, Bool.false_or, ← ih]
      unfold getL hadL
      rw [List.map_cons, pos, if_neg e]
      cases pos p (List.map (fun x => (x, true)) T) with
      | none => rfl
      | some q => simp
theorem upL_had (p : ByteArray) (T : List ByteArray) (h : T.any (eqB p) = false) : upL p true (hadL T) = hadL (T ++ [p]) := by
  unfold upL
  rw [pos_had p T h]
  simp [hadL]
theorem idB_ne (x : ByteArray) : idB x = !((x.size : Int) != 32) := by
  unfold idB
  rw [← cast_eq]
  simp [bne]
theorem not_empty (s : ByteArray) : (!s.toList.isEmpty) = !nilB s := by
  unfold nilB
  rw [show (⟨#[]⟩ : ByteArray).toList = [] from by rw [toList_data]]
  cases s.toList <;> rfl

theorem five (Wn : World) : Below Wn.heap.size Wn (((((Wn.alloc (.cells #[.string ⟨#[100, 97, 116, 97]⟩] 9)).alloc (.cells #[.string ⟨#[101, 110, 116, 114, 105, 101, 115]⟩] 9)).alloc (.cells #[.string ⟨#[116, 114, 101, 101]⟩, .string ⟨#[112, 97, 114, 101, 110, 116, 115]⟩, .string ⟨#[116, 105, 109, 101]⟩, .string ⟨#[119, 104, 111]⟩, .string ⟨#[110, 111, 116, 101]⟩] 9)).alloc (.cells #[.string ⟨#[116, 97, 114, 103, 101, 116]⟩, .string ⟨#[119, 104, 111]⟩, .string ⟨#[110, 111, 116, 101]⟩] 9)).alloc (.cells #[.slice (some ⟨Wn.heap.size, 0, none⟩) 1 1, .slice (some ⟨Wn.heap.size + 1, 0, none⟩) 1 1, .slice (some ⟨Wn.heap.size + 1 + 1, 0, none⟩) 5 5, .slice (some ⟨Wn.heap.size + 1 + 1 + 1, 0, none⟩) 3 3] 22)) ∧ Arr (((((Wn.alloc (.cells #[.string ⟨#[100, 97, 116, 97]⟩] 9)).alloc (.cells #[.string ⟨#[101, 110, 116, 114, 105, 101, 115]⟩] 9)).alloc (.cells #[.string ⟨#[116, 114, 101, 101]⟩, .string ⟨#[112, 97, 114, 101, 110, 116, 115]⟩, .string ⟨#[116, 105, 109, 101]⟩, .string ⟨#[119, 104, 111]⟩, .string ⟨#[110, 111, 116, 101]⟩] 9)).alloc (.cells #[.string ⟨#[116, 97, 114, 103, 101, 116]⟩, .string ⟨#[119, 104, 111]⟩, .string ⟨#[110, 111, 116, 101]⟩] 9)).alloc (.cells #[.slice (some ⟨Wn.heap.size, 0, none⟩) 1 1, .slice (some ⟨Wn.heap.size + 1, 0, none⟩) 1 1, .slice (some ⟨Wn.heap.size + 1 + 1, 0, none⟩) 5 5, .slice (some ⟨Wn.heap.size + 1 + 1 + 1, 0, none⟩) 3 3] 22)) (Wn.heap.size + 1 + 1 + 1 + 1) 22 #[.slice (some ⟨Wn.heap.size, 0, none⟩) 1 1, .slice (some ⟨Wn.heap.size + 1, 0, none⟩) 1 1, .slice (some ⟨Wn.heap.size + 1 + 1, 0, none⟩) 5 5, .slice (some ⟨Wn.heap.size + 1 + 1 + 1, 0, none⟩) 3 3] ∧
    Arr (((((Wn.alloc (.cells #[.string ⟨#[100, 97, 116, 97]⟩] 9)).alloc (.cells #[.string ⟨#[101, 110, 116, 114, 105, 101, 115]⟩] 9)).alloc (.cells #[.string ⟨#[116, 114, 101, 101]⟩, .string ⟨#[112, 97, 114, 101, 110, 116, 115]⟩, .string ⟨#[116, 105, 109, 101]⟩, .string ⟨#[119, 104, 111]⟩, .string ⟨#[110, 111, 116, 101]⟩] 9)).alloc (.cells #[.string ⟨#[116, 97, 114, 103, 101, 116]⟩, .string ⟨#[119, 104, 111]⟩, .string ⟨#[110, 111, 116, 101]⟩] 9)).alloc (.cells #[.slice (some ⟨Wn.heap.size, 0, none⟩) 1 1, .slice (some ⟨Wn.heap.size + 1, 0, none⟩) 1 1, .slice (some ⟨Wn.heap.size + 1 + 1, 0, none⟩) 5 5, .slice (some ⟨Wn.heap.size + 1 + 1 + 1, 0, none⟩) 3 3] 22)) (Wn.heap.size) 9 #[.string ⟨#[100, 97, 116, 97]⟩] ∧
    Arr (((((Wn.alloc (.cells #[.string ⟨#[100, 97, 116, 97]⟩] 9)).alloc (.cells #[.string ⟨#[101, 110, 116, 114, 105, 101, 115]⟩] 9)).alloc (.cells #[.string ⟨#[116, 114, 101, 101]⟩, .string ⟨#[112, 97, 114, 101, 110, 116, 115]⟩, .string ⟨#[116, 105, 109, 101]⟩, .string ⟨#[119, 104, 111]⟩, .string ⟨#[110, 111, 116, 101]⟩] 9)).alloc (.cells #[.string ⟨#[116, 97, 114, 103, 101, 116]⟩, .string ⟨#[119, 104, 111]⟩, .string ⟨#[110, 111, 116, 101]⟩] 9)).alloc (.cells #[.slice (some ⟨Wn.heap.size, 0, none⟩) 1 1, .slice (some ⟨Wn.heap.size + 1, 0, none⟩) 1 1, .slice (some ⟨Wn.heap.size + 1 + 1, 0, none⟩) 5 5, .slice (some ⟨Wn.heap.size + 1 + 1 + 1, 0, none⟩) 3 3] 22)) (Wn.heap.size + 1) 9 #[.string ⟨#[101, 110, 116, 114, 105, 101, 115]⟩] ∧
    Arr (((((Wn.alloc (.cells #[.string ⟨#[100, 97, 116, 97]⟩] 9)).alloc (.cells #[.string ⟨#[101, 110, 116, 114, 105, 101, 115]⟩] 9)).alloc (.cells #[.string ⟨#[116, 114, 101, 101]⟩, .string ⟨#[112, 97, 114, 101, 110, 116, 115]⟩, .string ⟨#[116, 105, 109, 101]⟩, .string ⟨#[119, 104, 111]⟩, .string ⟨#[110, 111, 116, 101]⟩] 9)).alloc (.cells #[.string ⟨#[116, 97, 114, 103, 101, 116]⟩, .string ⟨#[119, 104, 111]⟩, .string ⟨#[110, 111, 116, 101]⟩] 9)).alloc (.cells #[.slice (some ⟨Wn.heap.size, 0, none⟩) 1 1, .slice (some ⟨Wn.heap.size + 1, 0, none⟩) 1 1, .slice (some ⟨Wn.heap.size + 1 + 1, 0, none⟩) 5 5, .slice (some ⟨Wn.heap.size + 1 + 1 + 1, 0, none⟩) 3 3] 22)) (Wn.heap.size + 1 + 1) 9 #[.string ⟨#[116, 114, 101, 101]⟩, .string ⟨#[112, 97, 114, 101, 110, 116, 115]⟩, .string ⟨#[116, 105, 109, 101]⟩, .string ⟨#[119, 104, 111]⟩, .string ⟨#[110, 111, 116, 101]⟩] ∧
    Arr (((((Wn.alloc (.cells #[.string ⟨#[100, 97, 116, 97]⟩] 9)).alloc (.cells #[.string ⟨#[101, 110, 116, 114, 105, 101, 115]⟩] 9)).alloc (.cells #[.string ⟨#[116, 114, 101, 101]⟩, .string ⟨#[112, 97, 114, 101, 110, 116, 115]⟩, .string ⟨#[116, 105, 109, 101]⟩, .string ⟨#[119, 104, 111]⟩, .string ⟨#[110, 111, 116, 101]⟩] 9)).alloc (.cells #[.string ⟨#[116, 97, 114, 103, 101, 116]⟩, .string ⟨#[119, 104, 111]⟩, .string ⟨#[110, 111, 116, 101]⟩] 9)).alloc (.cells #[.slice (some ⟨Wn.heap.size, 0, none⟩) 1 1, .slice (some ⟨Wn.heap.size + 1, 0, none⟩) 1 1, .slice (some ⟨Wn.heap.size + 1 + 1, 0, none⟩) 5 5, .slice (some ⟨Wn.heap.size + 1 + 1 + 1, 0, none⟩) 3 3] 22)) (Wn.heap.size + 1 + 1 + 1) 9 #[.string ⟨#[116, 97, 114, 103, 101, 116]⟩, .string ⟨#[119, 104, 111]⟩, .string ⟨#[110, 111, 116, 101]⟩] := by
  refine ⟨(((((Below.refl _ _).alloc (Nat.le_refl _) _).alloc (by simp) _).alloc (by simp; omega) _).alloc (by simp; omega) _).alloc (by simp; omega) _, Arr.new_at _ _ _ (by simp), ?_, ?_, ?_, ?_⟩
  · exact ((((Arr.new _ _ _).alloc _).alloc _).alloc _).alloc _
  · exact (((Arr.new_at _ _ _ (by simp)).alloc _).alloc _).alloc _
  · exact ((Arr.new_at _ _ _ (by simp)).alloc _).alloc _
  · exact (Arr.new_at _ _ _ (by simp)).alloc _

theorem stray_map1 (o : Ob) (hk : o.kind = 1) : anyT (strike (lit8 (!o.data.toList.isEmpty) (decide (0 < o.ents.length)) (!o.tree.toList.isEmpty) (decide (0 < o.pars.length)) (o.time != 0) (!o.target.toList.isEmpty) (!o.who.toList.isEmpty) (!o.note.toList.isEmpty)) [kData]) = strayB o := by
  unfold strayB
  simp only [hk, not_empty]
  generalize nilB o.data = a1
  generalize decide (0 < o.ents.length) = a2
  generalize nilB o.tree = a3
  generalize decide (0 < o.pars.length) = a4
  generalize (o.time != 0) = a5
  generalize nilB o.target = a6
  generalize nilB o.who = a7
  generalize nilB o.note = a8
  have e : strike (lit8 (!a1) a2 (!a3) a4 a5 (!a6) (!a7) (!a8)) [kData] = lit8 false a2 (!a3) a4 a5 (!a6) (!a7) (!a8) := by rfl
  rw [e]
  cases a1 <;> cases a2 <;> cases a3 <;> cases a4 <;> cases a5 <;> cases a6 <;> cases a7 <;> cases a8 <;> rfl
theorem stray_map2 (o : Ob) (hk : o.kind = 2) : anyT (strike (lit8 (!o.data.toList.isEmpty) (decide (0 < o.ents.length)) (!o.tree.toList.isEmpty) (decide (0 < o.pars.length)) (o.time != 0) (!o.target.toList.isEmpty) (!o.who.toList.isEmpty) (!o.note.toList.isEmpty)) [kEnts]) = strayB o := by
  unfold strayB
  simp only [hk, not_empty]
  generalize nilB o.data = a1
  generalize decide (0 < o.ents.length) = a2
  generalize nilB o.tree = a3
  generalize decide (0 < o.pars.length) = a4
  generalize (o.time != 0) = a5
  generalize nilB o.target = a6
  generalize nilB o.who = a7
  generalize nilB o.note = a8
  have e : strike (lit8 (!a1) a2 (!a3) a4 a5 (!a6) (!a7) (!a8)) [kEnts] = lit8 (!a1) false (!a3) a4 a5 (!a6) (!a7) (!a8) := by rfl
  rw [e]
  cases a1 <;> cases a2 <;> cases a3 <;> cases a4 <;> cases a5 <;> cases a6 <;> cases a7 <;> cases a8 <;> rfl
theorem stray_map3 (o : Ob) (hk : o.kind = 3) : anyT (strike (lit8 (!o.data.toList.isEmpty) (decide (0 < o.ents.length)) (!o.tree.toList.isEmpty) (decide (0 < o.pars.length)) (o.time != 0) (!o.target.toList.isEmpty) (!o.who.toList.isEmpty) (!o.note.toList.isEmpty)) [kTree, kPars, kTime, kWho, kNote]) = strayB o := by
  unfold strayB
  simp only [hk, not_empty]
  generalize nilB o.data = a1
  generalize decide (0 < o.ents.length) = a2
  generalize nilB o.tree = a3
  generalize decide (0 < o.pars.length) = a4
  generalize (o.time != 0) = a5
  generalize nilB o.target = a6
  generalize nilB o.who = a7
  generalize nilB o.note = a8
  have e : strike (lit8 (!a1) a2 (!a3) a4 a5 (!a6) (!a7) (!a8)) [kTree, kPars, kTime, kWho, kNote] = lit8 (!a1) a2 false false false (!a6) false false := by rfl
  rw [e]
  cases a1 <;> cases a2 <;> cases a3 <;> cases a4 <;> cases a5 <;> cases a6 <;> cases a7 <;> cases a8 <;> rfl
theorem stray_map4 (o : Ob) (hk : o.kind = 4) : anyT (strike (lit8 (!o.data.toList.isEmpty) (decide (0 < o.ents.length)) (!o.tree.toList.isEmpty) (decide (0 < o.pars.length)) (o.time != 0) (!o.target.toList.isEmpty) (!o.who.toList.isEmpty) (!o.note.toList.isEmpty)) [kTarget, kWho, kNote]) = strayB o := by
  unfold strayB
  simp only [hk, not_empty]
  generalize nilB o.data = a1
  generalize decide (0 < o.ents.length) = a2
  generalize nilB o.tree = a3
  generalize decide (0 < o.pars.length) = a4
  generalize (o.time != 0) = a5
  generalize nilB o.target = a6
  generalize nilB o.who = a7
  generalize nilB o.note = a8
  have e : strike (lit8 (!a1) a2 (!a3) a4 a5 (!a6) (!a7) (!a8)) [kTarget, kWho, kNote] = lit8 (!a1) a2 (!a3) a4 a5 false false false := by rfl
  rw [e]
  cases a1 <;> cases a2 <;> cases a3 <;> cases a4 <;> cases a5 <;> cases a6 <;> cases a7 <;> cases a8 <;> rfl
end Go.Proofs.YtmikfmcgddmplaaGreatDoor

/- ref.GoodObject, kind 1: the walk. -/
namespace Go.Proofs.YtmikfmcgddmplaaGreatDoor
open Go.RowKit

set_option maxRecDepth 100000 in
set_option maxHeartbeats 4000000 in
theorem GoodObject_1 (o : Ob) (p : At) (w : World) (hO : ObIn w w.heap.size o p) (hnm : ∀ e ∈ o.ents, e.name.size ≤ 281474976710656) (hk : o.kind = 1) :
    Calls Tryz.prog 51 #[.agg (obArr o p)] w fun e w' => e = .returned (.int .i64 (good o)) ∧ Below w.heap.size w w' := by
  have h1 := Lib.hid (Bx.start hO)
  obtain ⟨G, HG⟩ : ∃ G, Hid (G = good o) := ⟨_, rfl⟩
  rw [← HG.out]
  clear hO
  generalize hA : obArr o p = arr at *
  clear hA
  go_enter Tryz.func51, Tryz.ntmps51
  go_upto_region 1 with fail
  refine wp_forget (Bx w o p) h1.out ?_
  clear h1
  intro W hX
  obtain ⟨c0, c1, c2, c3, c4, c5, c6, c7, c8⟩ := hX.c
  rw [hk] at c0
  go_upto_region 3 with fail
  have hmk : ∀ W, (Instr.makeMap 62 none).run Tryz.prog W = .ok (.map (some W.heap.size)) (W.alloc (.map #[] 0)) := fun W => rfl
  have hW := Bm.start hX
  clear c0 c1 c2 c3 c4 c5 c6 c7 c8 hX
  obtain ⟨c0, c1, c2, c3, c4, c5, c6, c7, c8⟩ := hW.bx.c
  go_upto_region 4 with (refine wpList_up rfl _ _ _ (.inr rfl) W.heap.size _ hW.mp rfl _ _ rfl rfl ?_; intro Wn hMn kn; replace hW := hW.up hMn kn; clear c0 c1 c2 c3 c4 c5 c6 c7 c8 hMn kn; obtain ⟨c0, c1, c2, c3, c4, c5, c6, c7, c8⟩ := hW.bx.c)
  have hW2 : Bm w o p W.heap.size (lit8 (!o.data.toList.isEmpty) (decide (0 < o.ents.length)) (!o.tree.toList.isEmpty) (decide (0 < o.pars.length)) (o.time != 0) (!o.target.toList.isEmpty) (!o.who.toList.isEmpty) (!o.note.toList.isEmpty)) Wn := hW
  have HS : Hid (anyT (strike (lit8 (!o.data.toList.isEmpty) (decide (0 < o.ents.length)) (!o.tree.toList.isEmpty) (decide (0 < o.pars.length)) (o.time != 0) (!o.target.toList.isEmpty) (!o.who.toList.isEmpty) (!o.note.toList.isEmpty)) [kData]) = strayB o) := stray_map1 o hk
  generalize (lit8 (!o.data.toList.isEmpty) (decide (0 < o.ents.length)) (!o.tree.toList.isEmpty) (decide (0 < o.pars.length)) (o.time != 0) (!o.target.toList.isEmpty) (!o.who.toList.isEmpty) (!o.note.toList.isEmpty)) = L8 at *
  clear hW hmk
  generalize W.heap.size = bm at *
  obtain ⟨fb, f5, f1, f2, f3, f4⟩ := five Wn
  have c0' := (fb.cell (p := ⟨w.heap.size, 0, none⟩) (by have := hW2.bx.1.lt; omega)).trans c0
  rw [hk] at c0'
  have c9 := f5.cell 0
  simp only [List.getElem?_toArray, List.getElem?_cons_zero] at c9
  have hbm := hW2.mp.lt
  have hS : Hid (Bm w o p bm L8 (((((Wn.alloc (.cells #[.string ⟨#[100, 97, 116, 97]⟩] 9)).alloc (.cells #[.string ⟨#[101, 110, 116, 114, 105, 101, 115]⟩] 9)).alloc (.cells #[.string ⟨#[116, 114, 101, 101]⟩, .string ⟨#[112, 97, 114, 101, 110, 116, 115]⟩, .string ⟨#[116, 105, 109, 101]⟩, .string ⟨#[119, 104, 111]⟩, .string ⟨#[110, 111, 116, 101]⟩] 9)).alloc (.cells #[.string ⟨#[116, 97, 114, 103, 101, 116]⟩, .string ⟨#[119, 104, 111]⟩, .string ⟨#[110, 111, 116, 101]⟩] 9)).alloc (.cells #[.slice (some ⟨Wn.heap.size, 0, none⟩) 1 1, .slice (some ⟨Wn.heap.size + 1, 0, none⟩) 1 1, .slice (some ⟨Wn.heap.size + 1 + 1, 0, none⟩) 5 5, .slice (some ⟨Wn.heap.size + 1 + 1 + 1, 0, none⟩) 3 3] 22)) ∧ Txs (((((Wn.alloc (.cells #[.string ⟨#[100, 97, 116, 97]⟩] 9)).alloc (.cells #[.string ⟨#[101, 110, 116, 114, 105, 101, 115]⟩] 9)).alloc (.cells #[.string ⟨#[116, 114, 101, 101]⟩, .string ⟨#[112, 97, 114, 101, 110, 116, 115]⟩, .string ⟨#[116, 105, 109, 101]⟩, .string ⟨#[119, 104, 111]⟩, .string ⟨#[110, 111, 116, 101]⟩] 9)).alloc (.cells #[.string ⟨#[116, 97, 114, 103, 101, 116]⟩, .string ⟨#[119, 104, 111]⟩, .string ⟨#[110, 111, 116, 101]⟩] 9)).alloc (.cells #[.slice (some ⟨Wn.heap.size, 0, none⟩) 1 1, .slice (some ⟨Wn.heap.size + 1, 0, none⟩) 1 1, .slice (some ⟨Wn.heap.size + 1 + 1, 0, none⟩) 5 5, .slice (some ⟨Wn.heap.size + 1 + 1 + 1, 0, none⟩) 3 3] 22)) (((((Wn.alloc (.cells #[.string ⟨#[100, 97, 116, 97]⟩] 9)).alloc (.cells #[.string ⟨#[101, 110, 116, 114, 105, 101, 115]⟩] 9)).alloc (.cells #[.string ⟨#[116, 114, 101, 101]⟩, .string ⟨#[112, 97, 114, 101, 110, 116, 115]⟩, .string ⟨#[116, 105, 109, 101]⟩, .string ⟨#[119, 104, 111]⟩, .string ⟨#[110, 111, 116, 101]⟩] 9)).alloc (.cells #[.string ⟨#[116, 97, 114, 103, 101, 116]⟩, .string ⟨#[119, 104, 111]⟩, .string ⟨#[110, 111, 116, 101]⟩] 9)).alloc (.cells #[.slice (some ⟨Wn.heap.size, 0, none⟩) 1 1, .slice (some ⟨Wn.heap.size + 1, 0, none⟩) 1 1, .slice (some ⟨Wn.heap.size + 1 + 1, 0, none⟩) 5 5, .slice (some ⟨Wn.heap.size + 1 + 1 + 1, 0, none⟩) 3 3] 22)).heap.size (some ⟨Wn.heap.size, 0, none⟩) [kData] ∧ bm ≠ Wn.heap.size) := ⟨hW2.below fb, row_texts f1, by omega⟩
  clear c0 c1 c2 c3 c4 c5 c6 c7 c8 fb f5 f1 f2 f3 f4 hW2 hbm
  go_upto_region 5 with fail
  refine wp_forget (fun W => Bm w o p bm L8 W ∧ Txs W W.heap.size (some ⟨Wn.heap.size, 0, none⟩) [kData] ∧ bm ≠ Wn.heap.size) hS.out ?_
  clear hS c0' c9
  generalize Wn.heap.size = mb at *
  clear W
  rintro W ⟨hW, hT, hne⟩
  have hKl : [kData].length = 1 := rfl
  generalize [kData] = KK at *
  go_wp2_with fail
  go_loopw [63] (fun i wr => ∃ j : Nat, j ≤ 1 ∧ i = .int .i64 (j : Int) ∧ Bm w o p bm (strike L8 (KK.take j)) wr ∧ Txs wr wr.heap.size (some ⟨mb, 0, none⟩) KK) (fun i _ => 1 - (intOf i).toNat)
  case atStart => exact ⟨0, Nat.zero_le _, rfl, hW, hT⟩
  case round =>
    clear hW hT W
    obtain ⟨j, hj, rfl, hW, hT⟩ := hrel
    by_cases hlt : j < 1
    · have hlt2 : j < KK.length := by omega
      obtain ⟨ad, ead, hbl, g0⟩ := hT j KK[j] (List.getElem?_eq_getElem hlt2)
      cases ead
      rw [base_add] at g0
      have hst : Hid (strike L8 (KK.take (j + 1)) = upL KK[j] false (strike L8 (KK.take j))) := by
        show _ = _
        rw [List.take_succ_eq_append_getElem hlt2, strike_app]
      have hi : (j : Int) < 1 := by omega
      clear hbl
      generalize KK[j] = x at *
      go_wp2_with (refine wpList_up rfl _ _ _ (.inl rfl) bm _ hW.mp rfl _ _ rfl rfl ?_; intro Wn hMn kn)
      refine ⟨⟨j + 1, hlt, by go_num, ?_, ?_⟩, by simp [intOf]; omega⟩
      · rw [hst.out]; exact hW.up hMn kn
      · exact hT.far kn (fun ad e => by cases e; exact fun h => hne h.symm)
    obtain rfl : j = 1 := by omega
    rw [List.take_of_length_le (by omega)] at hW
    clear hT hj hlt hne hKl
    generalize strike L8 KK = L at *
    have hrg := run_range_map (P := Tryz.prog) wr 62 _ _ bm _ _ Tryz.underlying62 hW.mp
    have hI0 := Lib.hid (Itr.start (W := wr) (b := bm) (l := L))
    have hW0 := Lib.hid (hW.below ((Below.refl _ _).alloc (Nat.le_refl _) (.mapIter (some bm) L.length #[] L.length)))
    have hrb : wr.heap.size ≠ bm := by have := hW.mp.lt; omega
    have hrw : w.heap.size < wr.heap.size := hW.bx.1.lt
    clear hW
    go_wp2_with fail
    clear hrg
    generalize wr.heap.size = r at *
    go_loopg [] (leftOf (mkEs 0 L).toArray #[]).size (fun gf wx => Itr bm r L gf wx ∧ Bm w o p bm L wx)
    case atStart => exact ⟨hI0.out, hW0.out⟩
    case round =>
      clear hI0 hW0
      obtain ⟨hI, hW⟩ := hrel
      rcases itr_next hW.mp hI hrb with ⟨hno, hnx⟩ | ⟨kk, v, W', hnx, hent, hM', k', hv1, hv2⟩
      case inr =>
        have hW' : Bm w o p bm L W' := ⟨hW.bx.kept k' hrw, hM', hW.hb⟩
        clear hM' k' hW hI
        cases v
        · obtain ⟨m, rfl, hI'⟩ := hv2 rfl
          clear hv1 hv2
          go_wp2_with fail
          go_roundg m
          case measure => omega
          case rel => exact ⟨hI', hW'⟩
        · have HR2 : Hid (G = 2) := by
            show _ = _
            rw [HG.out]
            unfold good
            rw [← HS.out, hv1 rfl, hk]
            rfl
          clear hv1 hv2 HG HS
          go_wp2_with fail
          go_ret
          exact ⟨by rw [HR2.out]; rfl, hW'.bx.2.2⟩
      have HG2 : Hid (G = if longB o then 1 else if fullB o then 6 else if !entsB ⟨#[]⟩ o.ents then 2 else if parsE [] o.pars ≠ 0 then parsE [] o.pars else if noIdB o then 2 else if zeroB o then 2 else if lateB o then 3 else 0) := by
        show _ = _
        rw [HG.out]
        unfold good
        rw [← HS.out, hno, hk]
        rfl
      have hX := hW.bx
      clear HG HS hI hW hno
      obtain ⟨c0, c1, c2, c3, c4, c5, c6, c7, c8⟩ := hX.c
      unfold longB fullB at HG2
      by_cases hd : (4096 : Int) < o.data.size
      · rw [decide_eq_true (by omega : 4096 < o.data.size)] at HG2
        go_wp2_with fail
        go_ret
        exact ⟨by rw [HG2.out]; rfl, hX.2.2⟩
      rw [decide_eq_false (by omega : ¬ 4096 < o.data.size)] at HG2
      by_cases hwh : (4096 : Int) < o.who.size
      · rw [decide_eq_true (by omega : 4096 < o.who.size)] at HG2
        go_wp2_with fail
        go_ret
        exact ⟨by rw [HG2.out]; rfl, hX.2.2⟩
      rw [decide_eq_false (by omega : ¬ 4096 < o.who.size)] at HG2
      by_cases hnt : (4096 : Int) < o.note.size
      · rw [decide_eq_true (by omega : 4096 < o.note.size)] at HG2
        go_wp2_with fail
        go_ret
        exact ⟨by rw [HG2.out]; rfl, hX.2.2⟩
      rw [decide_eq_false (by omega : ¬ 4096 < o.note.size)] at HG2
      by_cases he : (64 : Int) < o.ents.length
      · rw [decide_eq_true (by omega : 64 < o.ents.length)] at HG2
        go_wp2_with fail
        go_ret
        exact ⟨by rw [HG2.out]; rfl, hX.2.2⟩
      rw [decide_eq_false (by omega : ¬ 64 < o.ents.length)] at HG2
      by_cases hp : (4 : Int) < o.pars.length
      · rw [decide_eq_true (by omega : 4 < o.pars.length)] at HG2
        go_wp2_with fail
        go_ret
        exact ⟨by rw [HG2.out]; rfl, hX.2.2⟩
      rw [decide_eq_false (by omega : ¬ 4 < o.pars.length)] at HG2
      go_wp2_with fail
      clear c0 c1 c2 c3 c4 c5 c6 c7 c8
      go_loopw [9, 106] (fun b i wr => ∃ (k : Nat) (s : ByteArray), k ≤ o.ents.length ∧ i = .int .i64 (k : Int) ∧ b = .string s ∧ entsB ⟨#[]⟩ o.ents = entsB s (o.ents.drop k) ∧ Bx w o p wr) (fun _ i _ => o.ents.length - (intOf i).toNat)
      case atStart => exact ⟨0, ⟨#[]⟩, Nat.zero_le _, rfl, rfl, by rw [List.drop_zero], hX⟩
      case round =>
        clear hX
        obtain ⟨k, s, hkl, rfl, rfl, hen, hX⟩ := hrel
        by_cases hlt : k < o.ents.length
        · obtain ⟨ad, hea, hbl, g0, g1, g2⟩ := hX.2.1.ents k o.ents[k] (List.getElem?_eq_getElem hlt)
          have hi : (k : Int) < o.ents.length := by omega
          have hns := hnm o.ents[k] (List.getElem_mem hlt)
          rw [List.drop_eq_getElem_cons hlt, entsB] at hen
          rw [hea]
          clear hea
          generalize o.ents[k] = x at *
          obtain ⟨xn, xd, xi⟩ := x
          simp only at g0 g1 g2 hen hns
          have hY := Arr.new wr 79 #[.string xn, .bool xd, .string xi]
          have hX1 := hX.below ((Below.refl _ _).alloc (Nat.le_refl _) (.cells #[.string xn, .bool xd, .string xi] 79))
          have C := Lib.hid (entryName_any xn hns)
          have HE := Lib.hid hen
          clear hen hX hns
          generalize nameB xn = N at *
          have hidb := Lib.hid (idB_ne xi)
          have hle : Hid (leB xn s = (Op.bytesLess xn.toList s.toList || xn.toList == s.toList)) := rfl
          go_wp2_with fail
          have c := C.out (wr.alloc (.cells #[.string xn, .bool xd, .string xi] 79))
          (with_reducible refine c.mono ?_)
          clear c C
          rintro _ w2 ⟨rfl, b2⟩
          have hY2 := hY.below b2 hY.lt
          have hX2 := hX1.below b2
          have e0 := hY2.cell 0
          have e2 := hY2.cell 2
          clear hY hX1 b2 g0 g1 g2 hbl
          simp only [List.getElem?_toArray, List.getElem?_cons_zero, List.getElem?_cons_succ] at e0 e2
          cases N
          · have HG3 : Hid (G = 2) := by show _ = _; rw [HG2.out, HE.out]; rfl
            clear HG2 HE hidb hle
            go_wp2_with fail
            go_ret
            exact ⟨by rw [HG3.out]; rfl, hX2.2.2⟩
          cases hI : (xi.size : Int) != 32
          case true =>
            have HG3 : Hid (G = 2) := by show _ = _; rw [HG2.out, HE.out, hidb.out, hI]; rfl
            clear HG2 HE hidb hle
            go_wp2_with fail
            go_ret
            exact ⟨by rw [HG3.out]; rfl, hX2.2.2⟩
          cases hq : (Op.bytesLess xn.toList s.toList || xn.toList == s.toList)
          · have HE2 : Hid (entsB ⟨#[]⟩ o.ents = entsB xn (o.ents.drop (k + 1))) := by show _ = _; rw [HE.out, hidb.out, hI, hle.out, hq]; rfl
            clear HG2 HE hidb hle
            go_wp2_with fail
            refine ⟨⟨k + 1, xn, hlt, by go_num, rfl, HE2.out, hX2⟩, by simp [intOf]; omega⟩
          · have HG3 : Hid (G = 2) := by show _ = _; rw [HG2.out, HE.out, hidb.out, hI, hle.out, hq]; rfl
            clear HG2 HE hidb hle
            go_wp2_with fail
            go_ret
            exact ⟨by rw [HG3.out]; rfl, hX2.2.2⟩
        obtain rfl : k = o.ents.length := by omega
        rw [List.drop_length, entsB] at hen
        rw [hen] at HG2
        clear hen hlt hkl
        have hi : ¬ (o.ents.length : Int) < o.ents.length := by omega
        have hmk : ∀ W, (Instr.makeMap 62 none).run Tryz.prog W = .ok (.map (some W.heap.size)) (W.alloc (.map #[] 0)) := fun W => rfl
        have hW := Bm.start hX
        have hW0 := Lib.hid hW
        obtain ⟨c0, c1, c2, c3, c4, c5, c6, c7, c8⟩ := hW.bx.c
        clear hX hW
        go_wp2_with fail
        clear c0 c1 c2 c3 c4 c5 c6 c7 c8 hmk
        generalize wr.heap.size = b2 at *
        go_loopw [133] (fun i wr => ∃ k : Nat, k ≤ o.pars.length ∧ i = .int .i64 (k : Int) ∧ parsE [] o.pars = parsE (o.pars.take k) (o.pars.drop k) ∧ Bm w o p b2 (hadL (o.pars.take k)) wr) (fun i _ => o.pars.length - (intOf i).toNat)
        case atStart => exact ⟨0, Nat.zero_le _, rfl, by rw [List.drop_zero, List.take_zero], hW0.out⟩
        case round =>
          clear hW0
          obtain ⟨k, hkl, rfl, hpe, hW⟩ := hrel
          by_cases hlt : k < o.pars.length
          · obtain ⟨ad, hea, hbl, g0⟩ := hW.bx.2.1.pars k o.pars[k] (List.getElem?_eq_getElem hlt)
            have hi2 : (k : Int) < o.pars.length := by omega
            have ht : Hid (o.pars.take (k + 1) = o.pars.take k ++ [o.pars[k]]) := List.take_succ_eq_append_getElem hlt
            rw [List.drop_eq_getElem_cons hlt, parsE] at hpe
            rw [hea]
            clear hea hbl
            generalize o.pars[k] = x at *
            have HE := Lib.hid hpe
            clear hpe
            have hidb := Lib.hid (idB_ne x)
            have hlk := run_look hW.mp x
            rw [getL_had] at hlk
            cases hI : (x.size : Int) != 32
            case true =>
              have HG3 : Hid (G = 2) := by
                show _ = _
                have e1 : parsE [] o.pars = 2 := by rw [HE.out, hidb.out, hI]; rfl
                rw [HG2.out, e1]; rfl
              clear HG2 HE hidb ht hlk
              go_wp2_with fail
              go_ret
              exact ⟨by rw [HG3.out]; rfl, hW.bx.2.2⟩
            have hup := Lib.hid (fun h => upL_had x (o.pars.take k) h)
            generalize (o.pars.take k).any (eqB x) = a at *
            cases a
            case true =>
              have HG3 : Hid (G = 8) := by
                show _ = _
                have e1 : parsE [] o.pars = 8 := by rw [HE.out, hidb.out, hI]; rfl
                rw [HG2.out, e1]; rfl
              clear HG2 HE hidb ht hup
              go_wp2_with fail
              go_ret
              exact ⟨by rw [HG3.out]; rfl, hW.bx.2.2⟩
            have HE2 : Hid (parsE [] o.pars = parsE (o.pars.take (k + 1)) (o.pars.drop (k + 1))) := by show _ = _; rw [HE.out, hidb.out, hI, ht.out]; rfl
            have hup2 := Lib.hid (hup.out rfl)
            clear HG2 HE hidb hup
            go_wp2_with (refine wpList_up rfl _ _ _ (.inl rfl) b2 _ hW.mp rfl _ _ rfl rfl ?_; intro Wn hMn kn)
            refine ⟨⟨k + 1, hlt, by go_num, HE2.out, ?_⟩, by simp [intOf]; omega⟩
            rw [hup2.out, ← ht.out] at hMn
            exact hW.up hMn kn
          obtain rfl : k = o.pars.length := by omega
          rw [List.drop_length, parsE] at hpe
          rw [hpe] at HG2
          have hi2 : ¬ (o.pars.length : Int) < o.pars.length := by omega
          have hX := hW.bx
          clear hpe hlt hkl hW
          obtain ⟨c0, c1, c2, c3, c4, c5, c6, c7, c8⟩ := hX.c
          unfold noIdB zeroB lateB at HG2
          rw [hk] at c0 HG2
          have CW := Lib.hid (between_zero o.who (by omega))
          have CN := Lib.hid (between_zero o.note (by omega))
          generalize hasZero o.who = zw at *
          generalize hasZero o.note = zn at *
          go_wp2_with fail
          have c := CW.out wr
          (with_reducible refine c.mono ?_)
          clear c CW
          rintro _ W5 ⟨rfl, b5⟩
          have hX5 := hX.below b5
          clear c0 c1 c2 c3 c4 c5 c6 c7 c8 hX b5
          obtain ⟨c0, c1, c2, c3, c4, c5, c6, c7, c8⟩ := hX5.c
          cases zw
          case true =>
            have HG3 : Hid (G = 2) := by show _ = _; rw [HG2.out]; rfl
            clear HG2
            go_wp2_with fail
            go_ret
            exact ⟨by rw [HG3.out]; rfl, hX5.2.2⟩
          go_wp2_with fail
          have c := CN.out W5
          (with_reducible refine c.mono ?_)
          clear c CN
          rintro _ W6 ⟨rfl, b6⟩
          have hX6 := hX5.below b6
          clear c0 c1 c2 c3 c4 c5 c6 c7 c8 hX5 b6
          obtain ⟨c0, c1, c2, c3, c4, c5, c6, c7, c8⟩ := hX6.c
          cases zn
          case true =>
            have HG3 : Hid (G = 2) := by show _ = _; rw [HG2.out]; rfl
            clear HG2
            go_wp2_with fail
            go_ret
            exact ⟨by rw [HG3.out]; rfl, hX6.2.2⟩
          by_cases ht : o.time < 0
          · have HG3 : Hid (G = 3) := by show _ = _; rw [HG2.out, decide_eq_true ht]; rfl
            clear HG2
            go_wp2_with fail
            go_ret
            exact ⟨by rw [HG3.out]; rfl, hX6.2.2⟩
          by_cases ht2 : 1099511627776 ≤ o.time
          · have HG3 : Hid (G = 3) := by show _ = _; rw [HG2.out, decide_eq_false ht, decide_eq_true ht2]; rfl
            clear HG2
            go_wp2_with fail
            go_ret
            exact ⟨by rw [HG3.out]; rfl, hX6.2.2⟩
          have HG3 : Hid (G = 0) := by show _ = _; rw [HG2.out, decide_eq_false ht, decide_eq_false ht2]; rfl
          clear HG2
          go_wp2_with fail
          go_ret
          exact ⟨by rw [HG3.out]; rfl, hX6.2.2⟩

end Go.Proofs.YtmikfmcgddmplaaGreatDoor

/- ref.GoodObject, kind 2: the walk. -/
namespace Go.Proofs.YtmikfmcgddmplaaGreatDoor
open Go.RowKit

set_option maxRecDepth 100000 in
set_option maxHeartbeats 4000000 in
theorem GoodObject_2 (o : Ob) (p : At) (w : World) (hO : ObIn w w.heap.size o p) (hnm : ∀ e ∈ o.ents, e.name.size ≤ 281474976710656) (hk : o.kind = 2) :
    Calls Tryz.prog 51 #[.agg (obArr o p)] w fun e w' => e = .returned (.int .i64 (good o)) ∧ Below w.heap.size w w' := by
  have h1 := Lib.hid (Bx.start hO)
  obtain ⟨G, HG⟩ : ∃ G, Hid (G = good o) := ⟨_, rfl⟩
  rw [← HG.out]
  clear hO
  generalize hA : obArr o p = arr at *
  clear hA
  go_enter Tryz.func51, Tryz.ntmps51
  go_upto_region 1 with fail
  refine wp_forget (Bx w o p) h1.out ?_
  clear h1
  intro W hX
  obtain ⟨c0, c1, c2, c3, c4, c5, c6, c7, c8⟩ := hX.c
  rw [hk] at c0
  go_upto_region 3 with fail
  have hmk : ∀ W, (Instr.makeMap 62 none).run Tryz.prog W = .ok (.map (some W.heap.size)) (W.alloc (.map #[] 0)) := fun W => rfl
  have hW := Bm.start hX
  clear c0 c1 c2 c3 c4 c5 c6 c7 c8 hX
  obtain ⟨c0, c1, c2, c3, c4, c5, c6, c7, c8⟩ := hW.bx.c
  go_upto_region 4 with (refine wpList_up rfl _ _ _ (.inr rfl) W.heap.size _ hW.mp rfl _ _ rfl rfl ?_; intro Wn hMn kn; replace hW := hW.up hMn kn; clear c0 c1 c2 c3 c4 c5 c6 c7 c8 hMn kn; obtain ⟨c0, c1, c2, c3, c4, c5, c6, c7, c8⟩ := hW.bx.c)
  have hW2 : Bm w o p W.heap.size (lit8 (!o.data.toList.isEmpty) (decide (0 < o.ents.length)) (!o.tree.toList.isEmpty) (decide (0 < o.pars.length)) (o.time != 0) (!o.target.toList.isEmpty) (!o.who.toList.isEmpty) (!o.note.toList.isEmpty)) Wn := hW
  have HS : Hid (anyT (strike (lit8 (!o.data.toList.isEmpty) (decide (0 < o.ents.length)) (!o.tree.toList.isEmpty) (decide (0 < o.pars.length)) (o.time != 0) (!o.target.toList.isEmpty) (!o.who.toList.isEmpty) (!o.note.toList.isEmpty)) [kEnts]) = strayB o) := stray_map2 o hk
  generalize (lit8 (!o.data.toList.isEmpty) (decide (0 < o.ents.length)) (!o.tree.toList.isEmpty) (decide (0 < o.pars.length)) (o.time != 0) (!o.target.toList.isEmpty) (!o.who.toList.isEmpty) (!o.note.toList.isEmpty)) = L8 at *
  clear hW hmk
  generalize W.heap.size = bm at *
  obtain ⟨fb, f5, f1, f2, f3, f4⟩ := five Wn
  have c0' := (fb.cell (p := ⟨w.heap.size, 0, none⟩) (by have := hW2.bx.1.lt; omega)).trans c0
  rw [hk] at c0'
  have c9 := f5.cell 1
  simp only [List.getElem?_toArray, List.getElem?_cons_zero, List.getElem?_cons_succ] at c9
  have hbm := hW2.mp.lt
  have hS : Hid (Bm w o p bm L8 (((((Wn.alloc (.cells #[.string ⟨#[100, 97, 116, 97]⟩] 9)).alloc (.cells #[.string ⟨#[101, 110, 116, 114, 105, 101, 115]⟩] 9)).alloc (.cells #[.string ⟨#[116, 114, 101, 101]⟩, .string ⟨#[112, 97, 114, 101, 110, 116, 115]⟩, .string ⟨#[116, 105, 109, 101]⟩, .string ⟨#[119, 104, 111]⟩, .string ⟨#[110, 111, 116, 101]⟩] 9)).alloc (.cells #[.string ⟨#[116, 97, 114, 103, 101, 116]⟩, .string ⟨#[119, 104, 111]⟩, .string ⟨#[110, 111, 116, 101]⟩] 9)).alloc (.cells #[.slice (some ⟨Wn.heap.size, 0, none⟩) 1 1, .slice (some ⟨Wn.heap.size + 1, 0, none⟩) 1 1, .slice (some ⟨Wn.heap.size + 1 + 1, 0, none⟩) 5 5, .slice (some ⟨Wn.heap.size + 1 + 1 + 1, 0, none⟩) 3 3] 22)) ∧ Txs (((((Wn.alloc (.cells #[.string ⟨#[100, 97, 116, 97]⟩] 9)).alloc (.cells #[.string ⟨#[101, 110, 116, 114, 105, 101, 115]⟩] 9)).alloc (.cells #[.string ⟨#[116, 114, 101, 101]⟩, .string ⟨#[112, 97, 114, 101, 110, 116, 115]⟩, .string ⟨#[116, 105, 109, 101]⟩, .string ⟨#[119, 104, 111]⟩, .string ⟨#[110, 111, 116, 101]⟩] 9)).alloc (.cells #[.string ⟨#[116, 97, 114, 103, 101, 116]⟩, .string ⟨#[119, 104, 111]⟩, .string ⟨#[110, 111, 116, 101]⟩] 9)).alloc (.cells #[.slice (some ⟨Wn.heap.size, 0, none⟩) 1 1, .slice (some ⟨Wn.heap.size + 1, 0, none⟩) 1 1, .slice (some ⟨Wn.heap.size + 1 + 1, 0, none⟩) 5 5, .slice (some ⟨Wn.heap.size + 1 + 1 + 1, 0, none⟩) 3 3] 22)) (((((Wn.alloc (.cells #[.string ⟨#[100, 97, 116, 97]⟩] 9)).alloc (.cells #[.string ⟨#[101, 110, 116, 114, 105, 101, 115]⟩] 9)).alloc (.cells #[.string ⟨#[116, 114, 101, 101]⟩, .string ⟨#[112, 97, 114, 101, 110, 116, 115]⟩, .string ⟨#[116, 105, 109, 101]⟩, .string ⟨#[119, 104, 111]⟩, .string ⟨#[110, 111, 116, 101]⟩] 9)).alloc (.cells #[.string ⟨#[116, 97, 114, 103, 101, 116]⟩, .string ⟨#[119, 104, 111]⟩, .string ⟨#[110, 111, 116, 101]⟩] 9)).alloc (.cells #[.slice (some ⟨Wn.heap.size, 0, none⟩) 1 1, .slice (some ⟨Wn.heap.size + 1, 0, none⟩) 1 1, .slice (some ⟨Wn.heap.size + 1 + 1, 0, none⟩) 5 5, .slice (some ⟨Wn.heap.size + 1 + 1 + 1, 0, none⟩) 3 3] 22)).heap.size (some ⟨Wn.heap.size + 1, 0, none⟩) [kEnts] ∧ bm ≠ Wn.heap.size + 1) := ⟨hW2.below fb, row_texts f2, by omega⟩
  clear c0 c1 c2 c3 c4 c5 c6 c7 c8 fb f5 f1 f2 f3 f4 hW2 hbm
  go_upto_region 5 with fail
  refine wp_forget (fun W => Bm w o p bm L8 W ∧ Txs W W.heap.size (some ⟨Wn.heap.size + 1, 0, none⟩) [kEnts] ∧ bm ≠ Wn.heap.size + 1) hS.out ?_
  clear hS c0' c9
  generalize Wn.heap.size + 1 = mb at *
  clear W
  rintro W ⟨hW, hT, hne⟩
  have hKl : [kEnts].length = 1 := rfl
  generalize [kEnts] = KK at *
  go_wp2_with fail
  go_loopw [63] (fun i wr => ∃ j : Nat, j ≤ 1 ∧ i = .int .i64 (j : Int) ∧ Bm w o p bm (strike L8 (KK.take j)) wr ∧ Txs wr wr.heap.size (some ⟨mb, 0, none⟩) KK) (fun i _ => 1 - (intOf i).toNat)
  case atStart => exact ⟨0, Nat.zero_le _, rfl, hW, hT⟩
  case round =>
    clear hW hT W
    obtain ⟨j, hj, rfl, hW, hT⟩ := hrel
    by_cases hlt : j < 1
    · have hlt2 : j < KK.length := by omega
      obtain ⟨ad, ead, hbl, g0⟩ := hT j KK[j] (List.getElem?_eq_getElem hlt2)
      cases ead
      rw [base_add] at g0
      have hst : Hid (strike L8 (KK.take (j + 1)) = upL KK[j] false (strike L8 (KK.take j))) := by
        show _ = _
        rw [List.take_succ_eq_append_getElem hlt2, strike_app]
      have hi : (j : Int) < 1 := by omega
      clear hbl
      generalize KK[j] = x at *
      go_wp2_with (refine wpList_up rfl _ _ _ (.inl rfl) bm _ hW.mp rfl _ _ rfl rfl ?_; intro Wn hMn kn)
      refine ⟨⟨j + 1, hlt, by go_num, ?_, ?_⟩, by simp [intOf]; omega⟩
      · rw [hst.out]; exact hW.up hMn kn
      · exact hT.far kn (fun ad e => by cases e; exact fun h => hne h.symm)
    obtain rfl : j = 1 := by omega
    rw [List.take_of_length_le (by omega)] at hW
    clear hT hj hlt hne hKl
    generalize strike L8 KK = L at *
    have hrg := run_range_map (P := Tryz.prog) wr 62 _ _ bm _ _ Tryz.underlying62 hW.mp
    have hI0 := Lib.hid (Itr.start (W := wr) (b := bm) (l := L))
    have hW0 := Lib.hid (hW.below ((Below.refl _ _).alloc (Nat.le_refl _) (.mapIter (some bm) L.length #[] L.length)))
    have hrb : wr.heap.size ≠ bm := by have := hW.mp.lt; omega
    have hrw : w.heap.size < wr.heap.size := hW.bx.1.lt
    clear hW
    go_wp2_with fail
    clear hrg
    generalize wr.heap.size = r at *
    go_loopg [] (leftOf (mkEs 0 L).toArray #[]).size (fun gf wx => Itr bm r L gf wx ∧ Bm w o p bm L wx)
    case atStart => exact ⟨hI0.out, hW0.out⟩
    case round =>
      clear hI0 hW0
      obtain ⟨hI, hW⟩ := hrel
      rcases itr_next hW.mp hI hrb with ⟨hno, hnx⟩ | ⟨kk, v, W', hnx, hent, hM', k', hv1, hv2⟩
      case inr =>
        have hW' : Bm w o p bm L W' := ⟨hW.bx.kept k' hrw, hM', hW.hb⟩
        clear hM' k' hW hI
        cases v
        · obtain ⟨m, rfl, hI'⟩ := hv2 rfl
          clear hv1 hv2
          go_wp2_with fail
          go_roundg m
          case measure => omega
          case rel => exact ⟨hI', hW'⟩
        · have HR2 : Hid (G = 2) := by
            show _ = _
            rw [HG.out]
            unfold good
            rw [← HS.out, hv1 rfl, hk]
            rfl
          clear hv1 hv2 HG HS
          go_wp2_with fail
          go_ret
          exact ⟨by rw [HR2.out]; rfl, hW'.bx.2.2⟩
      have HG2 : Hid (G = if longB o then 1 else if fullB o then 6 else if !entsB ⟨#[]⟩ o.ents then 2 else if parsE [] o.pars ≠ 0 then parsE [] o.pars else if noIdB o then 2 else if zeroB o then 2 else if lateB o then 3 else 0) := by
        show _ = _
        rw [HG.out]
        unfold good
        rw [← HS.out, hno, hk]
        rfl
      have hX := hW.bx
      clear HG HS hI hW hno
      obtain ⟨c0, c1, c2, c3, c4, c5, c6, c7, c8⟩ := hX.c
      unfold longB fullB at HG2
      by_cases hd : (4096 : Int) < o.data.size
      · rw [decide_eq_true (by omega : 4096 < o.data.size)] at HG2
        go_wp2_with fail
        go_ret
        exact ⟨by rw [HG2.out]; rfl, hX.2.2⟩
      rw [decide_eq_false (by omega : ¬ 4096 < o.data.size)] at HG2
      by_cases hwh : (4096 : Int) < o.who.size
      · rw [decide_eq_true (by omega : 4096 < o.who.size)] at HG2
        go_wp2_with fail
        go_ret
        exact ⟨by rw [HG2.out]; rfl, hX.2.2⟩
      rw [decide_eq_false (by omega : ¬ 4096 < o.who.size)] at HG2
      by_cases hnt : (4096 : Int) < o.note.size
      · rw [decide_eq_true (by omega : 4096 < o.note.size)] at HG2
        go_wp2_with fail
        go_ret
        exact ⟨by rw [HG2.out]; rfl, hX.2.2⟩
      rw [decide_eq_false (by omega : ¬ 4096 < o.note.size)] at HG2
      by_cases he : (64 : Int) < o.ents.length
      · rw [decide_eq_true (by omega : 64 < o.ents.length)] at HG2
        go_wp2_with fail
        go_ret
        exact ⟨by rw [HG2.out]; rfl, hX.2.2⟩
      rw [decide_eq_false (by omega : ¬ 64 < o.ents.length)] at HG2
      by_cases hp : (4 : Int) < o.pars.length
      · rw [decide_eq_true (by omega : 4 < o.pars.length)] at HG2
        go_wp2_with fail
        go_ret
        exact ⟨by rw [HG2.out]; rfl, hX.2.2⟩
      rw [decide_eq_false (by omega : ¬ 4 < o.pars.length)] at HG2
      go_wp2_with fail
      clear c0 c1 c2 c3 c4 c5 c6 c7 c8
      go_loopw [9, 106] (fun b i wr => ∃ (k : Nat) (s : ByteArray), k ≤ o.ents.length ∧ i = .int .i64 (k : Int) ∧ b = .string s ∧ entsB ⟨#[]⟩ o.ents = entsB s (o.ents.drop k) ∧ Bx w o p wr) (fun _ i _ => o.ents.length - (intOf i).toNat)
      case atStart => exact ⟨0, ⟨#[]⟩, Nat.zero_le _, rfl, rfl, by rw [List.drop_zero], hX⟩
      case round =>
        clear hX
        obtain ⟨k, s, hkl, rfl, rfl, hen, hX⟩ := hrel
        by_cases hlt : k < o.ents.length
        · obtain ⟨ad, hea, hbl, g0, g1, g2⟩ := hX.2.1.ents k o.ents[k] (List.getElem?_eq_getElem hlt)
          have hi : (k : Int) < o.ents.length := by omega
          have hns := hnm o.ents[k] (List.getElem_mem hlt)
          rw [List.drop_eq_getElem_cons hlt, entsB] at hen
          rw [hea]
          clear hea
          generalize o.ents[k] = x at *
          obtain ⟨xn, xd, xi⟩ := x
          simp only at g0 g1 g2 hen hns
          have hY := Arr.new wr 79 #[.string xn, .bool xd, .string xi]
          have hX1 := hX.below ((Below.refl _ _).alloc (Nat.le_refl _) (.cells #[.string xn, .bool xd, .string xi] 79))
          have C := Lib.hid (entryName_any xn hns)
          have HE := Lib.hid hen
          clear hen hX hns
          generalize nameB xn = N at *
          have hidb := Lib.hid (idB_ne xi)
          have hle : Hid (leB xn s = (Op.bytesLess xn.toList s.toList || xn.toList == s.toList)) := rfl
          go_wp2_with fail
          have c := C.out (wr.alloc (.cells #[.string xn, .bool xd, .string xi] 79))
          (with_reducible refine c.mono ?_)
          clear c C
          rintro _ w2 ⟨rfl, b2⟩
          have hY2 := hY.below b2 hY.lt
          have hX2 := hX1.below b2
          have e0 := hY2.cell 0
          have e2 := hY2.cell 2
          clear hY hX1 b2 g0 g1 g2 hbl
          simp only [List.getElem?_toArray, List.getElem?_cons_zero, List.getElem?_cons_succ] at e0 e2
          cases N
          · have HG3 : Hid (G = 2) := by show _ = _; rw [HG2.out, HE.out]; rfl
            clear HG2 HE hidb hle
            go_wp2_with fail
            go_ret
            exact ⟨by rw [HG3.out]; rfl, hX2.2.2⟩
          cases hI : (xi.size : Int) != 32
          case true =>
            have HG3 : Hid (G = 2) := by show _ = _; rw [HG2.out, HE.out, hidb.out, hI]; rfl
            clear HG2 HE hidb hle
            go_wp2_with fail
            go_ret
            exact ⟨by rw [HG3.out]; rfl, hX2.2.2⟩
          cases hq : (Op.bytesLess xn.toList s.toList || xn.toList == s.toList)
          · have HE2 : Hid (entsB ⟨#[]⟩ o.ents = entsB xn (o.ents.drop (k + 1))) := by show _ = _; rw [HE.out, hidb.out, hI, hle.out, hq]; rfl
            clear HG2 HE hidb hle
            go_wp2_with fail
            refine ⟨⟨k + 1, xn, hlt, by go_num, rfl, HE2.out, hX2⟩, by simp [intOf]; omega⟩
          · have HG3 : Hid (G = 2) := by show _ = _; rw [HG2.out, HE.out, hidb.out, hI, hle.out, hq]; rfl
            clear HG2 HE hidb hle
            go_wp2_with fail
            go_ret
            exact ⟨by rw [HG3.out]; rfl, hX2.2.2⟩
        obtain rfl : k = o.ents.length := by omega
        rw [List.drop_length, entsB] at hen
        rw [hen] at HG2
        clear hen hlt hkl
        have hi : ¬ (o.ents.length : Int) < o.ents.length := by omega
        have hmk : ∀ W, (Instr.makeMap 62 none).run Tryz.prog W = .ok (.map (some W.heap.size)) (W.alloc (.map #[] 0)) := fun W => rfl
        have hW := Bm.start hX
        have hW0 := Lib.hid hW
        obtain ⟨c0, c1, c2, c3, c4, c5, c6, c7, c8⟩ := hW.bx.c
        clear hX hW
        go_wp2_with fail
        clear c0 c1 c2 c3 c4 c5 c6 c7 c8 hmk
        generalize wr.heap.size = b2 at *
        go_loopw [133] (fun i wr => ∃ k : Nat, k ≤ o.pars.length ∧ i = .int .i64 (k : Int) ∧ parsE [] o.pars = parsE (o.pars.take k) (o.pars.drop k) ∧ Bm w o p b2 (hadL (o.pars.take k)) wr) (fun i _ => o.pars.length - (intOf i).toNat)
        case atStart => exact ⟨0, Nat.zero_le _, rfl, by rw [List.drop_zero, List.take_zero], hW0.out⟩
        case round =>
          clear hW0
          obtain ⟨k, hkl, rfl, hpe, hW⟩ := hrel
          by_cases hlt : k < o.pars.length
          · obtain ⟨ad, hea, hbl, g0⟩ := hW.bx.2.1.pars k o.pars[k] (List.getElem?_eq_getElem hlt)
            have hi2 : (k : Int) < o.pars.length := by omega
            have ht : Hid (o.pars.take (k + 1) = o.pars.take k ++ [o.pars[k]]) := List.take_succ_eq_append_getElem hlt
            rw [List.drop_eq_getElem_cons hlt, parsE] at hpe
            rw [hea]
            clear hea hbl
            generalize o.pars[k] = x at *
            have HE := Lib.hid hpe
            clear hpe
            have hidb := Lib.hid (idB_ne x)
            have hlk := run_look hW.mp x
            rw [getL_had] at hlk
            cases hI : (x.size : Int) != 32
            case true =>
              have HG3 : Hid (G = 2) := by
                show _ = _
                have e1 : parsE [] o.pars = 2 := by rw [HE.out, hidb.out, hI]; rfl
                rw [HG2.out, e1]; rfl
              clear HG2 HE hidb ht hlk
              go_wp2_with fail
              go_ret
              exact ⟨by rw [HG3.out]; rfl, hW.bx.2.2⟩
            have hup := Lib.hid (fun h => upL_had x (o.pars.take k) h)
            generalize (o.pars.take k).any (eqB x) = a at *
            cases a
            case true =>
              have HG3 : Hid (G = 8) := by
                show _ = _
                have e1 : parsE [] o.pars = 8 := by rw [HE.out, hidb.out, hI]; rfl
                rw [HG2.out, e1]; rfl
              clear HG2 HE hidb ht hup
              go_wp2_with fail
              go_ret
              exact ⟨by rw [HG3.out]; rfl, hW.bx.2.2⟩
            have HE2 : Hid (parsE [] o.pars = parsE (o.pars.take (k + 1)) (o.pars.drop (k + 1))) := by show _ = _; rw [HE.out, hidb.out, hI, ht.out]; rfl
            have hup2 := Lib.hid (hup.out rfl)
            clear HG2 HE hidb hup
            go_wp2_with (refine wpList_up rfl _ _ _ (.inl rfl) b2 _ hW.mp rfl _ _ rfl rfl ?_; intro Wn hMn kn)
            refine ⟨⟨k + 1, hlt, by go_num, HE2.out, ?_⟩, by simp [intOf]; omega⟩
            rw [hup2.out, ← ht.out] at hMn
            exact hW.up hMn kn
          obtain rfl : k = o.pars.length := by omega
          rw [List.drop_length, parsE] at hpe
          rw [hpe] at HG2
          have hi2 : ¬ (o.pars.length : Int) < o.pars.length := by omega
          have hX := hW.bx
          clear hpe hlt hkl hW
          obtain ⟨c0, c1, c2, c3, c4, c5, c6, c7, c8⟩ := hX.c
          unfold noIdB zeroB lateB at HG2
          rw [hk] at c0 HG2
          have CW := Lib.hid (between_zero o.who (by omega))
          have CN := Lib.hid (between_zero o.note (by omega))
          generalize hasZero o.who = zw at *
          generalize hasZero o.note = zn at *
          go_wp2_with fail
          have c := CW.out wr
          (with_reducible refine c.mono ?_)
          clear c CW
          rintro _ W5 ⟨rfl, b5⟩
          have hX5 := hX.below b5
          clear c0 c1 c2 c3 c4 c5 c6 c7 c8 hX b5
          obtain ⟨c0, c1, c2, c3, c4, c5, c6, c7, c8⟩ := hX5.c
          cases zw
          case true =>
            have HG3 : Hid (G = 2) := by show _ = _; rw [HG2.out]; rfl
            clear HG2
            go_wp2_with fail
            go_ret
            exact ⟨by rw [HG3.out]; rfl, hX5.2.2⟩
          go_wp2_with fail
          have c := CN.out W5
          (with_reducible refine c.mono ?_)
          clear c CN
          rintro _ W6 ⟨rfl, b6⟩
          have hX6 := hX5.below b6
          clear c0 c1 c2 c3 c4 c5 c6 c7 c8 hX5 b6
          obtain ⟨c0, c1, c2, c3, c4, c5, c6, c7, c8⟩ := hX6.c
          cases zn
          case true =>
            have HG3 : Hid (G = 2) := by show _ = _; rw [HG2.out]; rfl
            clear HG2
            go_wp2_with fail
            go_ret
            exact ⟨by rw [HG3.out]; rfl, hX6.2.2⟩
          by_cases ht : o.time < 0
          · have HG3 : Hid (G = 3) := by show _ = _; rw [HG2.out, decide_eq_true ht]; rfl
            clear HG2
            go_wp2_with fail
            go_ret
            exact ⟨by rw [HG3.out]; rfl, hX6.2.2⟩
          by_cases ht2 : 1099511627776 ≤ o.time
          · have HG3 : Hid (G = 3) := by show _ = _; rw [HG2.out, decide_eq_false ht, decide_eq_true ht2]; rfl
            clear HG2
            go_wp2_with fail
            go_ret
            exact ⟨by rw [HG3.out]; rfl, hX6.2.2⟩
          have HG3 : Hid (G = 0) := by show _ = _; rw [HG2.out, decide_eq_false ht, decide_eq_false ht2]; rfl
          clear HG2
          go_wp2_with fail
          go_ret
          exact ⟨by rw [HG3.out]; rfl, hX6.2.2⟩

end Go.Proofs.YtmikfmcgddmplaaGreatDoor

/- ref.GoodObject, kind 3: the walk. -/
namespace Go.Proofs.YtmikfmcgddmplaaGreatDoor
open Go.RowKit

set_option maxRecDepth 100000 in
set_option maxHeartbeats 4000000 in
theorem GoodObject_3 (o : Ob) (p : At) (w : World) (hO : ObIn w w.heap.size o p) (hnm : ∀ e ∈ o.ents, e.name.size ≤ 281474976710656) (hk : o.kind = 3) :
    Calls Tryz.prog 51 #[.agg (obArr o p)] w fun e w' => e = .returned (.int .i64 (good o)) ∧ Below w.heap.size w w' := by
  have h1 := Lib.hid (Bx.start hO)
  obtain ⟨G, HG⟩ : ∃ G, Hid (G = good o) := ⟨_, rfl⟩
  rw [← HG.out]
  clear hO
  generalize hA : obArr o p = arr at *
  clear hA
  go_enter Tryz.func51, Tryz.ntmps51
  go_upto_region 1 with fail
  refine wp_forget (Bx w o p) h1.out ?_
  clear h1
  intro W hX
  obtain ⟨c0, c1, c2, c3, c4, c5, c6, c7, c8⟩ := hX.c
  rw [hk] at c0
  go_upto_region 3 with fail
  have hmk : ∀ W, (Instr.makeMap 62 none).run Tryz.prog W = .ok (.map (some W.heap.size)) (W.alloc (.map #[] 0)) := fun W => rfl
  have hW := Bm.start hX
  clear c0 c1 c2 c3 c4 c5 c6 c7 c8 hX
  obtain ⟨c0, c1, c2, c3, c4, c5, c6, c7, c8⟩ := hW.bx.c
  go_upto_region 4 with (refine wpList_up rfl _ _ _ (.inr rfl) W.heap.size _ hW.mp rfl _ _ rfl rfl ?_; intro Wn hMn kn; replace hW := hW.up hMn kn; clear c0 c1 c2 c3 c4 c5 c6 c7 c8 hMn kn; obtain ⟨c0, c1, c2, c3, c4, c5, c6, c7, c8⟩ := hW.bx.c)
  have hW2 : Bm w o p W.heap.size (lit8 (!o.data.toList.isEmpty) (decide (0 < o.ents.length)) (!o.tree.toList.isEmpty) (decide (0 < o.pars.length)) (o.time != 0) (!o.target.toList.isEmpty) (!o.who.toList.isEmpty) (!o.note.toList.isEmpty)) Wn := hW
  have HS : Hid (anyT (strike (lit8 (!o.data.toList.isEmpty) (decide (0 < o.ents.length)) (!o.tree.toList.isEmpty) (decide (0 < o.pars.length)) (o.time != 0) (!o.target.toList.isEmpty) (!o.who.toList.isEmpty) (!o.note.toList.isEmpty)) [kTree, kPars, kTime, kWho, kNote]) = strayB o) := stray_map3 o hk
  generalize (lit8 (!o.data.toList.isEmpty) (decide (0 < o.ents.length)) (!o.tree.toList.isEmpty) (decide (0 < o.pars.length)) (o.time != 0) (!o.target.toList.isEmpty) (!o.who.toList.isEmpty) (!o.note.toList.isEmpty)) = L8 at *
  clear hW hmk
  generalize W.heap.size = bm at *
  obtain ⟨fb, f5, f1, f2, f3, f4⟩ := five Wn
  have c0' := (fb.cell (p := ⟨w.heap.size, 0, none⟩) (by have := hW2.bx.1.lt; omega)).trans c0
  rw [hk] at c0'
  have c9 := f5.cell 2
  simp only [List.getElem?_toArray, List.getElem?_cons_zero, List.getElem?_cons_succ] at c9
  have hbm := hW2.mp.lt
  have hS : Hid (Bm w o p bm L8 (((((Wn.alloc (.cells #[.string ⟨#[100, 97, 116, 97]⟩] 9)).alloc (.cells #[.string ⟨#[101, 110, 116, 114, 105, 101, 115]⟩] 9)).alloc (.cells #[.string ⟨#[116, 114, 101, 101]⟩, .string ⟨#[112, 97, 114, 101, 110, 116, 115]⟩, .string ⟨#[116, 105, 109, 101]⟩, .string ⟨#[119, 104, 111]⟩, .string ⟨#[110, 111, 116, 101]⟩] 9)).alloc (.cells #[.string ⟨#[116, 97, 114, 103, 101, 116]⟩, .string ⟨#[119, 104, 111]⟩, .string ⟨#[110, 111, 116, 101]⟩] 9)).alloc (.cells #[.slice (some ⟨Wn.heap.size, 0, none⟩) 1 1, .slice (some ⟨Wn.heap.size + 1, 0, none⟩) 1 1, .slice (some ⟨Wn.heap.size + 1 + 1, 0, none⟩) 5 5, .slice (some ⟨Wn.heap.size + 1 + 1 + 1, 0, none⟩) 3 3] 22)) ∧ Txs (((((Wn.alloc (.cells #[.string ⟨#[100, 97, 116, 97]⟩] 9)).alloc (.cells #[.string ⟨#[101, 110, 116, 114, 105, 101, 115]⟩] 9)).alloc (.cells #[.string ⟨#[116, 114, 101, 101]⟩, .string ⟨#[112, 97, 114, 101, 110, 116, 115]⟩, .string ⟨#[116, 105, 109, 101]⟩, .string ⟨#[119, 104, 111]⟩, .string ⟨#[110, 111, 116, 101]⟩] 9)).alloc (.cells #[.string ⟨#[116, 97, 114, 103, 101, 116]⟩, .string ⟨#[119, 104, 111]⟩, .string ⟨#[110, 111, 116, 101]⟩] 9)).alloc (.cells #[.slice (some ⟨Wn.heap.size, 0, none⟩) 1 1, .slice (some ⟨Wn.heap.size + 1, 0, none⟩) 1 1, .slice (some ⟨Wn.heap.size + 1 + 1, 0, none⟩) 5 5, .slice (some ⟨Wn.heap.size + 1 + 1 + 1, 0, none⟩) 3 3] 22)) (((((Wn.alloc (.cells #[.string ⟨#[100, 97, 116, 97]⟩] 9)).alloc (.cells #[.string ⟨#[101, 110, 116, 114, 105, 101, 115]⟩] 9)).alloc (.cells #[.string ⟨#[116, 114, 101, 101]⟩, .string ⟨#[112, 97, 114, 101, 110, 116, 115]⟩, .string ⟨#[116, 105, 109, 101]⟩, .string ⟨#[119, 104, 111]⟩, .string ⟨#[110, 111, 116, 101]⟩] 9)).alloc (.cells #[.string ⟨#[116, 97, 114, 103, 101, 116]⟩, .string ⟨#[119, 104, 111]⟩, .string ⟨#[110, 111, 116, 101]⟩] 9)).alloc (.cells #[.slice (some ⟨Wn.heap.size, 0, none⟩) 1 1, .slice (some ⟨Wn.heap.size + 1, 0, none⟩) 1 1, .slice (some ⟨Wn.heap.size + 1 + 1, 0, none⟩) 5 5, .slice (some ⟨Wn.heap.size + 1 + 1 + 1, 0, none⟩) 3 3] 22)).heap.size (some ⟨Wn.heap.size + 1 + 1, 0, none⟩) [kTree, kPars, kTime, kWho, kNote] ∧ bm ≠ Wn.heap.size + 1 + 1) := ⟨hW2.below fb, row_texts f3, by omega⟩
  clear c0 c1 c2 c3 c4 c5 c6 c7 c8 fb f5 f1 f2 f3 f4 hW2 hbm
  go_upto_region 5 with fail
  refine wp_forget (fun W => Bm w o p bm L8 W ∧ Txs W W.heap.size (some ⟨Wn.heap.size + 1 + 1, 0, none⟩) [kTree, kPars, kTime, kWho, kNote] ∧ bm ≠ Wn.heap.size + 1 + 1) hS.out ?_
  clear hS c0' c9
  generalize Wn.heap.size + 1 + 1 = mb at *
  clear W
  rintro W ⟨hW, hT, hne⟩
  have hKl : [kTree, kPars, kTime, kWho, kNote].length = 5 := rfl
  generalize [kTree, kPars, kTime, kWho, kNote] = KK at *
  go_wp2_with fail
  go_loopw [63] (fun i wr => ∃ j : Nat, j ≤ 5 ∧ i = .int .i64 (j : Int) ∧ Bm w o p bm (strike L8 (KK.take j)) wr ∧ Txs wr wr.heap.size (some ⟨mb, 0, none⟩) KK) (fun i _ => 5 - (intOf i).toNat)
  case atStart => exact ⟨0, Nat.zero_le _, rfl, hW, hT⟩
  case round =>
    clear hW hT W
    obtain ⟨j, hj, rfl, hW, hT⟩ := hrel
    by_cases hlt : j < 5
    · have hlt2 : j < KK.length := by omega
      obtain ⟨ad, ead, hbl, g0⟩ := hT j KK[j] (List.getElem?_eq_getElem hlt2)
      cases ead
      rw [base_add] at g0
      have hst : Hid (strike L8 (KK.take (j + 1)) = upL KK[j] false (strike L8 (KK.take j))) := by
        show _ = _
        rw [List.take_succ_eq_append_getElem hlt2, strike_app]
      have hi : (j : Int) < 5 := by omega
      clear hbl
      generalize KK[j] = x at *
      go_wp2_with (refine wpList_up rfl _ _ _ (.inl rfl) bm _ hW.mp rfl _ _ rfl rfl ?_; intro Wn hMn kn)
      refine ⟨⟨j + 1, hlt, by go_num, ?_, ?_⟩, by simp [intOf]; omega⟩
      · rw [hst.out]; exact hW.up hMn kn
      · exact hT.far kn (fun ad e => by cases e; exact fun h => hne h.symm)
    obtain rfl : j = 5 := by omega
    rw [List.take_of_length_le (by omega)] at hW
    clear hT hj hlt hne hKl
    generalize strike L8 KK = L at *
    have hrg := run_range_map (P := Tryz.prog) wr 62 _ _ bm _ _ Tryz.underlying62 hW.mp
    have hI0 := Lib.hid (Itr.start (W := wr) (b := bm) (l := L))
    have hW0 := Lib.hid (hW.below ((Below.refl _ _).alloc (Nat.le_refl _) (.mapIter (some bm) L.length #[] L.length)))
    have hrb : wr.heap.size ≠ bm := by have := hW.mp.lt; omega
    have hrw : w.heap.size < wr.heap.size := hW.bx.1.lt
    clear hW
    go_wp2_with fail
    clear hrg
    generalize wr.heap.size = r at *
    go_loopg [] (leftOf (mkEs 0 L).toArray #[]).size (fun gf wx => Itr bm r L gf wx ∧ Bm w o p bm L wx)
    case atStart => exact ⟨hI0.out, hW0.out⟩
    case round =>
      clear hI0 hW0
      obtain ⟨hI, hW⟩ := hrel
      rcases itr_next hW.mp hI hrb with ⟨hno, hnx⟩ | ⟨kk, v, W', hnx, hent, hM', k', hv1, hv2⟩
      case inr =>
        have hW' : Bm w o p bm L W' := ⟨hW.bx.kept k' hrw, hM', hW.hb⟩
        clear hM' k' hW hI
        cases v
        · obtain ⟨m, rfl, hI'⟩ := hv2 rfl
          clear hv1 hv2
          go_wp2_with fail
          go_roundg m
          case measure => omega
          case rel => exact ⟨hI', hW'⟩
        · have HR2 : Hid (G = 2) := by
            show _ = _
            rw [HG.out]
            unfold good
            rw [← HS.out, hv1 rfl, hk]
            rfl
          clear hv1 hv2 HG HS
          go_wp2_with fail
          go_ret
          exact ⟨by rw [HR2.out]; rfl, hW'.bx.2.2⟩
      have HG2 : Hid (G = if longB o then 1 else if fullB o then 6 else if !entsB ⟨#[]⟩ o.ents then 2 else if parsE [] o.pars ≠ 0 then parsE [] o.pars else if noIdB o then 2 else if zeroB o then 2 else if lateB o then 3 else 0) := by
        show _ = _
        rw [HG.out]
        unfold good
        rw [← HS.out, hno, hk]
        rfl
      have hX := hW.bx
      clear HG HS hI hW hno
      obtain ⟨c0, c1, c2, c3, c4, c5, c6, c7, c8⟩ := hX.c
      unfold longB fullB at HG2
      by_cases hd : (4096 : Int) < o.data.size
      · rw [decide_eq_true (by omega : 4096 < o.data.size)] at HG2
        go_wp2_with fail
        go_ret
        exact ⟨by rw [HG2.out]; rfl, hX.2.2⟩
      rw [decide_eq_false (by omega : ¬ 4096 < o.data.size)] at HG2
      by_cases hwh : (4096 : Int) < o.who.size
      · rw [decide_eq_true (by omega : 4096 < o.who.size)] at HG2
        go_wp2_with fail
        go_ret
        exact ⟨by rw [HG2.out]; rfl, hX.2.2⟩
      rw [decide_eq_false (by omega : ¬ 4096 < o.who.size)] at HG2
      by_cases hnt : (4096 : Int) < o.note.size
      · rw [decide_eq_true (by omega : 4096 < o.note.size)] at HG2
        go_wp2_with fail
        go_ret
        exact ⟨by rw [HG2.out]; rfl, hX.2.2⟩
      rw [decide_eq_false (by omega : ¬ 4096 < o.note.size)] at HG2
      by_cases he : (64 : Int) < o.ents.length
      · rw [decide_eq_true (by omega : 64 < o.ents.length)] at HG2
        go_wp2_with fail
        go_ret
        exact ⟨by rw [HG2.out]; rfl, hX.2.2⟩
      rw [decide_eq_false (by omega : ¬ 64 < o.ents.length)] at HG2
      by_cases hp : (4 : Int) < o.pars.length
      · rw [decide_eq_true (by omega : 4 < o.pars.length)] at HG2
        go_wp2_with fail
        go_ret
        exact ⟨by rw [HG2.out]; rfl, hX.2.2⟩
      rw [decide_eq_false (by omega : ¬ 4 < o.pars.length)] at HG2
      go_wp2_with fail
      clear c0 c1 c2 c3 c4 c5 c6 c7 c8
      go_loopw [9, 106] (fun b i wr => ∃ (k : Nat) (s : ByteArray), k ≤ o.ents.length ∧ i = .int .i64 (k : Int) ∧ b = .string s ∧ entsB ⟨#[]⟩ o.ents = entsB s (o.ents.drop k) ∧ Bx w o p wr) (fun _ i _ => o.ents.length - (intOf i).toNat)
      case atStart => exact ⟨0, ⟨#[]⟩, Nat.zero_le _, rfl, rfl, by rw [List.drop_zero], hX⟩
      case round =>
        clear hX
        obtain ⟨k, s, hkl, rfl, rfl, hen, hX⟩ := hrel
        by_cases hlt : k < o.ents.length
        · obtain ⟨ad, hea, hbl, g0, g1, g2⟩ := hX.2.1.ents k o.ents[k] (List.getElem?_eq_getElem hlt)
          have hi : (k : Int) < o.ents.length := by omega
          have hns := hnm o.ents[k] (List.getElem_mem hlt)
          rw [List.drop_eq_getElem_cons hlt, entsB] at hen
          rw [hea]
          clear hea
          generalize o.ents[k] = x at *
          obtain ⟨xn, xd, xi⟩ := x
          simp only at g0 g1 g2 hen hns
          have hY := Arr.new wr 79 #[.string xn, .bool xd, .string xi]
          have hX1 := hX.below ((Below.refl _ _).alloc (Nat.le_refl _) (.cells #[.string xn, .bool xd, .string xi] 79))
          have C := Lib.hid (entryName_any xn hns)
          have HE := Lib.hid hen
          clear hen hX hns
          generalize nameB xn = N at *
          have hidb := Lib.hid (idB_ne xi)
          have hle : Hid (leB xn s = (Op.bytesLess xn.toList s.toList || xn.toList == s.toList)) := rfl
          go_wp2_with fail
          have c := C.out (wr.alloc (.cells #[.string xn, .bool xd, .string xi] 79))
          (with_reducible refine c.mono ?_)
          clear c C
          rintro _ w2 ⟨rfl, b2⟩
          have hY2 := hY.below b2 hY.lt
          have hX2 := hX1.below b2
          have e0 := hY2.cell 0
          have e2 := hY2.cell 2
          clear hY hX1 b2 g0 g1 g2 hbl
          simp only [List.getElem?_toArray, List.getElem?_cons_zero, List.getElem?_cons_succ] at e0 e2
          cases N
          · have HG3 : Hid (G = 2) := by show _ = _; rw [HG2.out, HE.out]; rfl
            clear HG2 HE hidb hle
            go_wp2_with fail
            go_ret
            exact ⟨by rw [HG3.out]; rfl, hX2.2.2⟩
          cases hI : (xi.size : Int) != 32
          case true =>
            have HG3 : Hid (G = 2) := by show _ = _; rw [HG2.out, HE.out, hidb.out, hI]; rfl
            clear HG2 HE hidb hle
            go_wp2_with fail
            go_ret
            exact ⟨by rw [HG3.out]; rfl, hX2.2.2⟩
          cases hq : (Op.bytesLess xn.toList s.toList || xn.toList == s.toList)
          · have HE2 : Hid (entsB ⟨#[]⟩ o.ents = entsB xn (o.ents.drop (k + 1))) := by show _ = _; rw [HE.out, hidb.out, hI, hle.out, hq]; rfl
            clear HG2 HE hidb hle
            go_wp2_with fail
            refine ⟨⟨k + 1, xn, hlt, by go_num, rfl, HE2.out, hX2⟩, by simp [intOf]; omega⟩
          · have HG3 : Hid (G = 2) := by show _ = _; rw [HG2.out, HE.out, hidb.out, hI, hle.out, hq]; rfl
            clear HG2 HE hidb hle
            go_wp2_with fail
            go_ret
            exact ⟨by rw [HG3.out]; rfl, hX2.2.2⟩
        obtain rfl : k = o.ents.length := by omega
        rw [List.drop_length, entsB] at hen
        rw [hen] at HG2
        clear hen hlt hkl
        have hi : ¬ (o.ents.length : Int) < o.ents.length := by omega
        have hmk : ∀ W, (Instr.makeMap 62 none).run Tryz.prog W = .ok (.map (some W.heap.size)) (W.alloc (.map #[] 0)) := fun W => rfl
        have hW := Bm.start hX
        have hW0 := Lib.hid hW
        obtain ⟨c0, c1, c2, c3, c4, c5, c6, c7, c8⟩ := hW.bx.c
        clear hX hW
        go_wp2_with fail
        clear c0 c1 c2 c3 c4 c5 c6 c7 c8 hmk
        generalize wr.heap.size = b2 at *
        go_loopw [133] (fun i wr => ∃ k : Nat, k ≤ o.pars.length ∧ i = .int .i64 (k : Int) ∧ parsE [] o.pars = parsE (o.pars.take k) (o.pars.drop k) ∧ Bm w o p b2 (hadL (o.pars.take k)) wr) (fun i _ => o.pars.length - (intOf i).toNat)
        case atStart => exact ⟨0, Nat.zero_le _, rfl, by rw [List.drop_zero, List.take_zero], hW0.out⟩
        case round =>
          clear hW0
          obtain ⟨k, hkl, rfl, hpe, hW⟩ := hrel
          by_cases hlt : k < o.pars.length
          · obtain ⟨ad, hea, hbl, g0⟩ := hW.bx.2.1.pars k o.pars[k] (List.getElem?_eq_getElem hlt)
            have hi2 : (k : Int) < o.pars.length := by omega
            have ht : Hid (o.pars.take (k + 1) = o.pars.take k ++ [o.pars[k]]) := List.take_succ_eq_append_getElem hlt
            rw [List.drop_eq_getElem_cons hlt, parsE] at hpe
            rw [hea]
            clear hea hbl
            generalize o.pars[k] = x at *
            have HE := Lib.hid hpe
            clear hpe
            have hidb := Lib.hid (idB_ne x)
            have hlk := run_look hW.mp x
            rw [getL_had] at hlk
            cases hI : (x.size : Int) != 32
            case true =>
              have HG3 : Hid (G = 2) := by
                show _ = _
                have e1 : parsE [] o.pars = 2 := by rw [HE.out, hidb.out, hI]; rfl
                rw [HG2.out, e1]; rfl
              clear HG2 HE hidb ht hlk
              go_wp2_with fail
              go_ret
              exact ⟨by rw [HG3.out]; rfl, hW.bx.2.2⟩
            have hup := Lib.hid (fun h => upL_had x (o.pars.take k) h)
            generalize (o.pars.take k).any (eqB x) = a at *
            cases a
            case true =>
              have HG3 : Hid (G = 8) := by
                show _ = _
                have e1 : parsE [] o.pars = 8 := by rw [HE.out, hidb.out, hI]; rfl
                rw [HG2.out, e1]; rfl
              clear HG2 HE hidb ht hup
              go_wp2_with fail
              go_ret
              exact ⟨by rw [HG3.out]; rfl, hW.bx.2.2⟩
            have HE2 : Hid (parsE [] o.pars = parsE (o.pars.take (k + 1)) (o.pars.drop (k + 1))) := by show _ = _; rw [HE.out, hidb.out, hI, ht.out]; rfl
            have hup2 := Lib.hid (hup.out rfl)
            clear HG2 HE hidb hup
            go_wp2_with (refine wpList_up rfl _ _ _ (.inl rfl) b2 _ hW.mp rfl _ _ rfl rfl ?_; intro Wn hMn kn)
            refine ⟨⟨k + 1, hlt, by go_num, HE2.out, ?_⟩, by simp [intOf]; omega⟩
            rw [hup2.out, ← ht.out] at hMn
            exact hW.up hMn kn
          obtain rfl : k = o.pars.length := by omega
          rw [List.drop_length, parsE] at hpe
          rw [hpe] at HG2
          have hi2 : ¬ (o.pars.length : Int) < o.pars.length := by omega
          have hX := hW.bx
          clear hpe hlt hkl hW
          obtain ⟨c0, c1, c2, c3, c4, c5, c6, c7, c8⟩ := hX.c
          unfold noIdB zeroB lateB at HG2
          rw [hk] at c0 HG2
          rw [idB_ne o.tree] at HG2
          cases hI : (o.tree.size : Int) != 32
          case true =>
            have HG3 : Hid (G = 2) := by show _ = _; rw [HG2.out, hI]; rfl
            clear HG2
            go_wp2_with fail
            go_ret
            exact ⟨by rw [HG3.out]; rfl, hX.2.2⟩
          rw [hI] at HG2
          have CW := Lib.hid (between_zero o.who (by omega))
          have CN := Lib.hid (between_zero o.note (by omega))
          generalize hasZero o.who = zw at *
          generalize hasZero o.note = zn at *
          go_wp2_with fail
          have c := CW.out wr
          (with_reducible refine c.mono ?_)
          clear c CW
          rintro _ W5 ⟨rfl, b5⟩
          have hX5 := hX.below b5
          clear c0 c1 c2 c3 c4 c5 c6 c7 c8 hX b5
          obtain ⟨c0, c1, c2, c3, c4, c5, c6, c7, c8⟩ := hX5.c
          cases zw
          case true =>
            have HG3 : Hid (G = 2) := by show _ = _; rw [HG2.out]; rfl
            clear HG2
            go_wp2_with fail
            go_ret
            exact ⟨by rw [HG3.out]; rfl, hX5.2.2⟩
          go_wp2_with fail
          have c := CN.out W5
          (with_reducible refine c.mono ?_)
          clear c CN
          rintro _ W6 ⟨rfl, b6⟩
          have hX6 := hX5.below b6
          clear c0 c1 c2 c3 c4 c5 c6 c7 c8 hX5 b6
          obtain ⟨c0, c1, c2, c3, c4, c5, c6, c7, c8⟩ := hX6.c
          cases zn
          case true =>
            have HG3 : Hid (G = 2) := by show _ = _; rw [HG2.out]; rfl
            clear HG2
            go_wp2_with fail
            go_ret
            exact ⟨by rw [HG3.out]; rfl, hX6.2.2⟩
          by_cases ht : o.time < 0
          · have HG3 : Hid (G = 3) := by show _ = _; rw [HG2.out, decide_eq_true ht]; rfl
            clear HG2
            go_wp2_with fail
            go_ret
            exact ⟨by rw [HG3.out]; rfl, hX6.2.2⟩
          by_cases ht2 : 1099511627776 ≤ o.time
          · have HG3 : Hid (G = 3) := by show _ = _; rw [HG2.out, decide_eq_false ht, decide_eq_true ht2]; rfl
            clear HG2
            go_wp2_with fail
            go_ret
            exact ⟨by rw [HG3.out]; rfl, hX6.2.2⟩
          have HG3 : Hid (G = 0) := by show _ = _; rw [HG2.out, decide_eq_false ht, decide_eq_false ht2]; rfl
          clear HG2
          go_wp2_with fail
          go_ret
          exact ⟨by rw [HG3.out]; rfl, hX6.2.2⟩

end Go.Proofs.YtmikfmcgddmplaaGreatDoor

/- ref.GoodObject, kind 4: the walk. -/
namespace Go.Proofs.YtmikfmcgddmplaaGreatDoor
open Go.RowKit

set_option maxRecDepth 100000 in
set_option maxHeartbeats 4000000 in
theorem GoodObject_4 (o : Ob) (p : At) (w : World) (hO : ObIn w w.heap.size o p) (hnm : ∀ e ∈ o.ents, e.name.size ≤ 281474976710656) (hk : o.kind = 4) :
    Calls Tryz.prog 51 #[.agg (obArr o p)] w fun e w' => e = .returned (.int .i64 (good o)) ∧ Below w.heap.size w w' := by
  have h1 := Lib.hid (Bx.start hO)
  obtain ⟨G, HG⟩ : ∃ G, Hid (G = good o) := ⟨_, rfl⟩
  rw [← HG.out]
  clear hO
  generalize hA : obArr o p = arr at *
  clear hA
  go_enter Tryz.func51, Tryz.ntmps51
  go_upto_region 1 with fail
  refine wp_forget (Bx w o p) h1.out ?_
  clear h1
  intro W hX
  obtain ⟨c0, c1, c2, c3, c4, c5, c6, c7, c8⟩ := hX.c
  rw [hk] at c0
  go_upto_region 3 with fail
  have hmk : ∀ W, (Instr.makeMap 62 none).run Tryz.prog W = .ok (.map (some W.heap.size)) (W.alloc (.map #[] 0)) := fun W => rfl
  have hW := Bm.start hX
  clear c0 c1 c2 c3 c4 c5 c6 c7 c8 hX
  obtain ⟨c0, c1, c2, c3, c4, c5, c6, c7, c8⟩ := hW.bx.c
  go_upto_region 4 with (refine wpList_up rfl _ _ _ (.inr rfl) W.heap.size _ hW.mp rfl _ _ rfl rfl ?_; intro Wn hMn kn; replace hW := hW.up hMn kn; clear c0 c1 c2 c3 c4 c5 c6 c7 c8 hMn kn; obtain ⟨c0, c1, c2, c3, c4, c5, c6, c7, c8⟩ := hW.bx.c)
  have hW2 : Bm w o p W.heap.size (lit8 (!o.data.toList.isEmpty) (decide (0 < o.ents.length)) (!o.tree.toList.isEmpty) (decide (0 < o.pars.length)) (o.time != 0) (!o.target.toList.isEmpty) (!o.who.toList.isEmpty) (!o.note.toList.isEmpty)) Wn := hW
  have HS : Hid (anyT (strike (lit8 (!o.data.toList.isEmpty) (decide (0 < o.ents.length)) (!o.tree.toList.isEmpty) (decide (0 < o.pars.length)) (o.time != 0) (!o.target.toList.isEmpty) (!o.who.toList.isEmpty) (!o.note.toList.isEmpty)) [kTarget, kWho, kNote]) = strayB o) := stray_map4 o hk
  generalize (lit8 (!o.data.toList.isEmpty) (decide (0 < o.ents.length)) (!o.tree.toList.isEmpty) (decide (0 < o.pars.length)) (o.time != 0) (!o.target.toList.isEmpty) (!o.who.toList.isEmpty) (!o.note.toList.isEmpty)) = L8 at *
  clear hW hmk
  generalize W.heap.size = bm at *
  obtain ⟨fb, f5, f1, f2, f3, f4⟩ := five Wn
  have c0' := (fb.cell (p := ⟨w.heap.size, 0, none⟩) (by have := hW2.bx.1.lt; omega)).trans c0
  rw [hk] at c0'
  have c9 := f5.cell 3
  simp only [List.getElem?_toArray, List.getElem?_cons_zero, List.getElem?_cons_succ] at c9
  have hbm := hW2.mp.lt
  have hS : Hid (Bm w o p bm L8 (((((Wn.alloc (.cells #[.string ⟨#[100, 97, 116, 97]⟩] 9)).alloc (.cells #[.string ⟨#[101, 110, 116, 114, 105, 101, 115]⟩] 9)).alloc (.cells #[.string ⟨#[116, 114, 101, 101]⟩, .string ⟨#[112, 97, 114, 101, 110, 116, 115]⟩, .string ⟨#[116, 105, 109, 101]⟩, .string ⟨#[119, 104, 111]⟩, .string ⟨#[110, 111, 116, 101]⟩] 9)).alloc (.cells #[.string ⟨#[116, 97, 114, 103, 101, 116]⟩, .string ⟨#[119, 104, 111]⟩, .string ⟨#[110, 111, 116, 101]⟩] 9)).alloc (.cells #[.slice (some ⟨Wn.heap.size, 0, none⟩) 1 1, .slice (some ⟨Wn.heap.size + 1, 0, none⟩) 1 1, .slice (some ⟨Wn.heap.size + 1 + 1, 0, none⟩) 5 5, .slice (some ⟨Wn.heap.size + 1 + 1 + 1, 0, none⟩) 3 3] 22)) ∧ Txs (((((Wn.alloc (.cells #[.string ⟨#[100, 97, 116, 97]⟩] 9)).alloc (.cells #[.string ⟨#[101, 110, 116, 114, 105, 101, 115]⟩] 9)).alloc (.cells #[.string ⟨#[116, 114, 101, 101]⟩, .string ⟨#[112, 97, 114, 101, 110, 116, 115]⟩, .string ⟨#[116, 105, 109, 101]⟩, .string ⟨#[119, 104, 111]⟩, .string ⟨#[110, 111, 116, 101]⟩] 9)).alloc (.cells #[.string ⟨#[116, 97, 114, 103, 101, 116]⟩, .string ⟨#[119, 104, 111]⟩, .string ⟨#[110, 111, 116, 101]⟩] 9)).alloc (.cells #[.slice (some ⟨Wn.heap.size, 0, none⟩) 1 1, .slice (some ⟨Wn.heap.size + 1, 0, none⟩) 1 1, .slice (some ⟨Wn.heap.size + 1 + 1, 0, none⟩) 5 5, .slice (some ⟨Wn.heap.size + 1 + 1 + 1, 0, none⟩) 3 3] 22)) (((((Wn.alloc (.cells #[.string ⟨#[100, 97, 116, 97]⟩] 9)).alloc (.cells #[.string ⟨#[101, 110, 116, 114, 105, 101, 115]⟩] 9)).alloc (.cells #[.string ⟨#[116, 114, 101, 101]⟩, .string ⟨#[112, 97, 114, 101, 110, 116, 115]⟩, .string ⟨#[116, 105, 109, 101]⟩, .string ⟨#[119, 104, 111]⟩, .string ⟨#[110, 111, 116, 101]⟩] 9)).alloc (.cells #[.string ⟨#[116, 97, 114, 103, 101, 116]⟩, .string ⟨#[119, 104, 111]⟩, .string ⟨#[110, 111, 116, 101]⟩] 9)).alloc (.cells #[.slice (some ⟨Wn.heap.size, 0, none⟩) 1 1, .slice (some ⟨Wn.heap.size + 1, 0, none⟩) 1 1, .slice (some ⟨Wn.heap.size + 1 + 1, 0, none⟩) 5 5, .slice (some ⟨Wn.heap.size + 1 + 1 + 1, 0, none⟩) 3 3] 22)).heap.size (some ⟨Wn.heap.size + 1 + 1 + 1, 0, none⟩) [kTarget, kWho, kNote] ∧ bm ≠ Wn.heap.size + 1 + 1 + 1) := ⟨hW2.below fb, row_texts f4, by omega⟩
  clear c0 c1 c2 c3 c4 c5 c6 c7 c8 fb f5 f1 f2 f3 f4 hW2 hbm
  go_upto_region 5 with fail
  refine wp_forget (fun W => Bm w o p bm L8 W ∧ Txs W W.heap.size (some ⟨Wn.heap.size + 1 + 1 + 1, 0, none⟩) [kTarget, kWho, kNote] ∧ bm ≠ Wn.heap.size + 1 + 1 + 1) hS.out ?_
  clear hS c0' c9
  generalize Wn.heap.size + 1 + 1 + 1 = mb at *
  clear W
  rintro W ⟨hW, hT, hne⟩
  have hKl : [kTarget, kWho, kNote].length = 3 := rfl
  generalize [kTarget, kWho, kNote] = KK at *
  go_wp2_with fail
  go_loopw [63] (fun i wr => ∃ j : Nat, j ≤ 3 ∧ i = .int .i64 (j : Int) ∧ Bm w o p bm (strike L8 (KK.take j)) wr ∧ Txs wr wr.heap.size (some ⟨mb, 0, none⟩) KK) (fun i _ => 3 - (intOf i).toNat)
  case atStart => exact ⟨0, Nat.zero_le _, rfl, hW, hT⟩
  case round =>
    clear hW hT W
    obtain ⟨j, hj, rfl, hW, hT⟩ := hrel
    by_cases hlt : j < 3
    · have hlt2 : j < KK.length := by omega
      obtain ⟨ad, ead, hbl, g0⟩ := hT j KK[j] (List.getElem?_eq_getElem hlt2)
      cases ead
      rw [base_add] at g0
      have hst : Hid (strike L8 (KK.take (j + 1)) = upL KK[j] false (strike L8 (KK.take j))) := by
        show _ = _
        rw [List.take_succ_eq_append_getElem hlt2, strike_app]
      have hi : (j : Int) < 3 := by omega
      clear hbl
      generalize KK[j] = x at *
      go_wp2_with (refine wpList_up rfl _ _ _ (.inl rfl) bm _ hW.mp rfl _ _ rfl rfl ?_; intro Wn hMn kn)
      refine ⟨⟨j + 1, hlt, by go_num, ?_, ?_⟩, by simp [intOf]; omega⟩
      · rw [hst.out]; exact hW.up hMn kn
      · exact hT.far kn (fun ad e => by cases e; exact fun h => hne h.symm)
    obtain rfl : j = 3 := by omega
    rw [List.take_of_length_le (by omega)] at hW
    clear hT hj hlt hne hKl
    generalize strike L8 KK = L at *
    have hrg := run_range_map (P := Tryz.prog) wr 62 _ _ bm _ _ Tryz.underlying62 hW.mp
    have hI0 := Lib.hid (Itr.start (W := wr) (b := bm) (l := L))
    have hW0 := Lib.hid (hW.below ((Below.refl _ _).alloc (Nat.le_refl _) (.mapIter (some bm) L.length #[] L.length)))
    have hrb : wr.heap.size ≠ bm := by have := hW.mp.lt; omega
    have hrw : w.heap.size < wr.heap.size := hW.bx.1.lt
    clear hW
    go_wp2_with fail
    clear hrg
    generalize wr.heap.size = r at *
    go_loopg [] (leftOf (mkEs 0 L).toArray #[]).size (fun gf wx => Itr bm r L gf wx ∧ Bm w o p bm L wx)
    case atStart => exact ⟨hI0.out, hW0.out⟩
    case round =>
      clear hI0 hW0
      obtain ⟨hI, hW⟩ := hrel
      rcases itr_next hW.mp hI hrb with ⟨hno, hnx⟩ | ⟨kk, v, W', hnx, hent, hM', k', hv1, hv2⟩
      case inr =>
        have hW' : Bm w o p bm L W' := ⟨hW.bx.kept k' hrw, hM', hW.hb⟩
        clear hM' k' hW hI
        cases v
        · obtain ⟨m, rfl, hI'⟩ := hv2 rfl
          clear hv1 hv2
          go_wp2_with fail
          go_roundg m
          case measure => omega
          case rel => exact ⟨hI', hW'⟩
        · have HR2 : Hid (G = 2) := by
            show _ = _
            rw [HG.out]
            unfold good
            rw [← HS.out, hv1 rfl, hk]
            rfl
          clear hv1 hv2 HG HS
          go_wp2_with fail
          go_ret
          exact ⟨by rw [HR2.out]; rfl, hW'.bx.2.2⟩
      have HG2 : Hid (G = if longB o then 1 else if fullB o then 6 else if !entsB ⟨#[]⟩ o.ents then 2 else if parsE [] o.pars ≠ 0 then parsE [] o.pars else if noIdB o then 2 else if zeroB o then 2 else if lateB o then 3 else 0) := by
        show _ = _
        rw [HG.out]
        unfold good
        rw [← HS.out, hno, hk]
        rfl
      have hX := hW.bx
      clear HG HS hI hW hno
      obtain ⟨c0, c1, c2, c3, c4, c5, c6, c7, c8⟩ := hX.c
      unfold longB fullB at HG2
      by_cases hd : (4096 : Int) < o.data.size
      · rw [decide_eq_true (by omega : 4096 < o.data.size)] at HG2
        go_wp2_with fail
        go_ret
        exact ⟨by rw [HG2.out]; rfl, hX.2.2⟩
      rw [decide_eq_false (by omega : ¬ 4096 < o.data.size)] at HG2
      by_cases hwh : (4096 : Int) < o.who.size
      · rw [decide_eq_true (by omega : 4096 < o.who.size)] at HG2
        go_wp2_with fail
        go_ret
        exact ⟨by rw [HG2.out]; rfl, hX.2.2⟩
      rw [decide_eq_false (by omega : ¬ 4096 < o.who.size)] at HG2
      by_cases hnt : (4096 : Int) < o.note.size
      · rw [decide_eq_true (by omega : 4096 < o.note.size)] at HG2
        go_wp2_with fail
        go_ret
        exact ⟨by rw [HG2.out]; rfl, hX.2.2⟩
      rw [decide_eq_false (by omega : ¬ 4096 < o.note.size)] at HG2
      by_cases he : (64 : Int) < o.ents.length
      · rw [decide_eq_true (by omega : 64 < o.ents.length)] at HG2
        go_wp2_with fail
        go_ret
        exact ⟨by rw [HG2.out]; rfl, hX.2.2⟩
      rw [decide_eq_false (by omega : ¬ 64 < o.ents.length)] at HG2
      by_cases hp : (4 : Int) < o.pars.length
      · rw [decide_eq_true (by omega : 4 < o.pars.length)] at HG2
        go_wp2_with fail
        go_ret
        exact ⟨by rw [HG2.out]; rfl, hX.2.2⟩
      rw [decide_eq_false (by omega : ¬ 4 < o.pars.length)] at HG2
      go_wp2_with fail
      clear c0 c1 c2 c3 c4 c5 c6 c7 c8
      go_loopw [9, 106] (fun b i wr => ∃ (k : Nat) (s : ByteArray), k ≤ o.ents.length ∧ i = .int .i64 (k : Int) ∧ b = .string s ∧ entsB ⟨#[]⟩ o.ents = entsB s (o.ents.drop k) ∧ Bx w o p wr) (fun _ i _ => o.ents.length - (intOf i).toNat)
      case atStart => exact ⟨0, ⟨#[]⟩, Nat.zero_le _, rfl, rfl, by rw [List.drop_zero], hX⟩
      case round =>
        clear hX
        obtain ⟨k, s, hkl, rfl, rfl, hen, hX⟩ := hrel
        by_cases hlt : k < o.ents.length
        · obtain ⟨ad, hea, hbl, g0, g1, g2⟩ := hX.2.1.ents k o.ents[k] (List.getElem?_eq_getElem hlt)
          have hi : (k : Int) < o.ents.length := by omega
          have hns := hnm o.ents[k] (List.getElem_mem hlt)
          rw [List.drop_eq_getElem_cons hlt, entsB] at hen
          rw [hea]
          clear hea
          generalize o.ents[k] = x at *
          obtain ⟨xn, xd, xi⟩ := x
          simp only at g0 g1 g2 hen hns
          have hY := Arr.new wr 79 #[.string xn, .bool xd, .string xi]
          have hX1 := hX.below ((Below.refl _ _).alloc (Nat.le_refl _) (.cells #[.string xn, .bool xd, .string xi] 79))
          have C := Lib.hid (entryName_any xn hns)
          have HE := Lib.hid hen
          clear hen hX hns
          generalize nameB xn = N at *
          have hidb := Lib.hid (idB_ne xi)
          have hle : Hid (leB xn s = (Op.bytesLess xn.toList s.toList || xn.toList == s.toList)) := rfl
          go_wp2_with fail
          have c := C.out (wr.alloc (.cells #[.string xn, .bool xd, .string xi] 79))
          (with_reducible refine c.mono ?_)
          clear c C
          rintro _ w2 ⟨rfl, b2⟩
          have hY2 := hY.below b2 hY.lt
          have hX2 := hX1.below b2
          have e0 := hY2.cell 0
          have e2 := hY2.cell 2
          clear hY hX1 b2 g0 g1 g2 hbl
          simp only [List.getElem?_toArray, List.getElem?_cons_zero, List.getElem?_cons_succ] at e0 e2
          cases N
          · have HG3 : Hid (G = 2) := by show _ = _; rw [HG2.out, HE.out]; rfl
            clear HG2 HE hidb hle
            go_wp2_with fail
            go_ret
            exact ⟨by rw [HG3.out]; rfl, hX2.2.2⟩
          cases hI : (xi.size : Int) != 32
          case true =>
            have HG3 : Hid (G = 2) := by show _ = _; rw [HG2.out, HE.out, hidb.out, hI]; rfl
            clear HG2 HE hidb hle
            go_wp2_with fail
            go_ret
            exact ⟨by rw [HG3.out]; rfl, hX2.2.2⟩
          cases hq : (Op.bytesLess xn.toList s.toList || xn.toList == s.toList)
          · have HE2 : Hid (entsB ⟨#[]⟩ o.ents = entsB xn (o.ents.drop (k + 1))) := by show _ = _; rw [HE.out, hidb.out, hI, hle.out, hq]; rfl
            clear HG2 HE hidb hle
            go_wp2_with fail
            refine ⟨⟨k + 1, xn, hlt, by go_num, rfl, HE2.out, hX2⟩, by simp [intOf]; omega⟩
          · have HG3 : Hid (G = 2) := by show _ = _; rw [HG2.out, HE.out, hidb.out, hI, hle.out, hq]; rfl
            clear HG2 HE hidb hle
            go_wp2_with fail
            go_ret
            exact ⟨by rw [HG3.out]; rfl, hX2.2.2⟩
        obtain rfl : k = o.ents.length := by omega
        rw [List.drop_length, entsB] at hen
        rw [hen] at HG2
        clear hen hlt hkl
        have hi : ¬ (o.ents.length : Int) < o.ents.length := by omega
        have hmk : ∀ W, (Instr.makeMap 62 none).run Tryz.prog W = .ok (.map (some W.heap.size)) (W.alloc (.map #[] 0)) := fun W => rfl
        have hW := Bm.start hX
        have hW0 := Lib.hid hW
        obtain ⟨c0, c1, c2, c3, c4, c5, c6, c7, c8⟩ := hW.bx.c
        clear hX hW
        go_wp2_with fail
        clear c0 c1 c2 c3 c4 c5 c6 c7 c8 hmk
        generalize wr.heap.size = b2 at *
        go_loopw [133] (fun i wr => ∃ k : Nat, k ≤ o.pars.length ∧ i = .int .i64 (k : Int) ∧ parsE [] o.pars = parsE (o.pars.take k) (o.pars.drop k) ∧ Bm w o p b2 (hadL (o.pars.take k)) wr) (fun i _ => o.pars.length - (intOf i).toNat)
        case atStart => exact ⟨0, Nat.zero_le _, rfl, by rw [List.drop_zero, List.take_zero], hW0.out⟩
        case round =>
          clear hW0
          obtain ⟨k, hkl, rfl, hpe, hW⟩ := hrel
          by_cases hlt : k < o.pars.length
          · obtain ⟨ad, hea, hbl, g0⟩ := hW.bx.2.1.pars k o.pars[k] (List.getElem?_eq_getElem hlt)
            have hi2 : (k : Int) < o.pars.length := by omega
            have ht : Hid (o.pars.take (k + 1) = o.pars.take k ++ [o.pars[k]]) := List.take_succ_eq_append_getElem hlt
            rw [List.drop_eq_getElem_cons hlt, parsE] at hpe
            rw [hea]
            clear hea hbl
            generalize o.pars[k] = x at *
            have HE := Lib.hid hpe
            clear hpe
            have hidb := Lib.hid (idB_ne x)
            have hlk := run_look hW.mp x
            rw [getL_had] at hlk
            cases hI : (x.size : Int) != 32
            case true =>
              have HG3 : Hid (G = 2) := by
                show _ = _
                have e1 : parsE [] o.pars = 2 := by rw [HE.out, hidb.out, hI]; rfl
                rw [HG2.out, e1]; rfl
              clear HG2 HE hidb ht hlk
              go_wp2_with fail
              go_ret
              exact ⟨by rw [HG3.out]; rfl, hW.bx.2.2⟩
            have hup := Lib.hid (fun h => upL_had x (o.pars.take k) h)
            generalize (o.pars.take k).any (eqB x) = a at *
            cases a
            case true =>
              have HG3 : Hid (G = 8) := by
                show _ = _
                have e1 : parsE [] o.pars = 8 := by rw [HE.out, hidb.out, hI]; rfl
                rw [HG2.out, e1]; rfl
              clear HG2 HE hidb ht hup
              go_wp2_with fail
              go_ret
              exact ⟨by rw [HG3.out]; rfl, hW.bx.2.2⟩
            have HE2 : Hid (parsE [] o.pars = parsE (o.pars.take (k + 1)) (o.pars.drop (k + 1))) := by show _ = _; rw [HE.out, hidb.out, hI, ht.out]; rfl
            have hup2 := Lib.hid (hup.out rfl)
            clear HG2 HE hidb hup
            go_wp2_with (refine wpList_up rfl _ _ _ (.inl rfl) b2 _ hW.mp rfl _ _ rfl rfl ?_; intro Wn hMn kn)
            refine ⟨⟨k + 1, hlt, by go_num, HE2.out, ?_⟩, by simp [intOf]; omega⟩
            rw [hup2.out, ← ht.out] at hMn
            exact hW.up hMn kn
          obtain rfl : k = o.pars.length := by omega
          rw [List.drop_length, parsE] at hpe
          rw [hpe] at HG2
          have hi2 : ¬ (o.pars.length : Int) < o.pars.length := by omega
          have hX := hW.bx
          clear hpe hlt hkl hW
          obtain ⟨c0, c1, c2, c3, c4, c5, c6, c7, c8⟩ := hX.c
          unfold noIdB zeroB lateB at HG2
          rw [hk] at c0 HG2
          rw [idB_ne o.target] at HG2
          cases hI : (o.target.size : Int) != 32
          case true =>
            have HG3 : Hid (G = 2) := by show _ = _; rw [HG2.out, hI]; rfl
            clear HG2
            go_wp2_with fail
            go_ret
            exact ⟨by rw [HG3.out]; rfl, hX.2.2⟩
          rw [hI] at HG2
          have CW := Lib.hid (between_zero o.who (by omega))
          have CN := Lib.hid (between_zero o.note (by omega))
          generalize hasZero o.who = zw at *
          generalize hasZero o.note = zn at *
          go_wp2_with fail
          have c := CW.out wr
          (with_reducible refine c.mono ?_)
          clear c CW
          rintro _ W5 ⟨rfl, b5⟩
          have hX5 := hX.below b5
          clear c0 c1 c2 c3 c4 c5 c6 c7 c8 hX b5
          obtain ⟨c0, c1, c2, c3, c4, c5, c6, c7, c8⟩ := hX5.c
          cases zw
          case true =>
            have HG3 : Hid (G = 2) := by show _ = _; rw [HG2.out]; rfl
            clear HG2
            go_wp2_with fail
            go_ret
            exact ⟨by rw [HG3.out]; rfl, hX5.2.2⟩
          go_wp2_with fail
          have c := CN.out W5
          (with_reducible refine c.mono ?_)
          clear c CN
          rintro _ W6 ⟨rfl, b6⟩
          have hX6 := hX5.below b6
          clear c0 c1 c2 c3 c4 c5 c6 c7 c8 hX5 b6
          obtain ⟨c0, c1, c2, c3, c4, c5, c6, c7, c8⟩ := hX6.c
          cases zn
          case true =>
            have HG3 : Hid (G = 2) := by show _ = _; rw [HG2.out]; rfl
            clear HG2
            go_wp2_with fail
            go_ret
            exact ⟨by rw [HG3.out]; rfl, hX6.2.2⟩
          by_cases ht : o.time < 0
          · have HG3 : Hid (G = 3) := by show _ = _; rw [HG2.out, decide_eq_true ht]; rfl
            clear HG2
            go_wp2_with fail
            go_ret
            exact ⟨by rw [HG3.out]; rfl, hX6.2.2⟩
          by_cases ht2 : 1099511627776 ≤ o.time
          · have HG3 : Hid (G = 3) := by show _ = _; rw [HG2.out, decide_eq_false ht, decide_eq_true ht2]; rfl
            clear HG2
            go_wp2_with fail
            go_ret
            exact ⟨by rw [HG3.out]; rfl, hX6.2.2⟩
          have HG3 : Hid (G = 0) := by show _ = _; rw [HG2.out, decide_eq_false ht, decide_eq_false ht2]; rfl
          clear HG2
          go_wp2_with fail
          go_ret
          exact ⟨by rw [HG3.out]; rfl, hX6.2.2⟩

end Go.Proofs.YtmikfmcgddmplaaGreatDoor

/- ref.GoodObject: its contract. -/
namespace Go.Proofs.YtmikfmcgddmplaaGreatDoor
open Go.RowKit

set_option maxRecDepth 100000 in
theorem GoodObject_no (o : Ob) (p : At) (w : World) (hk : kindB o.kind = false) :
    Calls Tryz.prog 51 #[.agg (obArr o p)] w fun e w' => e = .returned (.int .i64 (good o)) ∧ Below w.heap.size w w' := by
  have hG : Hid (good o = 4) := by show _ = _; unfold good; rw [hk]; rfl
  have hc0 := Lib.hid ((Arr.new w 53 (obArr o p)).cell 0)
  have hor : o.kind < 1 ∨ 4 < o.kind := by
    unfold kindB at hk
    simp at hk
    omega
  generalize hA : obArr o p = arr at *
  have h0 : arr[0]? = some (.int .i64 o.kind) := by rw [← hA]; rfl
  clear hA hk
  have c0 := hc0.out
  rw [h0] at c0
  clear h0 hc0
  rcases hor with h | h
  · go_enter Tryz.func51, Tryz.ntmps51
    go_wp2_with fail
    go_ret
    exact ⟨by rw [hG.out]; rfl, (Below.refl _ _).alloc (Nat.le_refl _) _⟩
  · have h1 : ¬ o.kind < 1 := by omega
    go_enter Tryz.func51, Tryz.ntmps51
    go_wp2_with fail
    go_ret
    exact ⟨by rw [hG.out]; rfl, (Below.refl _ _).alloc (Nat.le_refl _) _⟩
theorem GoodObject_any (o : Ob) (p : At) (w : World) (hO : ObIn w w.heap.size o p) (hnm : ∀ e ∈ o.ents, e.name.size ≤ 281474976710656) :
    Calls Tryz.prog 51 #[.agg (obArr o p)] w fun e w' => e = .returned (.int .i64 (good o)) ∧ Below w.heap.size w w' := by
  cases hk : kindB o.kind with
  | false => exact GoodObject_no o p w hk
  | true =>
    rcases kindB_cases hk with h | h | h | h
    · exact GoodObject_1 o p w hO hnm h
    · exact GoodObject_2 o p w hO hnm h
    · exact GoodObject_3 o p w hO hnm h
    · exact GoodObject_4 o p w hO hnm h
end Go.Proofs.YtmikfmcgddmplaaGreatDoor
