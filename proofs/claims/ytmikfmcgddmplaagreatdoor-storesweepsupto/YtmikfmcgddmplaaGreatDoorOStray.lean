/- Texts in one: ODecD, ODecE, OGood, OGoodB, OStray. -/
import Derived.Test.YtmikfmcgddmplaaGreatDoorODecC
import Derived.Deep.Cut
import Derived.Test.YtmikfmcgddmplaaGreatDoorDkMath
import Derived.Test.YtmikfmcgddmplaaGreatDoorWDone
import Derived.Test.YtmikfmcgddmplaaGreatDoorWRead
/- Reading an object's fields. -/
namespace Go.Proofs.YtmikfmcgddmplaaGreatDoor
open Go.RowKit

/-- an object's fields by the reader's states -/
def rdFields (k : Int) (l : List UInt8) : Option (Ob × List UInt8) :=
  if k = 1 then (match (stTxt (some l)).2 with
    | none => none
    | some r => some (⟨1, (stTxt (some l)).1, [], ⟨#[]⟩, [], ⟨#[]⟩, ⟨#[]⟩, 0, ⟨#[]⟩⟩, r))
  else if k = 2 then (match rdEntsS (some l) with
    | none => none
    | some (L, r) => some (⟨2, ⟨#[]⟩, L, ⟨#[]⟩, [], ⟨#[]⟩, ⟨#[]⟩, 0, ⟨#[]⟩⟩, r))
  else if k = 3 then (match (stTxt (stNum (stTxt (stPars (stId (some l)).2).2).2).2).2 with
    | none => none
    | some r => some (⟨3, ⟨#[]⟩, [], (stId (some l)).1, (stPars (stId (some l)).2).1, (stTxt (stPars (stId (some l)).2).2).1, (stTxt (stNum (stTxt (stPars (stId (some l)).2).2).2).2).1,
        ((stNum (stTxt (stPars (stId (some l)).2).2).2).1 : Int), ⟨#[]⟩⟩, r))
  else (match (stTxt (stTxt (stId (some l)).2).2).2 with
    | none => none
    | some r => some (⟨4, ⟨#[]⟩, [], ⟨#[]⟩, [], (stTxt (stId (some l)).2).1, (stTxt (stTxt (stId (some l)).2).2).1, 0, (stId (some l)).1⟩, r))

theorem gb_cell {w w' : World} {r : Option Nat} (k : w.grownBy w' r) {p : Addr} (hp : p.block < w.heap.size) (hr : some p.block ≠ r) : w'.cell? p = w.cell? p := by
  unfold World.cell?
  rw [k.block p.block hp hr]
theorem add_block (ad : Addr) (k : Nat) : (ad.add k).block = ad.block := by unfold Addr.add; split <;> rfl
theorem Txs.kept {w w' : World} {A : Option Addr} {T : List ByteArray} {r : Nat} (h : Txs w w.heap.size A T) (k : w.grownBy w' (some r)) (hr : ∀ ad, A = some ad → ad.block ≠ r) : Txs w' w'.heap.size A T := fun j x hx => by
  obtain ⟨ad, e, hb, hc⟩ := h j x hx
  have := hr ad e
  exact ⟨ad, e, Nat.lt_of_lt_of_le hb k.size, (gb_cell k hb (fun e1 => by rw [add_block] at e1; cases e1; exact this rfl)).trans hc⟩
theorem Ens.kept {w w' : World} {A : Option Addr} {T : List Ent} {r : Nat} (h : Ens w w.heap.size A T) (k : w.grownBy w' (some r)) (hr : ∀ ad, A = some ad → ad.block ≠ r) : Ens w' w'.heap.size A T := fun j x hx => by
  obtain ⟨ad, e, hb, h0, h1, h2⟩ := h j x hx
  have := hr ad e
  have hne : some (ad.add (j * 3)).block ≠ some r := fun e1 => by rw [add_block] at e1; cases e1; exact this rfl
  exact ⟨ad, e, Nat.lt_of_lt_of_le hb k.size, (gb_cell k hb hne).trans h0, (gb_cell (p := ⟨(ad.add (j * 3)).block, (ad.add (j * 3)).off + 1, none⟩) k hb hne).trans h1, (gb_cell (p := ⟨(ad.add (j * 3)).block, (ad.add (j * 3)).off + 2, none⟩) k hb hne).trans h2⟩

def zeroO : Array Value := #[.int .i64 0, .string ⟨#[]⟩, .slice none 0 0, .string ⟨#[]⟩, .slice none 0 0, .string ⟨#[]⟩, .string ⟨#[]⟩, .int .i64 0, .string ⟨#[]⟩]
/-- where readFields stands: the result's block, the object's block, the reader -/
structure Fd (w : World) (g r b : Nat) (o : Ob) (p : At) (st : St) (W : World) : Prop where
  res : Arr W r 53 zeroO
  box : Arr W b 53 (obArr o p)
  rd : RS W g st
  gb : w.grownBy W (some g)
  hg : g < w.heap.size
  hr : w.heap.size ≤ r
  hb : r < b
  ents : Ens W W.heap.size p.ea o.ents
  pars : Txs W W.heap.size p.pa o.pars
  room : o.pars.length ≤ p.pc
  fe : ∀ ad, p.ea = some ad → b < ad.block
  fp : ∀ ad, p.pa = some ad → b < ad.block
theorem Fd.read {w W W' : World} {g r b : Nat} {o : Ob} {p : At} {st st' : St} (h : Fd w g r b o p st W) (h' : RS W' g st') (k : W.grownBy W' (some g)) : Fd w g r b o p st' W' := by
  have h1 := h.hg
  have h2 := h.hr
  have h3 := h.hb
  exact ⟨h.res.kept k (fun e => by cases e; omega), h.box.kept k (fun e => by cases e; omega), h', gb_trans h.gb k, h.hg, h.hr, h.hb, h.ents.kept k (fun ad e => by have := h.fe ad e; omega),
    h.pars.kept k (fun ad e => by have := h.fp ad e; omega), h.room, h.fe, h.fp⟩
theorem Fd.put {w W : World} {g r b : Nat} {o o' : Ob} {p p' : At} {st : St} (h : Fd w g r b o p st W) (i : Nat) (v : Value) (e : (obArr o p).setIfInBounds i v = obArr o' p')
    (he : Ens W W.heap.size p'.ea o'.ents) (ht : Txs W W.heap.size p'.pa o'.pars) (hm : o'.pars.length ≤ p'.pc) (fe : ∀ ad, p'.ea = some ad → b < ad.block) (fp : ∀ ad, p'.pa = some ad → b < ad.block) :
    Fd w g r b o' p' st (W.setCell ⟨b, i, none⟩ v) := by
  have h1 := h.hg
  have h2 := h.hr
  have h3 := h.hb
  have k : W.grownBy (W.setCell ⟨b, i, none⟩ v) (some b) := gb_set b i v
  refine ⟨h.res.kept k (fun e => by cases e; omega), by rw [← e]; exact h.box.put i v, h.rd.kept k (fun e => by cases e; omega), gb_own h.gb k (fun q e => by cases e; omega), h.hg, h.hr, h.hb,
    he.kept k (fun ad e => by have := fe ad e; omega), ht.kept k (fun ad e => by have := fp ad e; omega), hm, fe, fp⟩
/-- the slices of an object lie in blocks above b -/
def Above (b : Nat) (p : At) : Prop := (∀ ad, p.ea = some ad → b < ad.block) ∧ (∀ ad, p.pa = some ad → b < ad.block)
theorem Above.mono {b b' : Nat} {p : At} (h : Above b p) (hb : b' ≤ b) : Above b' p := ⟨fun ad e => Nat.lt_of_le_of_lt hb (h.1 ad e), fun ad e => Nat.lt_of_le_of_lt hb (h.2 ad e)⟩
theorem ObIn.far {w w' : World} {b : Nat} {o : Ob} {p : At} (h : ObIn w w.heap.size o p) (k : w.grownBy w' (some b)) (f : Above b p) : ObIn w' w'.heap.size o p :=
  ⟨h.ents.kept k (fun ad e => by have := f.1 ad e; omega), h.pars.kept k (fun ad e => by have := f.2 ad e; omega), h.room⟩
/-- behind readFields -/
def FEnd (g : Nat) (w : World) (res : Option (Ob × List UInt8)) (x : Ending) (w' : World) : Prop :=
  ∃ o p ok, x = .returned (.tuple #[.agg (obArr o p), .bool ok]) ∧ w.grownBy w' (some g) ∧
    ((∃ r, res = some (o, r) ∧ ok = true ∧ RS w' g (some r) ∧ ObIn w' w'.heap.size o p ∧ Above w.heap.size p) ∨ (res = none ∧ ∃ st', RS w' g st' ∧ (ok = false ∨ st' = none)))
/-- the result is stored -/
theorem Fd.done {w W : World} {g r b : Nat} {o : Ob} {p : At} {st : St} (h : Fd w g r b o p st W) :
    Arr (W.setRow r (obArr o p)) r 53 (obArr o p) ∧ w.grownBy (W.setRow r (obArr o p)) (some g) ∧ RS (W.setRow r (obArr o p)) g st ∧ (ObIn (W.setRow r (obArr o p)) (W.setRow r (obArr o p)).heap.size o p ∧ Above w.heap.size p) := by
  have h1 := h.hg
  have h2 := h.hr
  have h3 := h.hb
  have k : W.grownBy (W.setRow r (obArr o p)) (some r) := gb_row r _
  exact ⟨h.res.row _, gb_own h.gb k (fun q e => by cases e; omega), h.rd.kept k (fun e => by cases e; omega), ⟨h.ents.kept k (fun ad e => by have := h.fe ad e; omega), h.pars.kept k (fun ad e => by have := h.fp ad e; omega), h.room⟩, fun ad e => by have := h.fe ad e; omega, fun ad e => by have := h.fp ad e; omega⟩
def atNil : At := ⟨none, 0, none, 0⟩
theorem fd_start {w : World} {g : Nat} {st : St} (h : RS w g st) (k : Int) :
    Fd w g w.heap.size (w.heap.size + 1) ⟨k, ⟨#[]⟩, [], ⟨#[]⟩, [], ⟨#[]⟩, ⟨#[]⟩, 0, ⟨#[]⟩⟩ atNil st
      (((w.alloc (.cells zeroO 53)).alloc (.cells zeroO 53)).setRow (w.heap.size + 1) (obArr ⟨k, ⟨#[]⟩, [], ⟨#[]⟩, [], ⟨#[]⟩, ⟨#[]⟩, 0, ⟨#[]⟩⟩ atNil)) := by
  have hlt := h.lt
  have a0 := Arr.new w 53 zeroO
  have g0 : w.grownBy (w.alloc (.cells zeroO 53)) (some g) := gb_alloc _
  have h0 := h.below ((Below.refl _ _).alloc (Nat.le_refl _) (.cells zeroO 53))
  have e0 : (w.alloc (.cells zeroO 53)).heap.size = w.heap.size + 1 := by simp
  generalize w.alloc (.cells zeroO 53) = w1 at *
  have a1 := a0.alloc (.cells zeroO 53)
  have b1 := Arr.new_at w1 53 zeroO e0.symm
  have g1 := gb_trans g0 (gb_alloc (r := some g) (.cells zeroO 53))
  have h1 := h0.below ((Below.refl _ _).alloc (Nat.le_refl _) (.cells zeroO 53))
  generalize w1.alloc (.cells zeroO 53) = w2 at *
  exact ⟨a1.row_far (by omega) _, b1.row _, h1.kept (gb_row _ _) (fun e => by cases e; omega), gb_own g1 (gb_row (w.heap.size + 1) _) (fun q e => by cases e; omega), hlt, Nat.le_refl _, by omega, Ens.nil _ _ _, Txs.nil _ _ _, Nat.le_refl _, fun ad e => (by cases e), fun ad e => (by cases e)⟩
end Go.Proofs.YtmikfmcgddmplaaGreatDoor

/- object.readFields: its contract. -/
namespace Go.Proofs.YtmikfmcgddmplaaGreatDoor
open Go.RowKit

set_option maxRecDepth 100000 in
set_option maxHeartbeats 4000000 in
theorem readFields_any (g : Nat) (l : List UInt8) (k : Int) (hk : k = 1 ∨ k = 2 ∨ k = 3 ∨ k = 4) (w : World) (h : RS w g (some l)) :
    Calls Tryz.prog 74 #[.pointer (some ⟨g, 0, none⟩), .int .i64 k] w (FEnd g w (rdFields k l)) := by
  have hF := Lib.hid (fd_start h k)
  obtain ⟨res, hres⟩ : ∃ res, res = rdFields k l := ⟨_, rfl⟩
  rw [← hres]
  unfold rdFields at hres
  clear h
  go_enter Tryz.func74, Tryz.ntmps74
  go_upto_region 2 with (refine wpList_store_row rfl 53 _ _ rfl (w.heap.size + 1) (obArr ⟨k, ⟨#[]⟩, [], ⟨#[]⟩, [], ⟨#[]⟩, ⟨#[]⟩, 0, ⟨#[]⟩⟩ atNil) rfl rfl 53 zeroO (Arr.new_at (w.alloc _) _ _ (by simp)) (obInfo _ _) rfl (obArr_one _ _) ?_)
  refine wp_forget (Fd w g w.heap.size (w.heap.size + 1) ⟨k, ⟨#[]⟩, [], ⟨#[]⟩, [], ⟨#[]⟩, ⟨#[]⟩, 0, ⟨#[]⟩⟩ atNil (some l)) hF.out ?_
  clear hF
  intro W hW
  rcases hk with rfl | rfl | rfl | rfl
  · rw [if_pos rfl] at hres
    have q1 := fun w h => rs_txt g (some l) w h
    generalize stTxt (some l) = x1 at *
    obtain ⟨t1, s1⟩ := x1
    simp only at hres q1
    have HR := Lib.hid hres
    have Q1 := Lib.hid q1
    clear hres q1
    go_wp2_with fail
    (with_reducible refine (Q1.out W hW.rd).mono ?_)
    rintro _ W2 ⟨rfl, h2, k2⟩
    have hW2 := hW.read h2 k2
    clear hW h2 k2
    have c := hW2.box.cell 1
    have f := hW2.box.free 1
    simp only [obArr, List.getElem?_toArray, List.getElem?_cons_zero, List.getElem?_cons_succ] at c
    go_upto_region 17 with fail
    refine wp_forget (Fd w g w.heap.size (w.heap.size + 1) ⟨1, t1, [], ⟨#[]⟩, [], ⟨#[]⟩, ⟨#[]⟩, 0, ⟨#[]⟩⟩ atNil s1) (by exact hW2.put 1 (.string t1) rfl hW2.ents hW2.pars hW2.room hW2.fe hW2.fp) ?_
    clear hW2 c f
    clear W W2
    intro W hW
    go_wp2_with (first | (refine wpList_load_row rfl 53 _ rfl (w.heap.size + 1) rfl 53 _ (0, 0) _ hW.box Tryz.underlying53 rfl (obInfo _ _) ?_) | (refine wpList_store_row rfl 53 _ _ rfl w.heap.size (obArr ⟨1, t1, [], ⟨#[]⟩, [], ⟨#[]⟩, ⟨#[]⟩, 0, ⟨#[]⟩⟩ atNil) rfl rfl 53 zeroO hW.res (obInfo _ _) rfl (obArr_one _ _) ?_))
    refine bodyPost_ret (v := .tuple #[.agg (obArr ⟨1, t1, [], ⟨#[]⟩, [], ⟨#[]⟩, ⟨#[]⟩, 0, ⟨#[]⟩⟩ atNil), .bool true]) ?_ rfl ?_
    · rw [results_cell_tmp Tryz.results74]
      have hld := run_loadVar_row (P := Tryz.prog) _ _ _ 53 _ _ _ (hW.res.row (obArr ⟨1, t1, [], ⟨#[]⟩, [], ⟨#[]⟩, ⟨#[]⟩, 0, ⟨#[]⟩⟩ atNil)) Tryz.underlying53 rfl (obInfo ⟨1, t1, [], ⟨#[]⟩, [], ⟨#[]⟩, ⟨#[]⟩, 0, ⟨#[]⟩⟩ atNil)
      simp [asAddr, hld, Result.andThen]
    obtain ⟨_, d2, d3, d4⟩ := hW.done
    cases s1 with
    | none => exact ⟨_, _, _, rfl, d2, .inr ⟨HR.out, none, d3, .inr rfl⟩⟩
    | some r => exact ⟨_, _, _, rfl, d2, .inl ⟨r, HR.out, rfl, d3, d4⟩⟩
  · rw [if_neg (by decide), if_pos rfl] at hres
    have Q1 := Lib.hid (fun w h => readEntries_any g (some l) w h)
    generalize rdEntsS (some l) = x1 at *
    have HR := Lib.hid hres
    clear hres
    go_wp2_with fail
    (with_reducible refine (Q1.out W hW.rd).mono ?_)
    rintro _ W2 ⟨A, cc, L, ok, rfl, ⟨hx, hy⟩, k2, hz⟩
    have hbW := hW.box.lt
    obtain ⟨st2, h2, HZ⟩ : ∃ st2, RS W2 g st2 ∧ Hid ((∃ r, x1 = some (L, r) ∧ ok = true ∧ st2 = some r) ∨ (x1 = none ∧ (ok = false ∨ st2 = none))) := by
      rcases hz with ⟨r, e1, e2, h2⟩ | ⟨e1, st2, h2, e2⟩
      · exact ⟨some r, h2, .inl ⟨r, e1, e2, rfl⟩⟩
      · exact ⟨st2, h2, .inr ⟨e1, e2⟩⟩
    have hW2 := hW.read h2 k2
    clear hW h2 k2 hz
    have c := hW2.box.cell 2
    have f := hW2.box.free 2
    simp only [obArr, List.getElem?_toArray, List.getElem?_cons_zero, List.getElem?_cons_succ] at c
    go_upto_region 17 with fail
    refine wp_forget (Fd w g w.heap.size (w.heap.size + 1) ⟨2, ⟨#[]⟩, L, ⟨#[]⟩, [], ⟨#[]⟩, ⟨#[]⟩, 0, ⟨#[]⟩⟩ ⟨A, cc, none, 0⟩ st2) (by exact hW2.put 2 (.slice A (List.length L) cc) rfl hx hW2.pars hW2.room (fun ad e => by have := hy ad e; omega) hW2.fp) ?_
    clear hW2 c f hx hy hbW
    clear W W2
    intro W hW
    go_wp2_with (first | (refine wpList_load_row rfl 53 _ rfl (w.heap.size + 1) rfl 53 _ (0, 0) _ hW.box Tryz.underlying53 rfl (obInfo _ _) ?_) | (refine wpList_store_row rfl 53 _ _ rfl w.heap.size (obArr ⟨2, ⟨#[]⟩, L, ⟨#[]⟩, [], ⟨#[]⟩, ⟨#[]⟩, 0, ⟨#[]⟩⟩ ⟨A, cc, none, 0⟩) rfl rfl 53 zeroO hW.res (obInfo _ _) rfl (obArr_one _ _) ?_))
    refine bodyPost_ret (v := .tuple #[.agg (obArr ⟨2, ⟨#[]⟩, L, ⟨#[]⟩, [], ⟨#[]⟩, ⟨#[]⟩, 0, ⟨#[]⟩⟩ ⟨A, cc, none, 0⟩), .bool ok]) ?_ rfl ?_
    · rw [results_cell_tmp Tryz.results74]
      have hld := run_loadVar_row (P := Tryz.prog) _ _ _ 53 _ _ _ (hW.res.row (obArr ⟨2, ⟨#[]⟩, L, ⟨#[]⟩, [], ⟨#[]⟩, ⟨#[]⟩, 0, ⟨#[]⟩⟩ ⟨A, cc, none, 0⟩)) Tryz.underlying53 rfl (obInfo ⟨2, ⟨#[]⟩, L, ⟨#[]⟩, [], ⟨#[]⟩, ⟨#[]⟩, 0, ⟨#[]⟩⟩ ⟨A, cc, none, 0⟩)
      simp [asAddr, hld, Result.andThen]
    obtain ⟨_, d2, d3, d4⟩ := hW.done
    have hz := HZ.out
    clear HZ
    rcases hz with ⟨r, rfl, rfl, rfl⟩ | ⟨rfl, hz⟩
    · exact ⟨_, _, _, rfl, d2, .inl ⟨r, HR.out, rfl, d3, d4⟩⟩
    · exact ⟨_, _, _, rfl, d2, .inr ⟨HR.out, st2, d3, hz⟩⟩
  · rw [if_neg (by decide), if_neg (by decide), if_pos rfl] at hres
    have q1 := fun w h => rs_id g (some l) w h
    generalize stId (some l) = x1 at *
    obtain ⟨t1, s1⟩ := x1
    simp only at hres q1
    have q2 := fun w h => readParents_any g s1 w h
    generalize stPars s1 = x2 at *
    obtain ⟨P, s2⟩ := x2
    simp only at hres q2
    have q3 := fun w h => rs_txt g s2 w h
    generalize stTxt s2 = x3 at *
    obtain ⟨t3, s3⟩ := x3
    simp only at hres q3
    have q4 := fun w h => rs_num g s3 w h
    generalize stNum s3 = x4 at *
    obtain ⟨n4, s4⟩ := x4
    simp only at hres q4
    have q5 := fun w h => rs_txt g s4 w h
    generalize stTxt s4 = x5 at *
    obtain ⟨t5, s5⟩ := x5
    simp only at hres q5
    have HR := Lib.hid hres
    have Q1 := Lib.hid q1
    have Q2 := Lib.hid q2
    have Q3 := Lib.hid q3
    have Q4 := Lib.hid q4
    have Q5 := Lib.hid q5
    clear hres q1 q2 q3 q4 q5
    go_wp2_with fail
    (with_reducible refine (Q1.out W hW.rd).mono ?_)
    rintro _ W2 ⟨rfl, h2, k2⟩
    have hW2 := hW.read h2 k2
    clear hW h2 k2
    have c := hW2.box.cell 3
    have f := hW2.box.free 3
    simp only [obArr, List.getElem?_toArray, List.getElem?_cons_zero, List.getElem?_cons_succ] at c
    go_upto_region 9 with fail
    refine wp_forget (Fd w g w.heap.size (w.heap.size + 1) ⟨3, ⟨#[]⟩, [], t1, [], ⟨#[]⟩, ⟨#[]⟩, 0, ⟨#[]⟩⟩ atNil s1) (by exact hW2.put 3 (.string t1) rfl hW2.ents hW2.pars hW2.room hW2.fe hW2.fp) ?_
    clear hW2 c f
    clear W W2
    intro W hW
    go_wp2_with fail
    (with_reducible refine (Q2.out W hW.rd).mono ?_)
    rintro _ W2 ⟨A, cc, rfl, hm, ⟨hx, hy⟩, h2, k2⟩
    have hbW := hW.box.lt
    have hW2 := hW.read h2 k2
    clear hW h2 k2
    have c := hW2.box.cell 4
    have f := hW2.box.free 4
    simp only [obArr, List.getElem?_toArray, List.getElem?_cons_zero, List.getElem?_cons_succ] at c
    go_upto_region 10 with fail
    refine wp_forget (Fd w g w.heap.size (w.heap.size + 1) ⟨3, ⟨#[]⟩, [], t1, P, ⟨#[]⟩, ⟨#[]⟩, 0, ⟨#[]⟩⟩ ⟨none, 0, A, cc⟩ s2) (by exact hW2.put 4 (.slice A (List.length P) cc) rfl hW2.ents hx hm hW2.fe (fun ad e => by have := hy ad e; omega)) ?_
    clear hW2 c f hx hy hbW hm
    clear W W2
    intro W hW
    go_wp2_with fail
    (with_reducible refine (Q3.out W hW.rd).mono ?_)
    rintro _ W2 ⟨rfl, h2, k2⟩
    have hW2 := hW.read h2 k2
    clear hW h2 k2
    have c := hW2.box.cell 5
    have f := hW2.box.free 5
    simp only [obArr, List.getElem?_toArray, List.getElem?_cons_zero, List.getElem?_cons_succ] at c
    go_upto_region 11 with fail
    refine wp_forget (Fd w g w.heap.size (w.heap.size + 1) ⟨3, ⟨#[]⟩, [], t1, P, t3, ⟨#[]⟩, 0, ⟨#[]⟩⟩ ⟨none, 0, A, cc⟩ s3) (by exact hW2.put 5 (.string t3) rfl hW2.ents hW2.pars hW2.room hW2.fe hW2.fp) ?_
    clear hW2 c f
    clear W W2
    intro W hW
    go_wp2_with fail
    (with_reducible refine (Q4.out W hW.rd).mono ?_)
    rintro _ W2 ⟨rfl, h2, k2⟩
    have hW2 := hW.read h2 k2
    clear hW h2 k2
    have c := hW2.box.cell 7
    have f := hW2.box.free 7
    simp only [obArr, List.getElem?_toArray, List.getElem?_cons_zero, List.getElem?_cons_succ] at c
    go_upto_region 12 with fail
    refine wp_forget (Fd w g w.heap.size (w.heap.size + 1) ⟨3, ⟨#[]⟩, [], t1, P, t3, ⟨#[]⟩, (n4 : Int), ⟨#[]⟩⟩ ⟨none, 0, A, cc⟩ s4) (by exact hW2.put 7 (.int .i64 (n4 : Int)) rfl hW2.ents hW2.pars hW2.room hW2.fe hW2.fp) ?_
    clear hW2 c f
    clear W W2
    intro W hW
    go_wp2_with fail
    (with_reducible refine (Q5.out W hW.rd).mono ?_)
    rintro _ W2 ⟨rfl, h2, k2⟩
    have hW2 := hW.read h2 k2
    clear hW h2 k2
    have c := hW2.box.cell 6
    have f := hW2.box.free 6
    simp only [obArr, List.getElem?_toArray, List.getElem?_cons_zero, List.getElem?_cons_succ] at c
    go_upto_region 17 with fail
    refine wp_forget (Fd w g w.heap.size (w.heap.size + 1) ⟨3, ⟨#[]⟩, [], t1, P, t3, t5, (n4 : Int), ⟨#[]⟩⟩ ⟨none, 0, A, cc⟩ s5) (by exact hW2.put 6 (.string t5) rfl hW2.ents hW2.pars hW2.room hW2.fe hW2.fp) ?_
    clear hW2 c f
    clear W W2
    intro W hW
    go_wp2_with (first | (refine wpList_load_row rfl 53 _ rfl (w.heap.size + 1) rfl 53 _ (0, 0) _ hW.box Tryz.underlying53 rfl (obInfo _ _) ?_) | (refine wpList_store_row rfl 53 _ _ rfl w.heap.size (obArr ⟨3, ⟨#[]⟩, [], t1, P, t3, t5, (n4 : Int), ⟨#[]⟩⟩ ⟨none, 0, A, cc⟩) rfl rfl 53 zeroO hW.res (obInfo _ _) rfl (obArr_one _ _) ?_))
    refine bodyPost_ret (v := .tuple #[.agg (obArr ⟨3, ⟨#[]⟩, [], t1, P, t3, t5, (n4 : Int), ⟨#[]⟩⟩ ⟨none, 0, A, cc⟩), .bool true]) ?_ rfl ?_
    · rw [results_cell_tmp Tryz.results74]
      have hld := run_loadVar_row (P := Tryz.prog) _ _ _ 53 _ _ _ (hW.res.row (obArr ⟨3, ⟨#[]⟩, [], t1, P, t3, t5, (n4 : Int), ⟨#[]⟩⟩ ⟨none, 0, A, cc⟩)) Tryz.underlying53 rfl (obInfo ⟨3, ⟨#[]⟩, [], t1, P, t3, t5, (n4 : Int), ⟨#[]⟩⟩ ⟨none, 0, A, cc⟩)
      simp [asAddr, hld, Result.andThen]
    obtain ⟨_, d2, d3, d4⟩ := hW.done
    cases s5 with
    | none => exact ⟨_, _, _, rfl, d2, .inr ⟨HR.out, none, d3, .inr rfl⟩⟩
    | some r => exact ⟨_, _, _, rfl, d2, .inl ⟨r, HR.out, rfl, d3, d4⟩⟩
  · rw [if_neg (by decide), if_neg (by decide), if_neg (by decide)] at hres
    have q1 := fun w h => rs_id g (some l) w h
    generalize stId (some l) = x1 at *
    obtain ⟨t1, s1⟩ := x1
    simp only at hres q1
    have q3 := fun w h => rs_txt g s1 w h
    generalize stTxt s1 = x3 at *
    obtain ⟨t3, s3⟩ := x3
    simp only at hres q3
    have q5 := fun w h => rs_txt g s3 w h
    generalize stTxt s3 = x5 at *
    obtain ⟨t5, s5⟩ := x5
    simp only at hres q5
    have HR := Lib.hid hres
    have Q1 := Lib.hid q1
    have Q3 := Lib.hid q3
    have Q5 := Lib.hid q5
    clear hres q1 q3 q5
    go_wp2_with fail
    (with_reducible refine (Q1.out W hW.rd).mono ?_)
    rintro _ W2 ⟨rfl, h2, k2⟩
    have hW2 := hW.read h2 k2
    clear hW h2 k2
    have c := hW2.box.cell 8
    have f := hW2.box.free 8
    simp only [obArr, List.getElem?_toArray, List.getElem?_cons_zero, List.getElem?_cons_succ] at c
    go_upto_region 15 with fail
    refine wp_forget (Fd w g w.heap.size (w.heap.size + 1) ⟨4, ⟨#[]⟩, [], ⟨#[]⟩, [], ⟨#[]⟩, ⟨#[]⟩, 0, t1⟩ atNil s1) (by exact hW2.put 8 (.string t1) rfl hW2.ents hW2.pars hW2.room hW2.fe hW2.fp) ?_
    clear hW2 c f
    clear W W2
    intro W hW
    go_wp2_with fail
    (with_reducible refine (Q3.out W hW.rd).mono ?_)
    rintro _ W2 ⟨rfl, h2, k2⟩
    have hW2 := hW.read h2 k2
    clear hW h2 k2
    have c := hW2.box.cell 5
    have f := hW2.box.free 5
    simp only [obArr, List.getElem?_toArray, List.getElem?_cons_zero, List.getElem?_cons_succ] at c
    go_upto_region 16 with fail
    refine wp_forget (Fd w g w.heap.size (w.heap.size + 1) ⟨4, ⟨#[]⟩, [], ⟨#[]⟩, [], t3, ⟨#[]⟩, 0, t1⟩ atNil s3) (by exact hW2.put 5 (.string t3) rfl hW2.ents hW2.pars hW2.room hW2.fe hW2.fp) ?_
    clear hW2 c f
    clear W W2
    intro W hW
    go_wp2_with fail
    (with_reducible refine (Q5.out W hW.rd).mono ?_)
    rintro _ W2 ⟨rfl, h2, k2⟩
    have hW2 := hW.read h2 k2
    clear hW h2 k2
    have c := hW2.box.cell 6
    have f := hW2.box.free 6
    simp only [obArr, List.getElem?_toArray, List.getElem?_cons_zero, List.getElem?_cons_succ] at c
    go_upto_region 17 with fail
    refine wp_forget (Fd w g w.heap.size (w.heap.size + 1) ⟨4, ⟨#[]⟩, [], ⟨#[]⟩, [], t3, t5, 0, t1⟩ atNil s5) (by exact hW2.put 6 (.string t5) rfl hW2.ents hW2.pars hW2.room hW2.fe hW2.fp) ?_
    clear hW2 c f
    clear W W2
    intro W hW
    go_wp2_with (first | (refine wpList_load_row rfl 53 _ rfl (w.heap.size + 1) rfl 53 _ (0, 0) _ hW.box Tryz.underlying53 rfl (obInfo _ _) ?_) | (refine wpList_store_row rfl 53 _ _ rfl w.heap.size (obArr ⟨4, ⟨#[]⟩, [], ⟨#[]⟩, [], t3, t5, 0, t1⟩ atNil) rfl rfl 53 zeroO hW.res (obInfo _ _) rfl (obArr_one _ _) ?_))
    refine bodyPost_ret (v := .tuple #[.agg (obArr ⟨4, ⟨#[]⟩, [], ⟨#[]⟩, [], t3, t5, 0, t1⟩ atNil), .bool true]) ?_ rfl ?_
    · rw [results_cell_tmp Tryz.results74]
      have hld := run_loadVar_row (P := Tryz.prog) _ _ _ 53 _ _ _ (hW.res.row (obArr ⟨4, ⟨#[]⟩, [], ⟨#[]⟩, [], t3, t5, 0, t1⟩ atNil)) Tryz.underlying53 rfl (obInfo ⟨4, ⟨#[]⟩, [], ⟨#[]⟩, [], t3, t5, 0, t1⟩ atNil)
      simp [asAddr, hld, Result.andThen]
    obtain ⟨_, d2, d3, d4⟩ := hW.done
    cases s5 with
    | none => exact ⟨_, _, _, rfl, d2, .inr ⟨HR.out, none, d3, .inr rfl⟩⟩
    | some r => exact ⟨_, _, _, rfl, d2, .inl ⟨r, HR.out, rfl, d3, d4⟩⟩
end Go.Proofs.YtmikfmcgddmplaaGreatDoor

/- Package object: what is wrong with an object: the parts of Good. -/
namespace Go.Proofs.YtmikfmcgddmplaaGreatDoor
open Go.RowKit

theorem isKind_any (k : Int) (w : World) : Calls Tryz.prog 73 #[.int .i64 k] w fun e w' => e = .returned (.bool (kindB k)) ∧ w = w' := by
  unfold kindB
  cases h1 : k == 1 <;> cases h2 : k == 2 <;> cases h3 : k == 3
  all_goals
    go_enter Tryz.func73, Tryz.ntmps73
    go_wp2_with fail
    go_ret
    refine ⟨?_, rfl⟩
    first | rfl | (simp_all; done)
theorem isId_any (s : ByteArray) (w : World) : Calls Tryz.prog 117 #[.string s] w fun e w' => e = .returned (.bool (idB s)) ∧ w = w' := by
  go_enter Tryz.func117, Tryz.ntmps117
  go_wp2_with fail
  go_ret
  refine ⟨?_, rfl⟩
  unfold idB
  rw [← cast_eq]
  rfl
set_option maxRecDepth 100000 in
theorem goodName_any (s : ByteArray) (w : World) : Calls Tryz.prog 143 #[.string s] w fun e w' => e = .returned (.bool (nameB s)) ∧ Below w.heap.size w w' := by
  obtain ⟨B, hB⟩ : ∃ B, B = nameB s := ⟨_, rfl⟩
  rw [← hB]
  unfold nameB nilB eqB at hB
  rw [show (⟨#[46]⟩ : ByteArray).toList = [46] from by rw [toList_data], show (⟨#[46, 46]⟩ : ByteArray).toList = [46, 46] from by rw [toList_data], show (⟨#[]⟩ : ByteArray).toList = [] from by rw [toList_data]] at hB
  cases h0 : s.toList.isEmpty
  case true =>
    obtain rfl : B = false := by rw [hB, List.isEmpty_iff.1 h0]; simp
    clear hB
    go_enter Tryz.func143, Tryz.ntmps143
    go_wp2_with fail
    go_ret
    exact ⟨rfl, Below.refl _ _⟩
  by_cases h1 : 60 < s.size
  · have h2 : (60 : Int) < s.size := by omega
    obtain rfl : B = false := by rw [hB, decide_eq_true h1]; simp
    clear hB
    go_enter Tryz.func143, Tryz.ntmps143
    go_wp2_with fail
    go_ret
    exact ⟨rfl, Below.refl _ _⟩
  have h2 : ¬ (60 : Int) < s.size := by omega
  cases h3 : s.toList == [46]
  case true =>
    obtain rfl : B = false := by rw [hB, h3]; simp
    clear hB
    go_enter Tryz.func143, Tryz.ntmps143
    go_wp2_with fail
    go_ret
    exact ⟨rfl, Below.refl _ _⟩
  cases h4 : s.toList == [46, 46]
  case true =>
    obtain rfl : B = false := by rw [hB, h4]; simp
    clear hB
    go_enter Tryz.func143, Tryz.ntmps143
    go_wp2_with fail
    go_ret
    exact ⟨rfl, Below.refl _ _⟩
  have hB2 : Hid (B = !hasBarred s) := by
    show _ = _
    rw [hB, h3, h4, decide_eq_false h1, beq_eq_false_iff_ne.2 (fun e => by rw [e] at h0; cases h0)]
    simp
  clear hB
  have C := Lib.hid (barred_any s)
  generalize hasBarred s = z at *
  go_enter Tryz.func143, Tryz.ntmps143
  go_wp2_with fail
  (with_reducible refine (C.out w).mono ?_)
  rintro _ w1 ⟨rfl, b1⟩
  go_wp2_with fail
  go_ret
  exact ⟨by rw [hB2.out]; rfl, b1⟩

def IxRel (T : List ByteArray) (x : ByteArray) (i : Value) : Prop := ∃ k : Nat, k ≤ T.length ∧ i = .int .i64 (k : Int) ∧ (T.take k).any (eqB x) = false
set_option maxRecDepth 100000 in
theorem Index_any (T : List ByteArray) (hl : T.length ≤ 4) (A : Option Addr) (c : Nat) (x : ByteArray) (w : World) (hP : Txs w w.heap.size A T) :
    Calls Tryz.prog 155 #[.slice A T.length c, .string x] w fun e w' => (∃ n : Int, e = .returned (.int .i64 n) ∧ decide (0 ≤ n) = T.any (eqB x)) ∧ Below w.heap.size w w' := by
  go_enter Tryz.func155, Tryz.ntmps155
  go_wp2_with fail
  go_loopw [8] (fun i wr => IxRel T x i ∧ Below w.heap.size w wr) (fun i _ => T.length - (intOf i).toNat)
  case atStart => exact ⟨⟨0, Nat.zero_le _, rfl, rfl⟩, Below.refl _ _⟩
  case round =>
    obtain ⟨⟨k, hk, rfl, hno⟩, hB⟩ := hrel
    by_cases hlt : k < T.length
    · obtain ⟨ad, rfl, hbl, h0⟩ := hP k T[k] (List.getElem?_eq_getElem hlt)
      have g0 := (hB.cell hbl).trans h0
      have e1 : Hid (T.take (k + 1) = T.take k ++ [T[k]]) := List.take_succ_eq_append_getElem hlt
      have hin : T[k] ∈ T := List.getElem_mem hlt
      have hi : (k : Int) < T.length := by omega
      clear h0 hP
      generalize T[k] = y at *
      cases hq : x.toList == y.toList
      case true =>
        have hyes : Hid (T.any (eqB x) = true) := by show _ = _; rw [List.any_eq_true]; exact ⟨y, hin, hq⟩
        clear hno hin
        go_wp2_with fail
        go_ret
        exact ⟨⟨_, rfl, by rw [hyes.out]; simp⟩, hB⟩
      have hno2 : Hid ((T.take (k + 1)).any (eqB x) = false) := by show _ = _; rw [e1.out, List.any_append, hno]; simp [eqB, hq]
      clear hno hin
      go_wp2_with fail
      refine ⟨⟨⟨k + 1, hlt, by go_num, hno2.out⟩, hB⟩, by simp [intOf]; omega⟩
    · obtain rfl : k = T.length := by omega
      rw [List.take_length] at hno
      have Hno := Lib.hid hno
      have hi : ¬ (T.length : Int) < T.length := by omega
      clear hP hno
      go_wp2_with fail
      go_ret
      exact ⟨⟨_, rfl, by rw [Hno.out]; rfl⟩, hB⟩
theorem Contains_any (T : List ByteArray) (hl : T.length ≤ 4) (A : Option Addr) (c : Nat) (x : ByteArray) (w : World) (hP : Txs w w.heap.size A T) :
    Calls Tryz.prog 144 #[.slice A T.length c, .string x] w fun e w' => e = .returned (.bool (T.any (eqB x))) ∧ Below w.heap.size w w' := by
  have C := Lib.hid (Index_any T hl A c x w hP)
  clear hP
  go_enter Tryz.func144, Tryz.ntmps144
  go_wp2_with fail
  (with_reducible refine C.out.mono ?_)
  rintro _ w1 ⟨⟨n, rfl, hn⟩, b1⟩
  have Hn := Lib.hid hn
  clear hn
  go_wp2_with fail
  go_ret
  exact ⟨by rw [← Hn.out]; rfl, b1⟩
end Go.Proofs.YtmikfmcgddmplaaGreatDoor

/- Package object: entries and parents. -/
namespace Go.Proofs.YtmikfmcgddmplaaGreatDoor
open Go.RowKit

def GERel (L : List Ent) (w : World) (b i : Value) (wr : World) : Prop :=
  ∃ (k : Nat) (s : ByteArray), k ≤ L.length ∧ i = .int .i64 (k : Int) ∧ b = .string s ∧ entsB ⟨#[]⟩ L = entsB s (L.drop k) ∧ Below w.heap.size w wr
set_option maxRecDepth 100000 in
set_option maxHeartbeats 1000000 in
theorem goodEntries_any (L : List Ent) (hl : L.length ≤ 64) (A : Option Addr) (c : Nat) (w : World) (hP : Ens w w.heap.size A L) :
    Calls Tryz.prog 115 #[.slice A L.length c] w fun e w' => e = .returned (.bool (entsB ⟨#[]⟩ L)) ∧ Below w.heap.size w w' := by
  go_enter Tryz.func115, Tryz.ntmps115
  go_wp2_with fail
  go_loopw [3, 8] (fun b i wr => GERel L w b i wr) (fun _ i _ => L.length - (intOf i).toNat)
  case atStart => exact ⟨0, ⟨#[]⟩, Nat.zero_le _, rfl, rfl, by rw [List.drop_zero], Below.refl _ _⟩
  case round =>
    obtain ⟨k, s, hk, rfl, rfl, he, hB⟩ := hrel
    by_cases hlt : k < L.length
    · obtain ⟨ad, rfl, hbl, h0, h1, h2⟩ := hP k L[k] (List.getElem?_eq_getElem hlt)
      have g0 := (hB.cell hbl).trans h0
      have g1 := (hB.cell (p := ⟨(ad.add (k * 3)).block, (ad.add (k * 3)).off + 1, none⟩) hbl).trans h1
      have g2 := (hB.cell (p := ⟨(ad.add (k * 3)).block, (ad.add (k * 3)).off + 2, none⟩) hbl).trans h2
      have hi : (k : Int) < L.length := by omega
      rw [List.drop_eq_getElem_cons hlt, entsB] at he
      clear h0 h1 h2 hP
      generalize L[k] = x at *
      obtain ⟨nm, dr, id⟩ := x
      simp only at g0 g1 g2 he
      have hX := Arr.new wr 79 #[.string nm, .bool dr, .string id]
      have b1 : Below wr.heap.size wr (wr.alloc (.cells #[.string nm, .bool dr, .string id] 79)) := (Below.refl _ _).alloc (Nat.le_refl _) _
      have hB1 := hB.trans (b1.mono hB.size)
      have C := Lib.hid (goodName_any nm)
      have HE := Lib.hid he
      clear he b1
      generalize hN : nameB nm = N at *
      generalize hI : idB id = I at *
      have CI : Hid (∀ w, Calls Tryz.prog 117 #[.string id] w fun e w' => e = .returned (.bool I) ∧ w = w') := fun w => by rw [← hI]; exact isId_any id w
      clear hN hI
      have hle : Hid (leB nm s = (Op.bytesLess nm.toList s.toList || nm.toList == s.toList)) := rfl
      go_wp2_with fail
      (with_reducible refine (C.out _).mono ?_)
      rintro _ w2 ⟨rfl, b2⟩
      have hX2 := hX.below b2 hX.lt
      have hB2 := hB1.trans (b2.mono hB1.size)
      have c0 := hX2.cell 0
      have c2 := hX2.cell 2
      clear hX b2 hB1 C
      simp only [List.getElem?_toArray, List.getElem?_cons_zero, List.getElem?_cons_succ] at c0 c2
      cases N
      · go_wp2_with fail
        go_ret
        exact ⟨by rw [HE.out]; rfl, hB2⟩
      · go_wp2_with fail
        (with_reducible refine (CI.out _).mono ?_)
        rintro _ w3 ⟨rfl, rfl⟩
        cases I
        · go_wp2_with fail
          go_ret
          exact ⟨by rw [HE.out]; rfl, hB2⟩
        · cases hq : (Op.bytesLess nm.toList s.toList || nm.toList == s.toList)
          · have HE2 : Hid (entsB ⟨#[]⟩ L = entsB nm (L.drop (k + 1))) := by show _ = _; rw [HE.out, hle.out, hq]; rfl
            clear HE hle
            go_wp2_with fail
            refine ⟨⟨k + 1, nm, hlt, by go_num, rfl, HE2.out, hB2⟩, by simp [intOf]; omega⟩
          · have HE2 : Hid (entsB ⟨#[]⟩ L = false) := by show _ = _; rw [HE.out, hle.out, hq]; rfl
            clear HE hle
            go_wp2_with fail
            go_ret
            exact ⟨by rw [HE2.out]; rfl, hB2⟩
    · obtain rfl : k = L.length := by omega
      rw [List.drop_length, entsB] at he
      have HE := Lib.hid he
      have hi : ¬ (L.length : Int) < L.length := by omega
      clear hP he
      go_wp2_with fail
      go_ret
      exact ⟨by rw [HE.out]; rfl, hB⟩

def PERel (T : List ByteArray) (w : World) (i : Value) (wr : World) : Prop :=
  ∃ k : Nat, k ≤ T.length ∧ i = .int .i64 (k : Int) ∧ parsE [] T = parsE (T.take k) (T.drop k) ∧ Below w.heap.size w wr
set_option maxRecDepth 100000 in
set_option maxHeartbeats 1000000 in
theorem parentsError_any (T : List ByteArray) (hl : T.length ≤ 4) (A : Option Addr) (c : Nat) (hc : T.length ≤ c) (w : World) (hP : Txs w w.heap.size A T) :
    Calls Tryz.prog 116 #[.slice A T.length c] w fun e w' => e = .returned (.int .i64 (parsE [] T)) ∧ Below w.heap.size w w' := by
  go_enter Tryz.func116, Tryz.ntmps116
  go_wp2_with fail
  go_loopw [7] (fun i wr => PERel T w i wr) (fun i _ => T.length - (intOf i).toNat)
  case atStart => exact ⟨0, Nat.zero_le _, rfl, by rw [List.drop_zero, List.take_zero], Below.refl _ _⟩
  case round =>
    obtain ⟨k, hk, rfl, he, hB⟩ := hrel
    by_cases hlt : k < T.length
    · obtain ⟨ad, rfl, hbl, h0⟩ := hP k T[k] (List.getElem?_eq_getElem hlt)
      have g0 := (hB.cell hbl).trans h0
      have hi : (k : Int) < T.length := by omega
      have hkc : (k : Int) ≤ c := by omega
      have ht : Hid (T.take (k + 1) = T.take k ++ [T[k]]) := List.take_succ_eq_append_getElem hlt
      rw [List.drop_eq_getElem_cons hlt, parsE] at he
      have hP2 : Txs wr wr.heap.size (some ad) (T.take k) := fun j x hx => by
        have hj : j < k := by
          rcases Nat.lt_or_ge j k with h | h
          · exact h
          · rw [List.getElem?_eq_none (by rw [List.length_take]; omega)] at hx; cases hx
        rw [List.getElem?_take_of_lt hj] at hx
        obtain ⟨ad', e, hb, hcc⟩ := hP j x hx
        exact ⟨ad', e, Nat.lt_of_lt_of_le hb hB.size, (hB.cell hb).trans hcc⟩
      have C := Contains_any (T.take k) (by rw [List.length_take]; omega) (some ad) c T[k] wr hP2
      rw [List.length_take, Nat.min_eq_left hk] at C
      have HC := Lib.hid C
      clear h0 hP hP2 C
      generalize T[k] = x at *
      have HE := Lib.hid he
      generalize hI : idB x = I at *
      have CI : Hid (∀ w, Calls Tryz.prog 117 #[.string x] w fun e w' => e = .returned (.bool I) ∧ w = w') := fun w => by rw [← hI]; exact isId_any x w
      clear hI he
      generalize hA : (T.take k).any (eqB x) = a at *
      clear hA
      go_wp2_with fail
      (with_reducible refine (CI.out _).mono ?_)
      rintro _ w3 ⟨rfl, rfl⟩
      cases I
      · go_wp2_with fail
        go_ret
        exact ⟨by rw [HE.out]; rfl, hB⟩
      · go_wp2_with fail
        (with_reducible refine HC.out.mono ?_)
        rintro _ w2 ⟨rfl, b2⟩
        have hB2 := hB.trans (b2.mono hB.size)
        cases a
        · have HE2 : Hid (parsE [] T = parsE (T.take (k + 1)) (T.drop (k + 1))) := by show _ = _; rw [HE.out, ht.out]; rfl
          clear HE ht
          go_wp2_with fail
          refine ⟨⟨k + 1, hlt, by go_num, HE2.out, hB2⟩, by simp [intOf]; omega⟩
        · go_wp2_with fail
          go_ret
          exact ⟨by rw [HE.out]; rfl, hB2⟩
    · obtain rfl : k = T.length := by omega
      rw [List.drop_length, parsE] at he
      have HE := Lib.hid he
      have hi : ¬ (T.length : Int) < T.length := by omega
      clear hP he
      go_wp2_with fail
      go_ret
      exact ⟨by rw [HE.out]; rfl, hB⟩
end Go.Proofs.YtmikfmcgddmplaaGreatDoor

/- hasStrayField: its contract, kind by kind. -/
namespace Go.Proofs.YtmikfmcgddmplaaGreatDoor
open Go.RowKit

theorem nil_list : (⟨#[]⟩ : ByteArray).toList = [] := by rw [toList_data]
theorem nilB_of {s : ByteArray} (h : s.toList = []) : nilB s = true := by unfold nilB; rw [h, nil_list]; rfl
theorem nilB_not {s : ByteArray} (h : ¬ s.toList = []) : nilB s = false := by unfold nilB; rw [nil_list, beq_eq_false_iff_ne]; exact h

set_option maxRecDepth 100000 in
set_option maxHeartbeats 2000000 in
theorem stray1 (d t wh no ta : ByteArray) (el pl ec pc : Nat) (EA PA : Option Addr) (tm : Int) (B : Bool) (hB : B = (decide (0 < el) || !nilB t || decide (0 < pl) || tm != 0 || !nilB ta || !nilB wh || !nilB no)) (w : World) :
    Calls Tryz.prog 114 #[.agg #[.int .i64 1, .string d, .slice EA el ec, .string t, .slice PA pl pc, .string wh, .string no, .int .i64 tm, .string ta]] w
      fun e w' => e = .returned (.bool B) ∧ Below w.heap.size w w' := by
  rcases Nat.eq_zero_or_pos el with rfl | pel
  case inr =>
    have qel : (0 : Int) < el := by omega
    obtain rfl : B = true := by rw [hB]; simp [*]
    clear hB
    go_enter Tryz.func114, Tryz.ntmps114
    simp only [List.append_eq, List.cons_append, List.nil_append]
    go_wp2_with fail
    go_quiet (fail)
    go_wp2_with fail
    go_ret
    exact ⟨rfl, below_drewN ((Below.refl _ _).alloc (Nat.le_refl _) _) _⟩
  by_cases ht : t.toList = []
  case neg =>
    rw [nilB_not ht] at hB
    obtain rfl : B = true := by rw [hB]; simp [*]
    clear hB
    go_enter Tryz.func114, Tryz.ntmps114
    simp only [List.append_eq, List.cons_append, List.nil_append]
    go_wp2_with fail
    go_quiet (fail)
    go_wp2_with fail
    go_ret
    exact ⟨rfl, below_drewN ((Below.refl _ _).alloc (Nat.le_refl _) _) _⟩
  rw [nilB_of ht] at hB
  rcases Nat.eq_zero_or_pos pl with rfl | ppl
  case inr =>
    have qpl : (0 : Int) < pl := by omega
    obtain rfl : B = true := by rw [hB]; simp [*]
    clear hB
    go_enter Tryz.func114, Tryz.ntmps114
    simp only [List.append_eq, List.cons_append, List.nil_append]
    go_wp2_with fail
    go_quiet (fail)
    go_wp2_with fail
    go_ret
    exact ⟨rfl, below_drewN ((Below.refl _ _).alloc (Nat.le_refl _) _) _⟩
  by_cases htm : tm = 0
  case neg =>
    have qtm : (tm != 0) = true := by rw [bne_iff_ne]; exact htm
    clear htm
    obtain rfl : B = true := by rw [hB]; simp [*]
    clear hB
    go_enter Tryz.func114, Tryz.ntmps114
    simp only [List.append_eq, List.cons_append, List.nil_append]
    go_wp2_with fail
    go_quiet (fail)
    go_wp2_with fail
    go_ret
    exact ⟨rfl, below_drewN ((Below.refl _ _).alloc (Nat.le_refl _) _) _⟩
  subst htm
  by_cases hta : ta.toList = []
  case neg =>
    rw [nilB_not hta] at hB
    obtain rfl : B = true := by rw [hB]; simp [*]
    clear hB
    go_enter Tryz.func114, Tryz.ntmps114
    simp only [List.append_eq, List.cons_append, List.nil_append]
    go_wp2_with fail
    go_quiet (fail)
    go_wp2_with fail
    go_ret
    exact ⟨rfl, below_drewN ((Below.refl _ _).alloc (Nat.le_refl _) _) _⟩
  rw [nilB_of hta] at hB
  by_cases hwh : wh.toList = []
  case neg =>
    rw [nilB_not hwh] at hB
    obtain rfl : B = true := by rw [hB]; simp [*]
    clear hB
    go_enter Tryz.func114, Tryz.ntmps114
    simp only [List.append_eq, List.cons_append, List.nil_append]
    go_wp2_with fail
    go_quiet (fail)
    go_wp2_with fail
    go_ret
    exact ⟨rfl, below_drewN ((Below.refl _ _).alloc (Nat.le_refl _) _) _⟩
  rw [nilB_of hwh] at hB
  by_cases hno : no.toList = []
  case neg =>
    rw [nilB_not hno] at hB
    have eno : no.toList.isEmpty = false := by simpa using hno
    obtain rfl : B = true := by rw [hB]; simp [*]
    clear hB
    go_enter Tryz.func114, Tryz.ntmps114
    simp only [List.append_eq, List.cons_append, List.nil_append]
    go_wp2_with fail
    go_quiet (fail)
    go_wp2_with fail
    go_ret
    exact ⟨rfl, below_drewN ((Below.refl _ _).alloc (Nat.le_refl _) _) _⟩
  rw [nilB_of hno] at hB
  obtain rfl : B = false := by rw [hB]; simp [*]
  clear hB
  go_enter Tryz.func114, Tryz.ntmps114
  simp only [List.append_eq, List.cons_append, List.nil_append]
  go_wp2_with fail
  go_quiet (fail)
  go_wp2_with fail
  go_ret
  exact ⟨rfl, below_drewN ((Below.refl _ _).alloc (Nat.le_refl _) _) _⟩
set_option maxRecDepth 100000 in
set_option maxHeartbeats 2000000 in
theorem stray2 (d t wh no ta : ByteArray) (el pl ec pc : Nat) (EA PA : Option Addr) (tm : Int) (B : Bool) (hB : B = (!nilB d || !nilB t || decide (0 < pl) || tm != 0 || !nilB ta || !nilB wh || !nilB no)) (w : World) :
    Calls Tryz.prog 114 #[.agg #[.int .i64 2, .string d, .slice EA el ec, .string t, .slice PA pl pc, .string wh, .string no, .int .i64 tm, .string ta]] w
      fun e w' => e = .returned (.bool B) ∧ Below w.heap.size w w' := by
  by_cases hd : d.toList = []
  case neg =>
    rw [nilB_not hd] at hB
    obtain rfl : B = true := by rw [hB]; simp [*]
    clear hB
    go_enter Tryz.func114, Tryz.ntmps114
    simp only [List.append_eq, List.cons_append, List.nil_append]
    go_wp2_with fail
    go_quiet (fail)
    go_wp2_with fail
    go_ret
    exact ⟨rfl, below_drewN ((Below.refl _ _).alloc (Nat.le_refl _) _) _⟩
  rw [nilB_of hd] at hB
  by_cases ht : t.toList = []
  case neg =>
    rw [nilB_not ht] at hB
    obtain rfl : B = true := by rw [hB]; simp [*]
    clear hB
    go_enter Tryz.func114, Tryz.ntmps114
    simp only [List.append_eq, List.cons_append, List.nil_append]
    go_wp2_with fail
    go_quiet (fail)
    go_wp2_with fail
    go_ret
    exact ⟨rfl, below_drewN ((Below.refl _ _).alloc (Nat.le_refl _) _) _⟩
  rw [nilB_of ht] at hB
  rcases Nat.eq_zero_or_pos pl with rfl | ppl
  case inr =>
    have qpl : (0 : Int) < pl := by omega
    obtain rfl : B = true := by rw [hB]; simp [*]
    clear hB
    go_enter Tryz.func114, Tryz.ntmps114
    simp only [List.append_eq, List.cons_append, List.nil_append]
    go_wp2_with fail
    go_quiet (fail)
    go_wp2_with fail
    go_ret
    exact ⟨rfl, below_drewN ((Below.refl _ _).alloc (Nat.le_refl _) _) _⟩
  by_cases htm : tm = 0
  case neg =>
    have qtm : (tm != 0) = true := by rw [bne_iff_ne]; exact htm
    clear htm
    obtain rfl : B = true := by rw [hB]; simp [*]
    clear hB
    go_enter Tryz.func114, Tryz.ntmps114
    simp only [List.append_eq, List.cons_append, List.nil_append]
    go_wp2_with fail
    go_quiet (fail)
    go_wp2_with fail
    go_ret
    exact ⟨rfl, below_drewN ((Below.refl _ _).alloc (Nat.le_refl _) _) _⟩
  subst htm
  by_cases hta : ta.toList = []
  case neg =>
    rw [nilB_not hta] at hB
    obtain rfl : B = true := by rw [hB]; simp [*]
    clear hB
    go_enter Tryz.func114, Tryz.ntmps114
    simp only [List.append_eq, List.cons_append, List.nil_append]
    go_wp2_with fail
    go_quiet (fail)
    go_wp2_with fail
    go_ret
    exact ⟨rfl, below_drewN ((Below.refl _ _).alloc (Nat.le_refl _) _) _⟩
  rw [nilB_of hta] at hB
  by_cases hwh : wh.toList = []
  case neg =>
    rw [nilB_not hwh] at hB
    obtain rfl : B = true := by rw [hB]; simp [*]
    clear hB
    go_enter Tryz.func114, Tryz.ntmps114
    simp only [List.append_eq, List.cons_append, List.nil_append]
    go_wp2_with fail
    go_quiet (fail)
    go_wp2_with fail
    go_ret
    exact ⟨rfl, below_drewN ((Below.refl _ _).alloc (Nat.le_refl _) _) _⟩
  rw [nilB_of hwh] at hB
  by_cases hno : no.toList = []
  case neg =>
    rw [nilB_not hno] at hB
    have eno : no.toList.isEmpty = false := by simpa using hno
    obtain rfl : B = true := by rw [hB]; simp [*]
    clear hB
    go_enter Tryz.func114, Tryz.ntmps114
    simp only [List.append_eq, List.cons_append, List.nil_append]
    go_wp2_with fail
    go_quiet (fail)
    go_wp2_with fail
    go_ret
    exact ⟨rfl, below_drewN ((Below.refl _ _).alloc (Nat.le_refl _) _) _⟩
  rw [nilB_of hno] at hB
  obtain rfl : B = false := by rw [hB]; simp [*]
  clear hB
  go_enter Tryz.func114, Tryz.ntmps114
  simp only [List.append_eq, List.cons_append, List.nil_append]
  go_wp2_with fail
  go_quiet (fail)
  go_wp2_with fail
  go_ret
  exact ⟨rfl, below_drewN ((Below.refl _ _).alloc (Nat.le_refl _) _) _⟩
set_option maxRecDepth 100000 in
set_option maxHeartbeats 2000000 in
theorem stray3 (d t wh no ta : ByteArray) (el pl ec pc : Nat) (EA PA : Option Addr) (tm : Int) (B : Bool) (hB : B = (!nilB d || decide (0 < el) || !nilB ta)) (w : World) :
    Calls Tryz.prog 114 #[.agg #[.int .i64 3, .string d, .slice EA el ec, .string t, .slice PA pl pc, .string wh, .string no, .int .i64 tm, .string ta]] w
      fun e w' => e = .returned (.bool B) ∧ Below w.heap.size w w' := by
  by_cases hd : d.toList = []
  case neg =>
    rw [nilB_not hd] at hB
    obtain rfl : B = true := by rw [hB]; simp [*]
    clear hB
    go_enter Tryz.func114, Tryz.ntmps114
    simp only [List.append_eq, List.cons_append, List.nil_append]
    go_wp2_with fail
    go_quiet (fail)
    go_wp2_with fail
    go_ret
    exact ⟨rfl, below_drewN ((Below.refl _ _).alloc (Nat.le_refl _) _) _⟩
  rw [nilB_of hd] at hB
  rcases Nat.eq_zero_or_pos el with rfl | pel
  case inr =>
    have qel : (0 : Int) < el := by omega
    obtain rfl : B = true := by rw [hB]; simp [*]
    clear hB
    go_enter Tryz.func114, Tryz.ntmps114
    simp only [List.append_eq, List.cons_append, List.nil_append]
    go_wp2_with fail
    go_quiet (fail)
    go_wp2_with fail
    go_ret
    exact ⟨rfl, below_drewN ((Below.refl _ _).alloc (Nat.le_refl _) _) _⟩
  by_cases hta : ta.toList = []
  case neg =>
    rw [nilB_not hta] at hB
    obtain rfl : B = true := by rw [hB]; simp [*]
    clear hB
    go_enter Tryz.func114, Tryz.ntmps114
    simp only [List.append_eq, List.cons_append, List.nil_append]
    go_wp2_with fail
    go_quiet (fail)
    go_wp2_with fail
    go_ret
    exact ⟨rfl, below_drewN ((Below.refl _ _).alloc (Nat.le_refl _) _) _⟩
  rw [nilB_of hta] at hB
  obtain rfl : B = false := by rw [hB]; simp [*]
  clear hB
  go_enter Tryz.func114, Tryz.ntmps114
  simp only [List.append_eq, List.cons_append, List.nil_append]
  go_wp2_with fail
  go_quiet (fail)
  go_wp2_with fail
  go_ret
  exact ⟨rfl, below_drewN ((Below.refl _ _).alloc (Nat.le_refl _) _) _⟩
set_option maxRecDepth 100000 in
set_option maxHeartbeats 2000000 in
theorem stray4 (d t wh no ta : ByteArray) (el pl ec pc : Nat) (EA PA : Option Addr) (tm : Int) (B : Bool) (hB : B = (!nilB d || decide (0 < el) || !nilB t || decide (0 < pl) || tm != 0)) (w : World) :
    Calls Tryz.prog 114 #[.agg #[.int .i64 4, .string d, .slice EA el ec, .string t, .slice PA pl pc, .string wh, .string no, .int .i64 tm, .string ta]] w
      fun e w' => e = .returned (.bool B) ∧ Below w.heap.size w w' := by
  by_cases hd : d.toList = []
  case neg =>
    rw [nilB_not hd] at hB
    obtain rfl : B = true := by rw [hB]; simp [*]
    clear hB
    go_enter Tryz.func114, Tryz.ntmps114
    simp only [List.append_eq, List.cons_append, List.nil_append]
    go_wp2_with fail
    go_quiet (fail)
    go_wp2_with fail
    go_ret
    exact ⟨rfl, below_drewN ((Below.refl _ _).alloc (Nat.le_refl _) _) _⟩
  rw [nilB_of hd] at hB
  rcases Nat.eq_zero_or_pos el with rfl | pel
  case inr =>
    have qel : (0 : Int) < el := by omega
    obtain rfl : B = true := by rw [hB]; simp [*]
    clear hB
    go_enter Tryz.func114, Tryz.ntmps114
    simp only [List.append_eq, List.cons_append, List.nil_append]
    go_wp2_with fail
    go_quiet (fail)
    go_wp2_with fail
    go_ret
    exact ⟨rfl, below_drewN ((Below.refl _ _).alloc (Nat.le_refl _) _) _⟩
  by_cases ht : t.toList = []
  case neg =>
    rw [nilB_not ht] at hB
    obtain rfl : B = true := by rw [hB]; simp [*]
    clear hB
    go_enter Tryz.func114, Tryz.ntmps114
    simp only [List.append_eq, List.cons_append, List.nil_append]
    go_wp2_with fail
    go_quiet (fail)
    go_wp2_with fail
    go_ret
    exact ⟨rfl, below_drewN ((Below.refl _ _).alloc (Nat.le_refl _) _) _⟩
  rw [nilB_of ht] at hB
  rcases Nat.eq_zero_or_pos pl with rfl | ppl
  case inr =>
    have qpl : (0 : Int) < pl := by omega
    obtain rfl : B = true := by rw [hB]; simp [*]
    clear hB
    go_enter Tryz.func114, Tryz.ntmps114
    simp only [List.append_eq, List.cons_append, List.nil_append]
    go_wp2_with fail
    go_quiet (fail)
    go_wp2_with fail
    go_ret
    exact ⟨rfl, below_drewN ((Below.refl _ _).alloc (Nat.le_refl _) _) _⟩
  by_cases htm : tm = 0
  case neg =>
    have qtm : (tm != 0) = true := by rw [bne_iff_ne]; exact htm
    clear htm
    obtain rfl : B = true := by rw [hB]; simp [*]
    clear hB
    go_enter Tryz.func114, Tryz.ntmps114
    simp only [List.append_eq, List.cons_append, List.nil_append]
    go_wp2_with fail
    go_quiet (fail)
    go_wp2_with fail
    go_ret
    exact ⟨rfl, below_drewN ((Below.refl _ _).alloc (Nat.le_refl _) _) _⟩
  subst htm
  obtain rfl : B = false := by rw [hB]; simp [*]
  clear hB
  go_enter Tryz.func114, Tryz.ntmps114
  simp only [List.append_eq, List.cons_append, List.nil_append]
  go_wp2_with fail
  go_quiet (fail)
  go_wp2_with fail
  go_ret
  exact ⟨rfl, below_drewN ((Below.refl _ _).alloc (Nat.le_refl _) _) _⟩
end Go.Proofs.YtmikfmcgddmplaaGreatDoor
