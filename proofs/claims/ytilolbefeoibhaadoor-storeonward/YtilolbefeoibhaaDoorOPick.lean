/- Texts in one: StLoad, DkCrash, DkSave, StPut, OPick. -/
import Derived.Test.YtilolbefeoibhaaDoorStGet
import Derived.Test.YtilolbefeoibhaaDoorOEncB
import Derived.Test.YtilolbefeoibhaaDoorProg
import Derived.Test.YtilolbefeoibhaaDoorMem
/- store.onDisk, its getter, load at it, has: contracts. -/
namespace Go.Proofs.YtilolbefeoibhaaDoor
open Go.RowKit

theorem arr_in {w : World} {g : Nat} {ty : TypeId} {cs : Array Value} (h : Arr w g ty cs) {a : Addr} {v : Value} (hc : w.cell? a = some v) (hb : a.block = g) : ∃ i : Nat, cs[i]? = some v := by
  unfold World.cell? at hc
  unfold Arr at h
  rw [hb, h] at hc
  simp only at hc
  split at hc
  · cases hc
  · exact ⟨_, hc⟩
theorem func_eq_nil (F : Fn) (t c : Array Value) (w : World) : (binOp .eql 68 (.func F t c) .nilFunc).run Tryd.prog w = .ok (.bool false) w := by
  kernel_rfl
attribute [local go_sem] func_eq_nil
theorem zeroO_in : ∀ (i : Nat) (v : Value), zeroO[i]? = some v → (∀ b, v ≠ .bool b) ∧ (∀ s, v = .string s → s = ⟨#[]⟩)
  | 0, v, h => by simp [zeroO] at h; subst h; simp
  | 1, v, h => by simp [zeroO] at h; subst h; simp
  | 2, v, h => by simp [zeroO] at h; subst h; simp
  | 3, v, h => by simp [zeroO] at h; subst h; simp
  | 4, v, h => by simp [zeroO] at h; subst h; simp
  | 5, v, h => by simp [zeroO] at h; subst h; simp
  | 6, v, h => by simp [zeroO] at h; subst h; simp
  | 7, v, h => by simp [zeroO] at h; subst h; simp
  | 8, v, h => by simp [zeroO] at h; subst h; simp
  | n + 9, v, h => by simp [zeroO] at h
/-- an object in memory, and an empty result elsewhere that is filled -/
theorem ObIn.off {w w' : World} {B r : Nat} {o : Ob} {p : At} (h : ObIn w B o p) (hr : Arr w r 45 zeroO) (hp : ∀ x ∈ o.pars, x.size = 32) (hB : B ≤ w'.heap.size) (k : w.grownBy w' (some r)) : ObIn w' w'.heap.size o p := by
  refine ⟨fun i x hx => ?_, fun i x hx => ?_, h.room⟩
  · obtain ⟨ad, e, hb, h0, h1, h2⟩ := h.ents i x hx
    have hn : ¬ some (ad.add (i * 3)).block = some r := fun q => by
      obtain ⟨j, hj⟩ := arr_in hr h1 (Option.some.inj q)
      exact (zeroO_in _ _ hj).1 _ rfl
    exact ⟨ad, e, Nat.lt_of_lt_of_le hb hB, k.cell h0 hn, k.cell h1 hn, k.cell h2 hn⟩
  · obtain ⟨ad, e, hb, h0⟩ := h.pars i x hx
    have hn : ¬ some (ad.add i).block = some r := fun q => by
      obtain ⟨j, hj⟩ := arr_in hr h0 (Option.some.inj q)
      have e0 := (zeroO_in _ _ hj).2 _ rfl
      have e1 := hp x (List.mem_of_getElem? hx)
      rw [e0] at e1
      exact absurd e1 (by decide)
    exact ⟨ad, e, Nat.lt_of_lt_of_le hb hB, k.cell h0 hn⟩
theorem dec_pars {l : List UInt8} : ∀ x ∈ (decO l).1.pars, x.size = 32 := fun x hx => by
  by_cases h : (decO l).2 = 0
  · exact parsE_all _ _ (good_facts (dec_only h).2.1).ids x hx
  · rw [dec_none h] at hx
    cases hx
/-- what onDisk hands back, and what it keeps -/
def OdEnd (w : World) (L : List Fl) (A : Option Addr) (c : Nat) (z : Int) (x : Ending) (w' : World) : Prop :=
  x = .returned (.func (.func 56) #[] #[.pointer (some ⟨w.heap.size, 0, none⟩)]) ∧ Arr w' w.heap.size 24 (dkArr L A c z) ∧ Below w.heap.size w w'
theorem onDisk_st (L : List Fl) (A : Option Addr) (c : Nat) (z : Int) (w : World) : Calls Tryd.prog 31 #[.agg (dkArr L A c z)] w (OdEnd w L A c z) := by
  have A0 : Arr (w.alloc (.cells (dkArr L A c z) 24)) w.heap.size 24 (dkArr L A c z) := Arr.new _ _ _
  have b0 : Below w.heap.size w (w.alloc (.cells (dkArr L A c z) 24)) := (Below.refl _ _).alloc (Nat.le_refl _) _
  go_enter Tryd.func31, Tryd.ntmps31
  go_wp2_with fail
  go_ret
  exact ⟨rfl, A0, b0⟩
theorem getter_st (L : List Fl) (id : ByteArray) (A : Option Addr) (c : Nat) (z : Int) (q : Nat) (w : World) (hq : Arr w q 24 (dkArr L A c z)) (hP : Fls w w.heap.size A L) (hz : Sized L) (hl : L.length ≤ 140737488355328) (ht : Tab w) :
    Calls Tryd.prog 56 #[.string id, .pointer (some ⟨q, 0, none⟩)] w fun e w' => e = .returned (.tuple #[.string (getO ⟨L, z⟩ id).1, .int .i64 (getO ⟨L, z⟩ id).2]) ∧ Below w.heap.size w w' := by
  have C := Lib.hid (Get_st L id A c z w hP hz hl ht)
  generalize getO ⟨L, z⟩ id = Q at *
  obtain ⟨s, e⟩ := Q
  have c0 : w.cell? ⟨q, 0, none⟩ = some (.slice A L.length c) := hq.cell 0
  have c1 : w.cell? ⟨q, 1, none⟩ = some (.int .i64 z) := hq.cell 1
  go_enter Tryd.func56, Tryd.ntmps56
  go_wp2_with fail
  (with_reducible refine C.out.mono ?_)
  rintro _ w1 ⟨rfl, b1⟩
  go_wp2_with fail
  go_ret2
  exact ⟨rfl, b1⟩
set_option maxRecDepth 100000 in
set_option maxHeartbeats 1000000 in
theorem load_disk (L : List Fl) (id : ByteArray) (A : Option Addr) (c : Nat) (z : Int) (q : Nat) (w : World) (hq : Arr w q 24 (dkArr L A c z)) (hP : Fls w w.heap.size A L) (hz : Sized L) (hl : L.length ≤ 140737488355328) (ht : Tab w) :
    Calls Tryd.prog 22 #[.func (.func 56) #[] #[.pointer (some ⟨q, 0, none⟩)], .string id] w (DEndA w (loadR (getO ⟨L, z⟩ id)).1 (loadR (getO ⟨L, z⟩ id)).2) := by
  have CG := fun V a b d => Lib.hid (getter_st L id A c z q V a b hz hl d)
  generalize getO ⟨L, z⟩ id = Q at *
  obtain ⟨s, e⟩ := Q
  have HR0 : Hid (loadR (s, e) = if e ≠ 0 then (Ob.none, 7) else if (decO s.data.toList).2 ≠ 0 then (Ob.none, 2) else ((decO s.data.toList).1, 0)) := rfl
  have CD := fun V => Lib.hid (Decode_far s V)
  generalize loadR (s, e) = R at *
  have hpp : ∀ x ∈ (decO s.data.toList).1.pars, x.size = 32 := dec_pars
  generalize decO s.data.toList = D at *
  obtain ⟨o, e2⟩ := D
  have hp : ∀ x ∈ o.pars, x.size = 32 := hpp
  clear hpp
  have hqlt := hq.lt
  go_enter Tryd.func22, Tryd.ntmps22
  go_upto_region 1 with fail
  refine wp_forget (Dx w) ⟨Arr.new _ _ _, (Below.refl _ _).alloc (Nat.le_refl _) _⟩ ?_
  intro W hW
  have C1 : Hid (Calls Tryd.prog 56 #[.string id, .pointer (some ⟨q, 0, none⟩)] W fun x w' => x = .returned (.tuple #[.string s, .int .i64 e]) ∧ Below W.heap.size W w') := CG W (hq.below hW.2 hqlt) (hP.up hW.2) (ht.below hW.2 ht.1)
  clear CG
  go_wp2_with fail
  (with_reducible refine C1.out.mono ?_)
  clear C1
  rintro _ W1 ⟨rfl, b1⟩
  replace hW := hW.below b1
  clear b1 W
  by_cases he : e = 0
  case neg =>
    have hb : (e != 0) = true := by rw [bne_iff_ne]; exact he
    have HR : Hid (R = (Ob.none, 7)) := by show _ = _; rw [HR0.out, if_pos he]
    clear HR0 he
    go_wp2_with (refine wpList_store_row rfl 45 _ _ rfl w.heap.size (obArr Ob.none atNil) rfl rfl 45 zeroO hW.1 (obInfo _ _) rfl (obArr_one _ _) ?_)
    refine bodyPost_ret (v := .tuple #[.agg (obArr Ob.none atNil), .int .i64 7]) ?_ rfl (DEndA_eq HR.out (hW.noneA 7))
    rw [results_cell_tmp Tryd.results22]
    have hld := run_loadVar_row (P := Tryd.prog) _ _ _ 45 _ _ _ (hW.1.row (obArr Ob.none atNil)) Tryd.underlying45 rfl (obInfo Ob.none atNil)
    simp [asAddr, hld, Result.andThen]
  subst he
  have HR1 : Hid (R = if e2 ≠ 0 then (Ob.none, 2) else (o, 0)) := by show _ = _; rw [HR0.out, if_neg (fun h => h rfl)]
  clear HR0
  have C2 : Hid (Calls Tryd.prog 14 #[.string s] W1 (DEndA W1 o e2)) := CD W1
  clear CD
  go_wp2_with fail
  (with_reducible refine C2.out.mono ?_)
  clear C2
  rintro _ W2 ⟨p, rfl, hO, b1, hab⟩
  have hab2 : Above w.heap.size p := hab.mono (Nat.le_of_lt hW.1.lt)
  clear hab
  replace hW := hW.below b1
  clear b1 W1
  have hX : Arr ((W2.alloc (.cells zeroO 45)).setRow W2.heap.size (obArr o p)) W2.heap.size 45 (obArr o p) := (Arr.new _ _ _).row _
  have bb : Below W2.heap.size W2 ((W2.alloc (.cells zeroO 45)).setRow W2.heap.size (obArr o p)) := below_setRow ((Below.refl _ _).alloc (Nat.le_refl _) _) (Nat.le_refl _) _
  go_upto_region 7 with (refine wpList_store_row rfl 45 _ _ rfl W2.heap.size (obArr o p) rfl rfl 45 zeroO (Arr.new W2 _ _) (obInfo _ _) rfl (obArr_one _ _) ?_)
  refine wp_forget (fun W => Dx w W ∧ Arr W W2.heap.size 45 (obArr o p) ∧ ObIn W W2.heap.size o p ∧ w.heap.size < W2.heap.size) (by exact ⟨hW.below bb, hX, hO.below bb, hW.1.lt⟩) ?_
  clear hX bb hO hW
  generalize W2.heap.size = b at *
  clear W2
  rintro W ⟨hW, hX, hO, hlt⟩
  by_cases he : e2 = 0
  case neg =>
    have hb : (e2 != 0) = true := by rw [bne_iff_ne]; exact he
    have HR : Hid (R = (Ob.none, 2)) := by show _ = _; rw [HR1.out, if_pos he]
    clear HR1 he
    go_wp2_with (refine wpList_store_row rfl 45 _ _ rfl w.heap.size (obArr Ob.none atNil) rfl rfl 45 zeroO hW.1 (obInfo _ _) rfl (obArr_one _ _) ?_)
    refine bodyPost_ret (v := .tuple #[.agg (obArr Ob.none atNil), .int .i64 2]) ?_ rfl (DEndA_eq HR.out (hW.noneA 2))
    rw [results_cell_tmp Tryd.results22]
    have hld := run_loadVar_row (P := Tryd.prog) _ _ _ 45 _ _ _ (hW.1.row (obArr Ob.none atNil)) Tryd.underlying45 rfl (obInfo Ob.none atNil)
    simp [asAddr, hld, Result.andThen]
  subst he
  have HR : Hid (R = (o, 0)) := by show _ = _; rw [HR1.out, if_neg (fun h => h rfl)]
  clear HR1
  go_wp2_with (first | (refine wpList_load_row rfl 45 _ rfl b rfl 45 _ (0, 0) _ hX Tryd.underlying45 rfl (obInfo o p) ?_) | (refine wpList_store_row rfl 45 _ _ rfl w.heap.size (obArr o p) rfl rfl 45 zeroO hW.1 (obInfo _ _) rfl (obArr_one _ _) ?_))
  refine bodyPost_ret (v := .tuple #[.agg (obArr o p), .int .i64 0]) ?_ rfl (DEndA_eq HR.out ⟨p, rfl, ?_, below_setRow hW.2 (Nat.le_refl _) _, hab2⟩)
  · rw [results_cell_tmp Tryd.results22]
    have hld := run_loadVar_row (P := Tryd.prog) _ _ _ 45 _ _ _ (hW.1.row (obArr o p)) Tryd.underlying45 rfl (obInfo o p)
    simp [asAddr, hld, Result.andThen]
  · exact hO.off hW.1 hp (Nat.le_trans (Nat.le_of_lt hX.lt) (gb_row w.heap.size (obArr o p)).size) (gb_row _ _)
set_option maxRecDepth 100000 in
set_option maxHeartbeats 1000000 in
theorem has_st (L : List Fl) (id : ByteArray) (A : Option Addr) (c : Nat) (z : Int) (w : World) (hP : Fls w w.heap.size A L) (hz : Sized L) (hl : L.length ≤ 140737488355328) (ht : Tab w) :
    Calls Tryd.prog 15 #[.agg #[.slice A L.length c, .int .i64 z], .string id] w fun e w' => e = .returned (.bool (hasO ⟨L, z⟩ id)) ∧ Below w.heap.size w w' := by
  have A0 : Arr (w.alloc (.cells (dkArr L A c z) 24)) w.heap.size 24 (dkArr L A c z) := Arr.new _ _ _
  have b0 : Below w.heap.size w (w.alloc (.cells (dkArr L A c z) 24)) := (Below.refl _ _).alloc (Nat.le_refl _) _
  have HH : Hid (hasO ⟨L, z⟩ id = decide ((loadR (getO ⟨L, z⟩ id)).2 = 0)) := rfl
  have CO := fun V => Lib.hid (onDisk_st L A c z V)
  have CL := fun q V a b d => Lib.hid (load_disk L id A c z q V a b hz hl d)
  generalize loadR (getO ⟨L, z⟩ id) = R at *
  obtain ⟨o, e⟩ := R
  generalize hasO ⟨L, z⟩ id = H at *
  have HH' : Hid (H = decide (e = 0)) := HH
  clear HH
  go_enter Tryd.func15, Tryd.ntmps15
  go_upto_region 1 with fail
  refine wp_forget (fun V => Arr V w.heap.size 24 (dkArr L A c z) ∧ Below w.heap.size w V) (by exact ⟨A0, b0⟩) ?_
  clear A0 b0
  rintro V ⟨A0, b0⟩
  have c0 : V.cell? ⟨w.heap.size, 0, none⟩ = some (.slice A L.length c) := A0.cell 0
  have c1 : V.cell? ⟨w.heap.size, 1, none⟩ = some (.int .i64 z) := A0.cell 1
  have C1 : Hid (Calls Tryd.prog 31 #[.agg #[.slice A L.length c, .int .i64 z]] V (OdEnd V L A c z)) := CO V
  clear CO
  go_wp2_with fail
  (with_reducible refine C1.out.mono ?_)
  clear C1 c0 c1
  rintro _ V1 ⟨rfl, hq, b2⟩
  replace b0 := b0.trans (b2.mono b0.size)
  have C2 := CL V.heap.size V1 hq (hP.up b0) (ht.below b0 ht.1)
  clear CL b2 hq
  generalize V.heap.size = q at *
  go_wp2_with fail
  (with_reducible refine C2.out.mono ?_)
  clear C2
  rintro _ V2 ⟨p, rfl, hO, b2, _⟩
  replace b0 := b0.trans (b2.mono b0.size)
  clear b2 hO
  have bb : Below w.heap.size w ((V2.alloc (.cells zeroO 45)).setRow V2.heap.size (obArr o p)) := b0.trans ((below_setRow ((Below.refl _ _).alloc (Nat.le_refl _) _) (Nat.le_refl _) _).mono b0.size)
  go_upto_region 2 with (refine wpList_store_row rfl 45 _ _ rfl V2.heap.size (obArr o p) rfl rfl 45 zeroO (Arr.new V2 _ _) (obInfo _ _) rfl (obArr_one _ _) ?_)
  refine wp_forget (fun W => Below w.heap.size w W) (by exact bb) ?_
  clear bb b0 A0
  intro W b0
  by_cases he : e = 0
  · subst he
    go_wp2_with fail
    go_ret
    exact ⟨by rw [HH'.out]; rfl, b0⟩
  · have hb : (e == 0) = false := by rw [beq_eq_false_iff_ne]; exact he
    have HQ : Hid (H = false) := by show _ = _; rw [HH'.out, decide_eq_false he]
    clear HH' he
    go_wp2_with fail
    go_ret
    exact ⟨by rw [HQ.out]; rfl, b0⟩
end Go.Proofs.YtilolbefeoibhaaDoor

/- disk.Crash: its contract. -/
namespace Go.Proofs.YtilolbefeoibhaaDoor
open Go.RowKit

def zeroFl : Fl := ⟨⟨#[]⟩, ⟨#[]⟩, ⟨#[]⟩⟩
theorem cells_zero : ∀ n : Nat, flCells (List.replicate n zeroFl) = List.replicate (n * 3) (.string ⟨#[]⟩)
  | 0 => rfl
  | n + 1 => by
    rw [List.replicate_succ, flCells, cells_zero n, show (n + 1) * 3 = n * 3 + 1 + 1 + 1 from by omega]
    rfl
theorem made_zero (n : Nat) : (madeCells flZero (n * 3)).toList = flCells (List.replicate n zeroFl) := by
  rw [cells_zero]
  apply List.ext_getElem?
  intro j
  by_cases hj : j < n * 3
  · rw [List.getElem?_replicate, if_pos hj]
    have hm : j % 3 = 0 ∨ j % 3 = 1 ∨ j % 3 = 2 := by omega
    have e : flZero[j % flZero.size]! = .string ⟨#[]⟩ := by
      show flZero[j % 3]! = _
      rcases hm with m | m | m <;> rw [m] <;> rfl
    simp [madeCells, hj, e]
  · rw [List.getElem?_eq_none (by simp [madeCells]; omega), List.getElem?_eq_none (by simp; omega)]
/-- the first k files as a crash leaves them, the others not made yet -/
def mix (L : List Fl) (m k : Nat) : List Fl := (L.take k).map (crashF m) ++ List.replicate (L.length - k) zeroFl
theorem mix_len (L : List Fl) (m k : Nat) (h : k ≤ L.length) : (mix L m k).length = L.length := by
  unfold mix
  rw [List.length_append, List.length_map, List.length_take, List.length_replicate]
  omega
theorem mix_set {L : List Fl} {m k : Nat} {x : Fl} (h : L[k]? = some x) : (mix L m k).set k (crashF m x) = mix L m (k + 1) := by
  obtain ⟨hlt, he⟩ := List.getElem?_eq_some_iff.1 h
  unfold mix
  have hl : ((L.take k).map (crashF m)).length = k := by rw [List.length_map, List.length_take]; omega
  rw [List.set_append_right _ _ (by omega), hl, Nat.sub_self, List.take_succ_eq_append_getElem hlt, he, List.map_append, List.append_assoc, show L.length - k = (L.length - (k + 1)) + 1 from by omega, List.replicate_succ, List.set_cons_zero]
  rfl
def CrRel (L : List Fl) (m : Nat) (A : Option Addr) (c : Nat) (z : Int) (w : World) (g : Nat) (i : Value) (wr : World) : Prop :=
  ∃ k : Nat, k ≤ L.length ∧ i = .int .i64 (k : Int) ∧ Arr wr w.heap.size 24 (dkArr L A c z) ∧ Arr wr (w.heap.size + 1) 24 dkZero ∧ Arr wr g 52 (flCells (mix L m k)).toArray ∧ Below w.heap.size w wr
set_option maxRecDepth 100000 in
set_option maxHeartbeats 2000000 in
theorem Crash_any (L : List Fl) (keep : Int) (hk2 : keep ≤ 9223372036854775807) (A : Option Addr) (c : Nat) (z : Int) (w : World) (hP : Fls w w.heap.size A L) (hz : Sized L) (hl : L.length ≤ 140737488355328) (hc : L.length ≤ c) :
    Calls Tryd.prog 8 #[.agg #[.slice A L.length c, .int .i64 z], .int .i64 keep] w (StEnd w (crashD ⟨L, z⟩ keep)) := by
  obtain ⟨si, hsi, sz0, sz1, sz2⟩ := info_parts info_file
  have Hsi := Lib.hid hsi
  have Sz0 := Lib.hid sz0
  have Sz1 := Lib.hid sz1
  have Sz2 := Lib.hid sz2
  clear hsi sz0 sz1 sz2
  have A0 : Arr ((w.alloc (.cells (dkArr L A c z) 24)).alloc (.cells dkZero 24)) w.heap.size 24 (dkArr L A c z) := (Arr.new _ _ _).alloc _
  have A1 : Arr ((w.alloc (.cells (dkArr L A c z) 24)).alloc (.cells dkZero 24)) (w.heap.size + 1) 24 dkZero := Arr.new_at _ _ _ (by simp)
  have b0 : Below w.heap.size w ((w.alloc (.cells (dkArr L A c z) 24)).alloc (.cells dkZero 24)) := ((Below.refl _ _).alloc (Nat.le_refl _) _).alloc (by simp) _
  have HS : Hid (crashD ⟨L, z⟩ keep = if !goodD L || decide (keep < 0) then (⟨L, z⟩, 3) else (⟨L.map (crashF keep.toNat), -1⟩, 0)) := rfl
  generalize crashD ⟨L, z⟩ keep = Q at *
  go_enter Tryd.func8, Tryd.ntmps8
  go_upto_region 1 with fail
  refine wp_forget (fun V => Arr V w.heap.size 24 (dkArr L A c z) ∧ Arr V (w.heap.size + 1) 24 dkZero ∧ Below w.heap.size w V) (by exact ⟨A0, A1, b0⟩) ?_
  clear A0 A1 b0
  rintro V ⟨A0, A1, b0⟩
  have c0 : V.cell? ⟨w.heap.size, 0, none⟩ = some (.slice A L.length c) := A0.cell 0
  have c1 : V.cell? ⟨w.heap.size, 1, none⟩ = some (.int .i64 z) := A0.cell 1
  have CG : Hid (Calls Tryd.prog 18 #[.agg #[.slice A L.length c, .int .i64 z]] V fun e w' => e = .returned (.bool (goodD L)) ∧ Below V.heap.size V w') := DkGood_any L A c z V (hP.up b0) hz hl
  have HRet : Hid (∀ (W : World) (a : Act) (d : Dk) (A' : Option Addr) (c' : Nat) (e : Int), Arr W (w.heap.size + 1) 24 (dkArr d.files A' c' d.fuse) → Below w.heap.size w W → Fls W W.heap.size A' d.files → d.files.length ≤ c' → a.tmps[4]? = some (.pointer (some ⟨w.heap.size + 1, 0, none⟩)) → a.tmps[5]? = some (.int .i64 e) → a.defers = [] → bodyPost Tryd.prog Tryd.f8 (StEnd w (d, e)) .ret a W) := fun W a d A' c' e h1 h2 h3 h4 h5 h6 h7 => by
    refine bodyPost_ret (v := .tuple #[.agg (dkArr d.files A' c' d.fuse), .int .i64 e]) ?_ h7 ⟨A', c', rfl, h3, h4, h2⟩
    rw [results_cell_tmp Tryd.results8]
    have hld := run_loadVar_row (P := Tryd.prog) _ _ _ 24 _ _ _ h1 Tryd.underlying24 rfl (dkInfo _ _ _ _)
    simp [Array.getD_eq_getD_getElem?, h5, h6, asAddr, hld, Result.andThen]
  cases hg : goodD L with
  | false =>
    rw [hg] at CG
    have HQ : Hid (Q = (⟨L, z⟩, 3)) := by show _ = _; rw [HS.out, hg]; rfl
    clear HS hg
    go_wp2_with fail
    (with_reducible refine CG.out.mono ?_)
    clear CG c0 c1
    rintro _ V2 ⟨rfl, b2⟩
    have A2 := A0.below b2 A0.lt
    have A3 := A1.below b2 A1.lt
    have b3 := b0.trans (b2.mono b0.size)
    have c0 : V2.cell? ⟨w.heap.size, 0, none⟩ = some (.slice A L.length c) := A2.cell 0
    have c1 : V2.cell? ⟨w.heap.size, 1, none⟩ = some (.int .i64 z) := A2.cell 1
    go_wp2_with (refine wpList_store_row rfl 24 _ _ rfl (w.heap.size + 1) (dkArr L A c z) rfl rfl 24 dkZero A3 (dkInfo _ _ _ _) rfl (dkArr_one _ _ _ _) ?_)
    rw [HQ.out]
    have b4 := below_setRow b3 (show w.heap.size ≤ w.heap.size + 1 by omega) (dkArr L A c z)
    exact HRet.out _ _ ⟨L, z⟩ A c 3 (A3.row _) b4 (hP.up b4) hc rfl rfl rfl
  | true =>
    rw [hg] at CG
    by_cases h0 : keep < 0
    · have HQ : Hid (Q = (⟨L, z⟩, 3)) := by show _ = _; rw [HS.out, hg, decide_eq_true h0]; rfl
      clear HS hg
      go_wp2_with fail
      (with_reducible refine CG.out.mono ?_)
      clear CG c0 c1
      rintro _ V2 ⟨rfl, b2⟩
      have A2 := A0.below b2 A0.lt
      have A3 := A1.below b2 A1.lt
      have b3 := b0.trans (b2.mono b0.size)
      have c0 : V2.cell? ⟨w.heap.size, 0, none⟩ = some (.slice A L.length c) := A2.cell 0
      have c1 : V2.cell? ⟨w.heap.size, 1, none⟩ = some (.int .i64 z) := A2.cell 1
      go_wp2_with (refine wpList_store_row rfl 24 _ _ rfl (w.heap.size + 1) (dkArr L A c z) rfl rfl 24 dkZero A3 (dkInfo _ _ _ _) rfl (dkArr_one _ _ _ _) ?_)
      rw [HQ.out]
      have b4 := below_setRow b3 (show w.heap.size ≤ w.heap.size + 1 by omega) (dkArr L A c z)
      exact HRet.out _ _ ⟨L, z⟩ A c 3 (A3.row _) b4 (hP.up b4) hc rfl rfl rfl
    have HQ : Hid (Q = (⟨L.map (crashF keep.toNat), -1⟩, 0)) := by show _ = _; rw [HS.out, hg, decide_eq_false h0]; rfl
    obtain ⟨h4, _, hall⟩ := (goodD_iff L).1 hg
    have HAll : Hid (∀ f ∈ L, f.safe.size + f.tail.size ≤ 1048576) := fun f hf => by
      have := (hall f hf).2
      unfold fits at this
      exact of_decide_eq_true this
    obtain ⟨m, hm⟩ := Int.eq_ofNat_of_zero_le (show 0 ≤ keep by omega)
    subst hm
    rw [Int.toNat_natCast] at HQ
    clear HS hg h0 hall
    have h0 : ¬ (m : Int) < 0 := by omega
    go_wp2_with fail
    (with_reducible refine CG.out.mono ?_)
    clear CG c0 c1
    rintro _ V2 ⟨rfl, b2⟩
    have A2 := A0.below b2 A0.lt
    have A3 := A1.below b2 A1.lt
    have b3 := b0.trans (b2.mono b0.size)
    clear A0 A1 b0 b2
    have c0 : V2.cell? ⟨w.heap.size, 0, none⟩ = some (.slice A L.length c) := A2.cell 0
    have c1 : V2.cell? ⟨w.heap.size, 1, none⟩ = some (.int .i64 z) := A2.cell 1
    go_upto_region 4 with (at_make; refine wpList_make_full _ rfl _ _ 22 rfl V2.heap.size 52 si _ 3 Tryd.underlying22 Hsi.out Sz0.out Sz1.out _ _ _ _ L.length rfl rfl rfl rfl (by rw [Sz2.out]; omega) (by unfold maxLen; omega) (Nat.le_refl _) ?_)
    intro w1 hown hgrow
    have hb1 : Below V2.heap.size V2 w1 := (Below.refl _ _).grown hgrow (Nat.le_refl _) (by intro k hk; cases hk)
    have hA : Arr w1 V2.heap.size 52 (flCells (mix L m 0)).toArray := by
      rcases hown.2 with ⟨h', _⟩ | ⟨g', cap', cur, h', hb, hg, hnc, hcm, hcs, htake⟩
      · simp at h'
      · simp only [Value.slice.injEq, Option.some.injEq, Addr.mk.injEq, and_true, true_and] at h'
        obtain ⟨rfl, rfl⟩ := h'
        have e : cur = (flCells (mix L m 0)).toArray := by
          apply Array.ext'
          rw [List.take_of_length_le (by simp [hcs])] at htake
          rw [htake]
          have : mix L m 0 = List.replicate L.length zeroFl := by simp [mix]
          rw [this, List.toList_toArray, ← made_zero]
          rfl
        rw [← e]
        exact hg
    have A4 := A2.below hb1 A2.lt
    have A5 := A3.below hb1 A3.lt
    have b5 := b3.trans (hb1.mono b3.size)
    have hgq : w.heap.size + 1 < V2.heap.size := A3.lt
    have h1 : Hid (CrRel L m A c z w V2.heap.size (.int .i64 0) w1) := ⟨0, Nat.zero_le _, rfl, A4, A5, hA, b5⟩
    have d0 : w1.cell? ⟨w.heap.size, 0, none⟩ = some (.slice A L.length c) := A4.cell 0
    have hbg := b3.size
    clear hown hgrow hb1 hA A4 A5 A2 A3 c0 c1 b3 b5
    generalize V2.heap.size = g at *
    go_wp2_with fail
    go_loopw [25] (fun i wr => CrRel L m A c z w g i wr) (fun i _ => L.length - (intOf i).toNat)
    case atStart => exact h1.out
    case round =>
      clear h1 d0
      clear w1
      obtain ⟨k, hk, rfl, A4, A5, G, bel⟩ := hrel
      by_cases hlt : k < L.length
      · have hj : (k : Int) < L.length := by omega
        have hx : L[k]? = some L[k] := List.getElem?_eq_getElem hlt
        obtain ⟨ad, rfl, hbl, h0', h1, h2⟩ := hP k L[k] hx
        have g0 := (bel.cell hbl).trans h0'
        have g1 := (bel.cell (p := ⟨(ad.add (k * 3)).block, (ad.add (k * 3)).off + 1, none⟩) hbl).trans h1
        have g2 := (bel.cell (p := ⟨(ad.add (k * 3)).block, (ad.add (k * 3)).off + 2, none⟩) hbl).trans h2
        have hs := HAll.out L[k] (List.getElem_mem hlt)
        have HX := Lib.hid hx
        have hml := mix_len L m k hk
        clear h0' h1 h2 hx
        have HSet := Lib.hid (mix_set (m := m) HX.out)
        have HT := Lib.hid (take_set3 (f' := crashF m L[k]) (C := flCells (mix L m k)) (L := mix L m k) (i := k) (cap := L.length) (List.take_of_length_le (by rw [flCells_len]; exact Nat.le_refl _)) (by rw [flCells_len, hml]) (by rw [hml]; exact Nat.le_refl _) (by rw [hml]; exact hlt))
        generalize L[k] = x at *
        have bb : Below wr.heap.size wr ((wr.alloc (.cells flZero 52)).setRow wr.heap.size (flArr x)) := below_setRow ((Below.refl _ _).alloc (Nat.le_refl _) _) (Nat.le_refl _) _
        have AX : Arr ((wr.alloc (.cells flZero 52)).setRow wr.heap.size (flArr x)) wr.heap.size 52 (flArr x) := (Arr.new _ _ _).row _
        have hgl := G.lt
        go_upto_region 7 with (refine wpList_store_row rfl 52 _ _ rfl wr.heap.size (flArr x) rfl rfl 52 flZero (Arr.new wr _ _) (flInfo _) rfl (flArr_one _) ?_)
        refine wp_forget (fun W => Arr W w.heap.size 24 (dkArr L (some ad) c z) ∧ Arr W (w.heap.size + 1) 24 dkZero ∧ Arr W g 52 (flCells (mix L m k)).toArray ∧ Arr W wr.heap.size 52 (flArr x) ∧ Below w.heap.size w W) (by exact ⟨A4.below bb A4.lt, A5.below bb A5.lt, G.below bb G.lt, AX, bel.trans (bb.mono bel.size)⟩) ?_
        clear bb AX A4 A5 G bel g0 g1 g2
        generalize wr.heap.size = q at *
        rintro W ⟨A4, A5, G, AX, bel⟩
        have e0 : W.cell? ⟨q, 0, none⟩ = some (.string x.name) := AX.cell 0
        have e1 : W.cell? ⟨q, 1, none⟩ = some (.string x.safe) := AX.cell 1
        have e2 : W.cell? ⟨q, 2, none⟩ = some (.string x.tail) := AX.cell 2
        have hcl : (flCells (mix L m k)).length = L.length * 3 := by rw [flCells_len, hml]
        have hat : ∀ j, j < L.length * 3 → ∃ u, W.cell? ⟨g, j, none⟩ = some u := fun j hj => ⟨_, by rw [G.cell, List.getElem?_toArray]; exact List.getElem?_eq_getElem (by omega)⟩
        obtain ⟨t, ht⟩ : ∃ t, t = x.tail.extract 0 (min m x.tail.size) := ⟨_, rfl⟩
        have hcf : crashF m x = ⟨x.name, x.safe ++ t, ⟨#[]⟩⟩ := by rw [ht]; rfl
        rw [hcf] at HSet HT
        have hts : t.size ≤ 1048576 := by rw [ht, ByteArray.size_extract]; omega
        obtain ⟨u0, d0⟩ := hat (k * 3) (by omega)
        have f0 := G.free (k * 3)
        have G3 := G.put (k * 3) (.string x.name)
        rw [List.setIfInBounds_toArray] at G3
        have hat1 : ∃ u, (W.setCell ⟨g, k * 3, none⟩ (.string x.name)).cell? ⟨g, k * 3 + 1, none⟩ = some u := ⟨_, by rw [G3.cell, List.getElem?_toArray]; exact List.getElem?_eq_getElem (by rw [List.length_set]; omega)⟩
        obtain ⟨u1, d1⟩ := hat1
        have f1 := G3.free (k * 3 + 1)
        have G4 := G3.put (k * 3 + 1) (.string (x.safe ++ t))
        rw [List.setIfInBounds_toArray] at G4
        have hat2 : ∃ u, ((W.setCell ⟨g, k * 3, none⟩ (.string x.name)).setCell ⟨g, k * 3 + 1, none⟩ (.string (x.safe ++ t))).cell? ⟨g, k * 3 + 2, none⟩ = some u := ⟨_, by rw [G4.cell, List.getElem?_toArray]; exact List.getElem?_eq_getElem (by rw [List.length_set, List.length_set]; omega)⟩
        obtain ⟨u2, d2⟩ := hat2
        have f2 := G4.free (k * 3 + 2)
        have G5 := G4.put (k * 3 + 2) (.string ⟨#[]⟩)
        rw [List.setIfInBounds_toArray] at G5
        have hG5 := HT.out
        rw [List.take_of_length_le (by rw [List.length_set, List.length_set, List.length_set, flCells_len]; exact Nat.le_refl _), HSet.out] at hG5
        rw [hG5] at G5
        have k1 : W.grownBy (((W.setCell ⟨g, k * 3, none⟩ (.string x.name)).setCell ⟨g, k * 3 + 1, none⟩ (.string (x.safe ++ t))).setCell ⟨g, k * 3 + 2, none⟩ (.string ⟨#[]⟩)) (some g) := gb_trans (gb_trans (gb_set _ _ _) (gb_set _ _ _)) (gb_set _ _ _)
        have bel3 := below_gb bel k1 hbg bel.size
        have A6 := A4.kept k1 (fun e => by have := Option.some.inj e; omega)
        have A7 := A5.kept k1 (fun e => by have := Option.some.inj e; omega)
        clear G G3 G4 k1 hat hG5 HT HSet hcf A4 A5 AX bel hml hcl
        by_cases hmt : m ≤ x.tail.size
        · have i1 : (m : Int) ≤ x.tail.size := by omega
          rw [Nat.min_eq_left hmt] at ht
          subst ht
          go_wp2_with fail
          go_roundw
          case rel => exact ⟨k + 1, hlt, by rw [Int.natCast_add]; rfl, A6, A7, G5, bel3⟩
          case measure => simp [intOf]; omega
        · have i1 : ¬ (m : Int) ≤ x.tail.size := by omega
          rw [Nat.min_eq_right (by omega)] at ht
          have ht2 : t = x.tail := by
            rw [ht]
            apply bytes_eq
            rw [extract_drop, List.drop_zero, Nat.sub_zero]
            exact List.take_length
          subst ht2
          clear ht
          go_wp2_with fail
          go_roundw
          case rel => exact ⟨k + 1, hlt, by rw [Int.natCast_add]; rfl, A6, A7, G5, bel3⟩
          case measure => simp [intOf]; omega
      · obtain rfl : k = L.length := by omega
        have hj : ¬ (L.length : Int) < L.length := by omega
        have hmx : mix L m L.length = L.map (crashF m) := by unfold mix; rw [List.take_length, Nat.sub_self]; simp
        rw [hmx] at G
        have hF : Fls wr wr.heap.size (some ⟨g, 0, none⟩) (L.map (crashF m)) := by
          have ho : wr.ownsRow 0 52 3 (.slice (some ⟨g, 0, none⟩) (L.map (crashF m)).length L.length) (L.map (crashF m)).length (flCells (L.map (crashF m))) := ⟨by rw [flCells_len], .inr ⟨g, L.length, _, rfl, Nat.zero_le _, G, by rw [List.length_map]; exact Nat.le_refl _, by unfold maxLen; omega, by rw [List.size_toArray, flCells_len, List.length_map], by rw [List.toList_toArray]; exact List.take_of_length_le (by rw [flCells_len]; exact Nat.le_refl _)⟩⟩
          obtain ⟨A', c', e, _, h⟩ := own_files ho
          simp only [Value.slice.injEq] at e
          rw [e.1]
          exact h
        have d0 : wr.cell? ⟨w.heap.size, 0, none⟩ = some (.slice A L.length c) := A4.cell 0
        go_wp2_with (refine wpList_store_row rfl 24 _ _ rfl (w.heap.size + 1) (dkArr (L.map (crashF m)) (some ⟨g, 0, none⟩) L.length (-1)) rfl (by simp [dkArr]; rfl) 24 dkZero A5 (dkInfo _ _ _ _) rfl (dkArr_one _ _ _ _) ?_)
        rw [HQ.out]
        have b4 := below_setRow bel (show w.heap.size ≤ w.heap.size + 1 by omega) (dkArr (L.map (crashF m)) (some ⟨g, 0, none⟩) L.length (-1))
        exact HRet.out _ _ ⟨L.map (crashF m), -1⟩ (some ⟨g, 0, none⟩) L.length 0 (A5.row _) b4 (hF.row A5 _) (by rw [List.length_map]; exact Nat.le_refl _) rfl rfl rfl
end Go.Proofs.YtilolbefeoibhaaDoor

/- disk.Save: its contract. -/
namespace Go.Proofs.YtilolbefeoibhaaDoor
open Go.RowKit

theorem dkArr_no (L : List Fl) (A : Option Addr) (c : Nat) (z : Int) : ∀ (i : Nat) (t : ByteArray), (dkArr L A c z)[i]? ≠ some (.string t)
  | 0, t => by simp [dkArr]
  | 1, t => by simp [dkArr]
  | n + 2, t => by simp [dkArr]
theorem Fls.rowD {w : World} {A : Option Addr} {L M : List Fl} {B : Option Addr} {d : Nat} {y : Int} {g : Nat} (h : Fls w w.heap.size A L) (hg : Arr w g 24 (dkArr M B d y)) (cs' : Array Value) : Fls (w.setRow g cs') (w.setRow g cs').heap.size A L := fun k x hx => by
  obtain ⟨ad, e, hb, h0, h1, h2⟩ := h k x hx
  have k1 : w.grownBy (w.setRow g cs') (some g) := gb_row _ _
  have hne : (ad.add (k * 3)).block ≠ g := fun q => by
    rw [q, hg.cell] at h1
    exact dkArr_no _ _ _ _ _ _ h1
  have hn : ¬ some (ad.add (k * 3)).block = some g := fun q => hne (Option.some.inj q)
  exact ⟨ad, e, Nat.lt_of_lt_of_le hb k1.size, k1.cell h0 hn, k1.cell h1 hn, k1.cell h2 hn⟩
theorem wr_err {L : List Fl} {n s : ByteArray} : ∀ e, wrP L n s = .error e → e ≠ 0 := fun e h => by
  unfold wrP at h
  split at h
  · cases h; decide
  · split at h
    · split at h
      · cases h; decide
      · split at h
        · cases h; decide
        · cases h
    · split at h
      · cases h; decide
      · cases h
theorem sy_err {L : List Fl} {n : ByteArray} : ∀ e, syP L n = .error e → e ≠ 0 := fun e h => by
  unfold syP at h
  split at h
  · cases h; decide
  · cases h
theorem rm_err {L : List Fl} {n : ByteArray} : ∀ e, rmP L n = .error e → e ≠ 0 := fun e h => by
  unfold rmP at h
  split at h
  · cases h; decide
  · cases h
theorem rm_ok {L L' : List Fl} {n : ByteArray} (hG : goodD L = true) (h : rmP L n = .ok L') : L' = del n L ∧ goodD L' = true := by
  unfold rmP at h
  split at h
  · cases h
  · cases h; exact ⟨rfl, good_del hG⟩
theorem sy_ok {L L' : List Fl} {n : ByteArray} (hG : goodD L = true) (h : syP L n = .ok L') : ∃ f, getF n L = some f ∧ L' = putL ⟨n, f.safe ++ f.tail, ⟨#[]⟩⟩ L ∧ goodD L' = true := by
  unfold syP at h
  cases hf : getF n L with
  | none => rw [hf] at h; cases h
  | some f =>
    rw [hf] at h
    cases h
    obtain ⟨h1, h2⟩ := fits_get hG hf
    refine ⟨f, rfl, rfl, good_put hG h1 ?_ (.inl ?_)⟩
    · unfold fits at h2 ⊢
      have := of_decide_eq_true h2
      refine decide_eq_true ?_
      show (f.safe ++ f.tail).size + 0 ≤ 1048576
      rw [ByteArray.size_append]
      omega
    · show (getF n L).isSome = true
      rw [hf]; rfl
theorem wr_ok {L L' : List Fl} {n s : ByteArray} (hG : goodD L = true) (h : wrP L n s = .ok L') : named n = true ∧ (∃ f : Fl, (getF n L = some f ∨ (getF n L = none ∧ f = ⟨n, ⟨#[]⟩, ⟨#[]⟩⟩)) ∧ L' = putL ⟨n, f.safe, f.tail ++ s⟩ L) ∧ goodD L' = true := by
  unfold wrP at h
  cases hn : named n with
  | false => rw [hn] at h; simp at h
  | true =>
    rw [hn] at h
    simp only [Bool.not_true, Bool.false_eq_true, if_false] at h
    refine ⟨rfl, ?_⟩
    cases hf : getF n L with
    | none =>
      rw [hf] at h
      simp only at h
      split at h
      · cases h
      · split at h
        · cases h
        · rename_i h4 h5
          cases h
          refine ⟨⟨⟨n, ⟨#[]⟩, ⟨#[]⟩⟩, .inr ⟨rfl, rfl⟩, by show _ = putL ⟨n, ⟨#[]⟩, (⟨#[]⟩ : ByteArray) ++ s⟩ L; rw [empty_append]⟩, good_put hG hn ?_ (.inr (by omega))⟩
          unfold fits
          exact decide_eq_true (by show 0 + s.size ≤ 1048576; omega)
    | some f =>
      rw [hf] at h
      simp only at h
      split at h
      · cases h
      · rename_i h5
        cases h
        refine ⟨⟨f, .inl rfl, rfl⟩, good_put hG hn ?_ (.inl (by show (getF n L).isSome = true; rw [hf]; rfl))⟩
        unfold fits
        refine decide_eq_true ?_
        show f.safe.size + (f.tail ++ s).size ≤ 1048576
        rw [ByteArray.size_append]
        omega
theorem burnt_le {z : Int} (h : z ≤ 9223372036854775807) : burnt z ≤ 9223372036854775807 := by
  unfold burnt
  split <;> omega
theorem then_err {r : Dk × Int} {f : Dk → Dk × Int} (h : r.2 ≠ 0) : thenD r f = r := by unfold thenD; rw [if_pos h]
theorem then_ok {r : Dk × Int} {f : Dk → Dk × Int} (h : r.2 = 0) : thenD r f = f r.1 := by unfold thenD; rw [if_neg (by simp [h])]
/-- where Save stands: the disk in its box, the place of the answer -/
def Sv (w : World) (L : List Fl) (A : Option Addr) (c : Nat) (z : Int) (W : World) : Prop :=
  Arr W w.heap.size 24 (dkArr L A c z) ∧ Arr W (w.heap.size + 1) 24 dkZero ∧ Fls W W.heap.size A L ∧ Below w.heap.size w W
theorem Sv.below {w : World} {L : List Fl} {A : Option Addr} {c : Nat} {z : Int} {W W' : World} (h : Sv w L A c z W) (b : Below W.heap.size W W') : Sv w L A c z W' := ⟨h.1.below b h.1.lt, h.2.1.below b h.2.1.lt, h.2.2.1.up b, h.2.2.2.trans (b.mono h.2.2.2.size)⟩
set_option maxRecDepth 100000 in
set_option maxHeartbeats 4000000 in
theorem Save_any (L : List Fl) (n s : ByteArray) (hn : n.size ≤ 140737488355328) (hs : s.size ≤ 140737488355328) (A : Option Addr) (c : Nat) (z : Int) (w : World) (hP : Fls w w.heap.size A L) (hz : Sized L) (hl : L.length ≤ 140737488355328) (hc : L.length ≤ c) (hzf : z ≤ 9223372036854775807) :
    Calls Tryd.prog 16 #[.agg #[.slice A L.length c, .int .i64 z], .string n, .string s] w (StEnd w (saveD ⟨L, z⟩ n s)) := by
  have b0 : Below w.heap.size w ((w.alloc (.cells (dkArr L A c z) 24)).alloc (.cells dkZero 24)) := ((Below.refl _ _).alloc (Nat.le_refl _) _).alloc (by simp) _
  have h0 : Hid (Sv w L A c z ((w.alloc (.cells (dkArr L A c z) 24)).alloc (.cells dkZero 24))) := ⟨(Arr.new _ _ _).alloc _, Arr.new_at _ _ _ (by simp), hP.up b0, b0⟩
  have HRet : Hid (∀ (W : World) (a : Act) (d : Dk) (A' : Option Addr) (c' : Nat) (e : Int), Arr W (w.heap.size + 1) 24 (dkArr d.files A' c' d.fuse) → Below w.heap.size w W → Fls W W.heap.size A' d.files → d.files.length ≤ c' → a.tmps[6]? = some (.pointer (some ⟨w.heap.size + 1, 0, none⟩)) → a.tmps[7]? = some (.int .i64 e) → a.defers = [] → bodyPost Tryd.prog Tryd.f16 (StEnd w (d, e)) .ret a W) := fun W a d A' c' e h1 h2 h3 h4 h5 h6 h7 => by
    refine bodyPost_ret (v := .tuple #[.agg (dkArr d.files A' c' d.fuse), .int .i64 e]) ?_ h7 ⟨A', c', rfl, h3, h4, h2⟩
    rw [results_cell_tmp Tryd.results16]
    have hld := run_loadVar_row (P := Tryd.prog) _ _ _ 24 _ _ _ h1 Tryd.underlying24 rfl (dkInfo _ _ _ _)
    simp [Array.getD_eq_getD_getElem?, h5, h6, asAddr, hld, Result.andThen]
  have HQ0 : Hid (saveD ⟨L, z⟩ n s = if !goodD L then (⟨L, z⟩, 3) else if !named n || !named (newN n) then (⟨L, z⟩, 2) else
    thenD (thenD (thenD (if hasN (newN n) L then stepP ⟨L, z⟩ (rmP L (newN n)) else (⟨L, z⟩, 0)) fun d => stepP d (wrP d.files (newN n) s)) fun d => stepP d (syP d.files (newN n))) fun d => stepP d (rnP d.files (newN n) n)) := rfl
  generalize saveD ⟨L, z⟩ n s = Q at *
  have hfr : Hid (newN n = n ++ ⟨#[46, 110, 101, 119]⟩) := rfl
  have hfs : (newN n).size ≤ 140737488355332 := by rw [hfr.out, ByteArray.size_append]; show n.size + 4 ≤ _; omega
  go_enter Tryd.func16, Tryd.ntmps16
  go_upto_region 1 with fail
  refine wp_forget (Sv w L A c z) (by exact h0.out) ?_
  clear h0 b0
  intro V S
  have c0 : V.cell? ⟨w.heap.size, 0, none⟩ = some (.slice A L.length c) := S.1.cell 0
  have c1 : V.cell? ⟨w.heap.size, 1, none⟩ = some (.int .i64 z) := S.1.cell 1
  have CG : Hid (Calls Tryd.prog 18 #[.agg #[.slice A L.length c, .int .i64 z]] V fun e w' => e = .returned (.bool (goodD L)) ∧ Below V.heap.size V w') := DkGood_any L A c z V S.2.2.1 hz hl
  have hcat : ¬ 9223372036854775807 < n.size + 4 := by omega
  go_upto_region 2 with fail
  rw [← hfr.out]
  generalize newN n = fr at *
  cases hg : goodD L with
  | false =>
    rw [hg] at CG
    have HQ : Hid (Q = (⟨L, z⟩, 3)) := by show _ = _; rw [HQ0.out, hg]; rfl
    clear HQ0 hg
    go_wp2_with fail
    (with_reducible refine CG.out.mono ?_)
    clear CG c0 c1
    rintro _ V2 ⟨rfl, b2⟩
    have S2 := S.below b2
    have c0 : V2.cell? ⟨w.heap.size, 0, none⟩ = some (.slice A L.length c) := S2.1.cell 0
    have c1 : V2.cell? ⟨w.heap.size, 1, none⟩ = some (.int .i64 z) := S2.1.cell 1
    go_wp2_with (refine wpList_store_row rfl 24 _ _ rfl (w.heap.size + 1) (dkArr L A c z) rfl rfl 24 dkZero S2.2.1 (dkInfo _ _ _ _) rfl (dkArr_one _ _ _ _) ?_)
    rw [HQ.out]
    exact HRet.out _ _ ⟨L, z⟩ A c 3 (S2.2.1.row _) (below_setRow S2.2.2.2 (by omega) _) (S2.2.2.1.row S2.2.1 _) hc rfl rfl rfl
  | true =>
  rw [hg] at CG
  go_wp2_with fail
  (with_reducible refine CG.out.mono ?_)
  clear CG c0 c1
  rintro _ V2 ⟨rfl, b2⟩
  replace S := S.below b2
  clear b2
  have CN := Lib.hid (Named_any n V2)
  have CN2 := Lib.hid (Named_any fr V2)
  cases hn1 : named n with
  | false =>
    rw [hn1] at CN
    have HQ : Hid (Q = (⟨L, z⟩, 2)) := by show _ = _; rw [HQ0.out, hg, hn1]; rfl
    clear HQ0 hg hn1
    go_wp2_with fail
    (with_reducible refine CN.out.mono ?_)
    rintro _ V2 ⟨rfl, rfl⟩
    have c0 : V2.cell? ⟨w.heap.size, 0, none⟩ = some (.slice A L.length c) := S.1.cell 0
    have c1 : V2.cell? ⟨w.heap.size, 1, none⟩ = some (.int .i64 z) := S.1.cell 1
    go_wp2_with (refine wpList_store_row rfl 24 _ _ rfl (w.heap.size + 1) (dkArr L A c z) rfl rfl 24 dkZero S.2.1 (dkInfo _ _ _ _) rfl (dkArr_one _ _ _ _) ?_)
    rw [HQ.out]
    exact HRet.out _ _ ⟨L, z⟩ A c 2 (S.2.1.row _) (below_setRow S.2.2.2 (by omega) _) (S.2.2.1.row S.2.1 _) hc rfl rfl rfl
  | true =>
  rw [hn1] at CN
  cases hn2 : named fr with
  | false =>
    rw [hn2] at CN2
    have HQ : Hid (Q = (⟨L, z⟩, 2)) := by show _ = _; rw [HQ0.out, hg, hn1, hn2]; rfl
    clear HQ0 hg hn1 hn2
    go_wp2_with fail
    (with_reducible refine CN.out.mono ?_)
    rintro _ V2 ⟨rfl, rfl⟩
    go_wp2_with fail
    (with_reducible refine CN2.out.mono ?_)
    rintro _ V2 ⟨rfl, rfl⟩
    have c0 : V2.cell? ⟨w.heap.size, 0, none⟩ = some (.slice A L.length c) := S.1.cell 0
    have c1 : V2.cell? ⟨w.heap.size, 1, none⟩ = some (.int .i64 z) := S.1.cell 1
    go_wp2_with (refine wpList_store_row rfl 24 _ _ rfl (w.heap.size + 1) (dkArr L A c z) rfl rfl 24 dkZero S.2.1 (dkInfo _ _ _ _) rfl (dkArr_one _ _ _ _) ?_)
    rw [HQ.out]
    exact HRet.out _ _ ⟨L, z⟩ A c 2 (S.2.1.row _) (below_setRow S.2.2.2 (by omega) _) (S.2.2.1.row S.2.1 _) hc rfl rfl rfl
  | true =>
  rw [hn2] at CN2
  have HQ1 : Hid (Q = thenD (thenD (thenD (if hasN fr L then stepP ⟨L, z⟩ (rmP L fr) else (⟨L, z⟩, 0)) fun d => stepP d (wrP d.files fr s)) fun d => stepP d (syP d.files fr)) fun d => stepP d (rnP d.files fr n)) := by show _ = _; rw [HQ0.out, hg, hn1, hn2]; rfl
  clear HQ0 hfr
  obtain ⟨h4, hr, _⟩ := (goodD_iff L).1 hg
  have HG := Lib.hid hg
  clear hn1 hn2 hg
  go_wp2_with fail
  (with_reducible refine CN.out.mono ?_)
  rintro _ V2 ⟨rfl, rfl⟩
  go_wp2_with fail
  (with_reducible refine CN2.out.mono ?_)
  clear CN CN2
  rintro _ V2 ⟨rfl, rfl⟩
  have c0 : V2.cell? ⟨w.heap.size, 0, none⟩ = some (.slice A L.length c) := S.1.cell 0
  have CF := Lib.hid (find_any L fr A c V2 S.2.2.1 (by omega) hr)
  clear hr
  cases hbn : hasN fr L with
  | false =>
    rw [hbn] at CF
    replace HQ1 : Hid (Q = thenD (thenD (stepP ⟨L, z⟩ (wrP L fr s)) fun d => stepP d (syP d.files fr)) fun d => stepP d (rnP d.files fr n)) := by show _ = _; rw [HQ1.out, hbn]; rfl
    clear hbn
    go_wp2_with fail
    (with_reducible refine CF.out.mono ?_)
    clear CF c0
    rintro _ V3 ⟨rfl, b3⟩
    replace S := S.below b3
    clear b3
    have e0 : V3.cell? ⟨w.heap.size, 0, none⟩ = some (.slice A L.length c) := S.1.cell 0
    have e1 : V3.cell? ⟨w.heap.size, 1, none⟩ = some (.int .i64 z) := S.1.cell 1
    have CX := Lib.hid (Write_any L fr s hs A c z V3 S.2.2.1 hz hl hc hzf)
    have HYes : Hid ((stepP ⟨L, z⟩ (wrP L fr s)).2 = 0 → ∃ L', stepP ⟨L, z⟩ (wrP L fr s) = (⟨L', burnt z⟩, 0) ∧ goodD L' = true) := fun h => by
      obtain ⟨h1, _, L', h2, h3⟩ := step_yes wr_err h
      exact ⟨L', h3, (wr_ok h1 h2).2.2⟩
    generalize hQ2 : stepP ⟨L, z⟩ (wrP L fr s) = Q2 at *
    clear hQ2
    go_wp2_with fail
    (with_reducible refine CX.out.mono ?_)
    clear CX e0 e1
    rintro _ V3 ⟨A1, c1, rfl, hF', hc1, b3⟩
    replace S := S.below b3
    clear b3
    obtain ⟨⟨L1, zz1⟩, e⟩ := Q2
    simp only at hF' hc1 HYes ⊢
    have S3 : Sv w L1 A1 c1 zz1 (V3.setRow w.heap.size (dkArr L1 A1 c1 zz1)) := ⟨S.1.row _, S.2.1.row_far (by omega) _, hF'.rowD S.1 _, below_setRow S.2.2.2 (Nat.le_refl _) _⟩
    go_upto_region 13 with (refine wpList_store_row rfl 24 _ _ rfl w.heap.size (dkArr L1 A1 c1 zz1) rfl rfl 24 (dkArr L A c z) S.1 (dkInfo _ _ _ _) rfl (dkArr_one _ _ _ _) ?_)
    refine wp_forget (Sv w L1 A1 c1 zz1) (by exact S3) ?_
    clear S3 S hF'
    intro W1 S
    by_cases he : e = 0
    case neg =>
      have hb : (e != 0) = true := by simpa using he
      have HE : Hid (Q = (⟨L1, zz1⟩, e)) := by show _ = _; rw [HQ1.out]; simp only [then_err (r := ((⟨L1, zz1⟩ : Dk), e)) he]
      have e0 : W1.cell? ⟨w.heap.size, 0, none⟩ = some (.slice A1 L1.length c1) := S.1.cell 0
      have e1 : W1.cell? ⟨w.heap.size, 1, none⟩ = some (.int .i64 zz1) := S.1.cell 1
      clear HYes HQ1 he
      go_wp2_with (refine wpList_store_row rfl 24 _ _ rfl (w.heap.size + 1) (dkArr L1 A1 c1 zz1) rfl rfl 24 dkZero S.2.1 (dkInfo _ _ _ _) rfl (dkArr_one _ _ _ _) ?_)
      rw [HE.out]
      exact HRet.out _ _ ⟨L1, zz1⟩ A1 c1 e (S.2.1.row _) (below_setRow S.2.2.2 (by omega) _) (S.2.2.1.row S.2.1 _) hc1 rfl rfl rfl
    subst he
    obtain ⟨_, hqq, hgd⟩ := HYes.out rfl
    simp only [Prod.mk.injEq, Dk.mk.injEq, and_true] at hqq
    obtain ⟨rfl, hzq⟩ := hqq
    have hzf1 : zz1 ≤ 9223372036854775807 := by rw [hzq]; exact burnt_le hzf
    have hz1 := (good_sized hgd).1
    have hl1 : L1.length ≤ 140737488355328 := by have := (good_sized hgd).2; omega
    replace HQ1 : Hid (Q = thenD (stepP ⟨L1, zz1⟩ (syP L1 fr)) fun d => stepP d (rnP d.files fr n)) := by show _ = _; rw [HQ1.out, then_ok (r := ((⟨L1, zz1⟩ : Dk), 0)) rfl]
    clear HYes hgd hzq
    have e0 : W1.cell? ⟨w.heap.size, 0, none⟩ = some (.slice A1 L1.length c1) := S.1.cell 0
    have e1 : W1.cell? ⟨w.heap.size, 1, none⟩ = some (.int .i64 zz1) := S.1.cell 1
    have CX := Lib.hid (Sync_any L1 fr A1 c1 zz1 W1 S.2.2.1 hz1 hl1 hc1 hzf1)
    have HYes : Hid ((stepP ⟨L1, zz1⟩ (syP L1 fr)).2 = 0 → ∃ L', stepP ⟨L1, zz1⟩ (syP L1 fr) = (⟨L', burnt zz1⟩, 0) ∧ goodD L' = true) := fun h => by
      obtain ⟨h1, _, L', h2, h3⟩ := step_yes sy_err h
      exact ⟨L', h3, by obtain ⟨_, _, _, q⟩ := sy_ok h1 h2; exact q⟩
    generalize hQ2 : stepP ⟨L1, zz1⟩ (syP L1 fr) = Q2 at *
    clear hQ2
    go_wp2_with fail
    (with_reducible refine CX.out.mono ?_)
    clear CX e0 e1
    rintro _ V3 ⟨A2, c2, rfl, hF', hc2, b3⟩
    replace S := S.below b3
    clear b3
    obtain ⟨⟨L2, zz2⟩, e⟩ := Q2
    simp only at hF' hc2 HYes ⊢
    have S3 : Sv w L2 A2 c2 zz2 (V3.setRow w.heap.size (dkArr L2 A2 c2 zz2)) := ⟨S.1.row _, S.2.1.row_far (by omega) _, hF'.rowD S.1 _, below_setRow S.2.2.2 (Nat.le_refl _) _⟩
    go_upto_region 16 with (refine wpList_store_row rfl 24 _ _ rfl w.heap.size (dkArr L2 A2 c2 zz2) rfl rfl 24 (dkArr L1 A1 c1 zz1) S.1 (dkInfo _ _ _ _) rfl (dkArr_one _ _ _ _) ?_)
    refine wp_forget (Sv w L2 A2 c2 zz2) (by exact S3) ?_
    clear S3 S hF'
    intro W2 S
    by_cases he : e = 0
    case neg =>
      have hb : (e != 0) = true := by simpa using he
      have HE : Hid (Q = (⟨L2, zz2⟩, e)) := by show _ = _; rw [HQ1.out]; simp only [then_err (r := ((⟨L2, zz2⟩ : Dk), e)) he]
      have e0 : W2.cell? ⟨w.heap.size, 0, none⟩ = some (.slice A2 L2.length c2) := S.1.cell 0
      have e1 : W2.cell? ⟨w.heap.size, 1, none⟩ = some (.int .i64 zz2) := S.1.cell 1
      clear HYes HQ1 he
      go_wp2_with (refine wpList_store_row rfl 24 _ _ rfl (w.heap.size + 1) (dkArr L2 A2 c2 zz2) rfl rfl 24 dkZero S.2.1 (dkInfo _ _ _ _) rfl (dkArr_one _ _ _ _) ?_)
      rw [HE.out]
      exact HRet.out _ _ ⟨L2, zz2⟩ A2 c2 e (S.2.1.row _) (below_setRow S.2.2.2 (by omega) _) (S.2.2.1.row S.2.1 _) hc2 rfl rfl rfl
    subst he
    obtain ⟨_, hqq, hgd⟩ := HYes.out rfl
    simp only [Prod.mk.injEq, Dk.mk.injEq, and_true] at hqq
    obtain ⟨rfl, hzq⟩ := hqq
    have hzf2 : zz2 ≤ 9223372036854775807 := by rw [hzq]; exact burnt_le hzf1
    have hz2 := (good_sized hgd).1
    have hl2 : L2.length ≤ 140737488355328 := by have := (good_sized hgd).2; omega
    replace HQ1 : Hid (Q = stepP ⟨L2, zz2⟩ (rnP L2 fr n)) := by show _ = _; rw [HQ1.out, then_ok (r := ((⟨L2, zz2⟩ : Dk), 0)) rfl]
    clear HYes hgd hzq
    have e0 : W2.cell? ⟨w.heap.size, 0, none⟩ = some (.slice A2 L2.length c2) := S.1.cell 0
    have e1 : W2.cell? ⟨w.heap.size, 1, none⟩ = some (.int .i64 zz2) := S.1.cell 1
    have CX := Lib.hid (Rename_any L2 fr n A2 c2 zz2 W2 S.2.2.1 hz2 hl2 hc2 hzf2)
    rw [← HQ1.out] at CX
    go_wp2_with fail
    (with_reducible refine CX.out.mono ?_)
    clear CX e0 e1 HQ1
    rintro _ V3 ⟨A9, c9, rfl, hF9, hc9, b3⟩
    replace S := S.below b3
    clear b3
    obtain ⟨⟨L9, z9⟩, e⟩ := Q
    simp only at hF9 hc9 ⊢
    go_wp2_with (refine wpList_store_row rfl 24 _ _ rfl (w.heap.size + 1) (dkArr L9 A9 c9 z9) rfl rfl 24 dkZero S.2.1 (dkInfo _ _ _ _) rfl (dkArr_one _ _ _ _) ?_)
    exact HRet.out _ _ ⟨L9, z9⟩ A9 c9 e (S.2.1.row _) (below_setRow S.2.2.2 (by omega) _) (hF9.row S.2.1 _) hc9 rfl rfl rfl
  | true =>
    rw [hbn] at CF
    replace HQ1 : Hid (Q = thenD (thenD (thenD (stepP ⟨L, z⟩ (rmP L fr)) fun d => stepP d (wrP d.files fr s)) fun d => stepP d (syP d.files fr)) fun d => stepP d (rnP d.files fr n)) := by show _ = _; rw [HQ1.out, hbn]; rfl
    clear hbn
    go_wp2_with fail
    (with_reducible refine CF.out.mono ?_)
    clear CF c0
    rintro _ V3 ⟨rfl, b3⟩
    replace S := S.below b3
    clear b3
    have e0 : V3.cell? ⟨w.heap.size, 0, none⟩ = some (.slice A L.length c) := S.1.cell 0
    have e1 : V3.cell? ⟨w.heap.size, 1, none⟩ = some (.int .i64 z) := S.1.cell 1
    have CX := Lib.hid (Remove_any L fr A c z V3 S.2.2.1 hz hl hc hzf)
    have HYes : Hid ((stepP ⟨L, z⟩ (rmP L fr)).2 = 0 → ∃ L', stepP ⟨L, z⟩ (rmP L fr) = (⟨L', burnt z⟩, 0) ∧ goodD L' = true) := fun h => by
      obtain ⟨h1, _, L', h2, h3⟩ := step_yes rm_err h
      exact ⟨L', h3, (rm_ok h1 h2).2⟩
    generalize hQ2 : stepP ⟨L, z⟩ (rmP L fr) = Q2 at *
    clear hQ2
    go_wp2_with fail
    (with_reducible refine CX.out.mono ?_)
    clear CX e0 e1
    rintro _ V3 ⟨A1, c1, rfl, hF', hc1, b3⟩
    replace S := S.below b3
    clear b3
    obtain ⟨⟨L1, zz1⟩, e⟩ := Q2
    simp only at hF' hc1 HYes ⊢
    have S3 : Sv w L1 A1 c1 zz1 (V3.setRow w.heap.size (dkArr L1 A1 c1 zz1)) := ⟨S.1.row _, S.2.1.row_far (by omega) _, hF'.rowD S.1 _, below_setRow S.2.2.2 (Nat.le_refl _) _⟩
    go_upto_region 10 with (refine wpList_store_row rfl 24 _ _ rfl w.heap.size (dkArr L1 A1 c1 zz1) rfl rfl 24 (dkArr L A c z) S.1 (dkInfo _ _ _ _) rfl (dkArr_one _ _ _ _) ?_)
    refine wp_forget (Sv w L1 A1 c1 zz1) (by exact S3) ?_
    clear S3 S hF'
    intro W1 S
    by_cases he : e = 0
    case neg =>
      have hb : (e != 0) = true := by simpa using he
      have HE : Hid (Q = (⟨L1, zz1⟩, e)) := by show _ = _; rw [HQ1.out]; simp only [then_err (r := ((⟨L1, zz1⟩ : Dk), e)) he]
      have e0 : W1.cell? ⟨w.heap.size, 0, none⟩ = some (.slice A1 L1.length c1) := S.1.cell 0
      have e1 : W1.cell? ⟨w.heap.size, 1, none⟩ = some (.int .i64 zz1) := S.1.cell 1
      clear HYes HQ1 he
      go_wp2_with (refine wpList_store_row rfl 24 _ _ rfl (w.heap.size + 1) (dkArr L1 A1 c1 zz1) rfl rfl 24 dkZero S.2.1 (dkInfo _ _ _ _) rfl (dkArr_one _ _ _ _) ?_)
      rw [HE.out]
      exact HRet.out _ _ ⟨L1, zz1⟩ A1 c1 e (S.2.1.row _) (below_setRow S.2.2.2 (by omega) _) (S.2.2.1.row S.2.1 _) hc1 rfl rfl rfl
    subst he
    obtain ⟨_, hqq, hgd⟩ := HYes.out rfl
    simp only [Prod.mk.injEq, Dk.mk.injEq, and_true] at hqq
    obtain ⟨rfl, hzq⟩ := hqq
    have hzf1 : zz1 ≤ 9223372036854775807 := by rw [hzq]; exact burnt_le hzf
    have hz1 := (good_sized hgd).1
    have hl1 : L1.length ≤ 140737488355328 := by have := (good_sized hgd).2; omega
    replace HQ1 : Hid (Q = thenD (thenD (stepP ⟨L1, zz1⟩ (wrP L1 fr s)) fun d => stepP d (syP d.files fr)) fun d => stepP d (rnP d.files fr n)) := by show _ = _; rw [HQ1.out, then_ok (r := ((⟨L1, zz1⟩ : Dk), 0)) rfl]
    clear HYes hgd hzq
    have e0 : W1.cell? ⟨w.heap.size, 0, none⟩ = some (.slice A1 L1.length c1) := S.1.cell 0
    have e1 : W1.cell? ⟨w.heap.size, 1, none⟩ = some (.int .i64 zz1) := S.1.cell 1
    have CX := Lib.hid (Write_any L1 fr s hs A1 c1 zz1 W1 S.2.2.1 hz1 hl1 hc1 hzf1)
    have HYes : Hid ((stepP ⟨L1, zz1⟩ (wrP L1 fr s)).2 = 0 → ∃ L', stepP ⟨L1, zz1⟩ (wrP L1 fr s) = (⟨L', burnt zz1⟩, 0) ∧ goodD L' = true) := fun h => by
      obtain ⟨h1, _, L', h2, h3⟩ := step_yes wr_err h
      exact ⟨L', h3, (wr_ok h1 h2).2.2⟩
    generalize hQ2 : stepP ⟨L1, zz1⟩ (wrP L1 fr s) = Q2 at *
    clear hQ2
    go_wp2_with fail
    (with_reducible refine CX.out.mono ?_)
    clear CX e0 e1
    rintro _ V3 ⟨A2, c2, rfl, hF', hc2, b3⟩
    replace S := S.below b3
    clear b3
    obtain ⟨⟨L2, zz2⟩, e⟩ := Q2
    simp only at hF' hc2 HYes ⊢
    have S3 : Sv w L2 A2 c2 zz2 (V3.setRow w.heap.size (dkArr L2 A2 c2 zz2)) := ⟨S.1.row _, S.2.1.row_far (by omega) _, hF'.rowD S.1 _, below_setRow S.2.2.2 (Nat.le_refl _) _⟩
    go_upto_region 13 with (refine wpList_store_row rfl 24 _ _ rfl w.heap.size (dkArr L2 A2 c2 zz2) rfl rfl 24 (dkArr L1 A1 c1 zz1) S.1 (dkInfo _ _ _ _) rfl (dkArr_one _ _ _ _) ?_)
    refine wp_forget (Sv w L2 A2 c2 zz2) (by exact S3) ?_
    clear S3 S hF'
    intro W2 S
    by_cases he : e = 0
    case neg =>
      have hb : (e != 0) = true := by simpa using he
      have HE : Hid (Q = (⟨L2, zz2⟩, e)) := by show _ = _; rw [HQ1.out]; simp only [then_err (r := ((⟨L2, zz2⟩ : Dk), e)) he]
      have e0 : W2.cell? ⟨w.heap.size, 0, none⟩ = some (.slice A2 L2.length c2) := S.1.cell 0
      have e1 : W2.cell? ⟨w.heap.size, 1, none⟩ = some (.int .i64 zz2) := S.1.cell 1
      clear HYes HQ1 he
      go_wp2_with (refine wpList_store_row rfl 24 _ _ rfl (w.heap.size + 1) (dkArr L2 A2 c2 zz2) rfl rfl 24 dkZero S.2.1 (dkInfo _ _ _ _) rfl (dkArr_one _ _ _ _) ?_)
      rw [HE.out]
      exact HRet.out _ _ ⟨L2, zz2⟩ A2 c2 e (S.2.1.row _) (below_setRow S.2.2.2 (by omega) _) (S.2.2.1.row S.2.1 _) hc2 rfl rfl rfl
    subst he
    obtain ⟨_, hqq, hgd⟩ := HYes.out rfl
    simp only [Prod.mk.injEq, Dk.mk.injEq, and_true] at hqq
    obtain ⟨rfl, hzq⟩ := hqq
    have hzf2 : zz2 ≤ 9223372036854775807 := by rw [hzq]; exact burnt_le hzf1
    have hz2 := (good_sized hgd).1
    have hl2 : L2.length ≤ 140737488355328 := by have := (good_sized hgd).2; omega
    replace HQ1 : Hid (Q = thenD (stepP ⟨L2, zz2⟩ (syP L2 fr)) fun d => stepP d (rnP d.files fr n)) := by show _ = _; rw [HQ1.out, then_ok (r := ((⟨L2, zz2⟩ : Dk), 0)) rfl]
    clear HYes hgd hzq
    have e0 : W2.cell? ⟨w.heap.size, 0, none⟩ = some (.slice A2 L2.length c2) := S.1.cell 0
    have e1 : W2.cell? ⟨w.heap.size, 1, none⟩ = some (.int .i64 zz2) := S.1.cell 1
    have CX := Lib.hid (Sync_any L2 fr A2 c2 zz2 W2 S.2.2.1 hz2 hl2 hc2 hzf2)
    have HYes : Hid ((stepP ⟨L2, zz2⟩ (syP L2 fr)).2 = 0 → ∃ L', stepP ⟨L2, zz2⟩ (syP L2 fr) = (⟨L', burnt zz2⟩, 0) ∧ goodD L' = true) := fun h => by
      obtain ⟨h1, _, L', h2, h3⟩ := step_yes sy_err h
      exact ⟨L', h3, by obtain ⟨_, _, _, q⟩ := sy_ok h1 h2; exact q⟩
    generalize hQ2 : stepP ⟨L2, zz2⟩ (syP L2 fr) = Q2 at *
    clear hQ2
    go_wp2_with fail
    (with_reducible refine CX.out.mono ?_)
    clear CX e0 e1
    rintro _ V3 ⟨A3, c3, rfl, hF', hc3, b3⟩
    replace S := S.below b3
    clear b3
    obtain ⟨⟨L3, zz3⟩, e⟩ := Q2
    simp only at hF' hc3 HYes ⊢
    have S3 : Sv w L3 A3 c3 zz3 (V3.setRow w.heap.size (dkArr L3 A3 c3 zz3)) := ⟨S.1.row _, S.2.1.row_far (by omega) _, hF'.rowD S.1 _, below_setRow S.2.2.2 (Nat.le_refl _) _⟩
    go_upto_region 16 with (refine wpList_store_row rfl 24 _ _ rfl w.heap.size (dkArr L3 A3 c3 zz3) rfl rfl 24 (dkArr L2 A2 c2 zz2) S.1 (dkInfo _ _ _ _) rfl (dkArr_one _ _ _ _) ?_)
    refine wp_forget (Sv w L3 A3 c3 zz3) (by exact S3) ?_
    clear S3 S hF'
    intro W3 S
    by_cases he : e = 0
    case neg =>
      have hb : (e != 0) = true := by simpa using he
      have HE : Hid (Q = (⟨L3, zz3⟩, e)) := by show _ = _; rw [HQ1.out]; simp only [then_err (r := ((⟨L3, zz3⟩ : Dk), e)) he]
      have e0 : W3.cell? ⟨w.heap.size, 0, none⟩ = some (.slice A3 L3.length c3) := S.1.cell 0
      have e1 : W3.cell? ⟨w.heap.size, 1, none⟩ = some (.int .i64 zz3) := S.1.cell 1
      clear HYes HQ1 he
      go_wp2_with (refine wpList_store_row rfl 24 _ _ rfl (w.heap.size + 1) (dkArr L3 A3 c3 zz3) rfl rfl 24 dkZero S.2.1 (dkInfo _ _ _ _) rfl (dkArr_one _ _ _ _) ?_)
      rw [HE.out]
      exact HRet.out _ _ ⟨L3, zz3⟩ A3 c3 e (S.2.1.row _) (below_setRow S.2.2.2 (by omega) _) (S.2.2.1.row S.2.1 _) hc3 rfl rfl rfl
    subst he
    obtain ⟨_, hqq, hgd⟩ := HYes.out rfl
    simp only [Prod.mk.injEq, Dk.mk.injEq, and_true] at hqq
    obtain ⟨rfl, hzq⟩ := hqq
    have hzf3 : zz3 ≤ 9223372036854775807 := by rw [hzq]; exact burnt_le hzf2
    have hz3 := (good_sized hgd).1
    have hl3 : L3.length ≤ 140737488355328 := by have := (good_sized hgd).2; omega
    replace HQ1 : Hid (Q = stepP ⟨L3, zz3⟩ (rnP L3 fr n)) := by show _ = _; rw [HQ1.out, then_ok (r := ((⟨L3, zz3⟩ : Dk), 0)) rfl]
    clear HYes hgd hzq
    have e0 : W3.cell? ⟨w.heap.size, 0, none⟩ = some (.slice A3 L3.length c3) := S.1.cell 0
    have e1 : W3.cell? ⟨w.heap.size, 1, none⟩ = some (.int .i64 zz3) := S.1.cell 1
    have CX := Lib.hid (Rename_any L3 fr n A3 c3 zz3 W3 S.2.2.1 hz3 hl3 hc3 hzf3)
    rw [← HQ1.out] at CX
    go_wp2_with fail
    (with_reducible refine CX.out.mono ?_)
    clear CX e0 e1 HQ1
    rintro _ V3 ⟨A9, c9, rfl, hF9, hc9, b3⟩
    replace S := S.below b3
    clear b3
    obtain ⟨⟨L9, z9⟩, e⟩ := Q
    simp only at hF9 hc9 ⊢
    go_wp2_with (refine wpList_store_row rfl 24 _ _ rfl (w.heap.size + 1) (dkArr L9 A9 c9 z9) rfl rfl 24 dkZero S.2.1 (dkInfo _ _ _ _) rfl (dkArr_one _ _ _ _) ?_)
    exact HRet.out _ _ ⟨L9, z9⟩ A9 c9 e (S.2.1.row _) (below_setRow S.2.2.2 (by omega) _) (hF9.row S.2.1 _) hc9 rfl rfl rfl
end Go.Proofs.YtilolbefeoibhaaDoor

/- store.Put: its contract. -/
namespace Go.Proofs.YtilolbefeoibhaaDoor
open Go.RowKit

theorem results_cell_tmp_tmp {fn : Func} {p u v : Tmp} {ty : TypeId} (h : fn.results = #[.cell p ty, .tmp u, .tmp v]) (tmps : Array Value) (P : Program) (w : World) :
    (results fn tmps).run P w =
      ((asAddr (tmps.getD p undef)).run P w).andThen fun a w₁ => ((loadVar ty a).run P w₁).andThen fun x w₂ => .ok (.tuple #[x, tmps.getD u undef, tmps.getD v undef]) w₂ := by
  simp only [results, h]
  simp [Sem.run_bind, Result.andThen]
def PutEnd (w : World) (r : Dk × ByteArray × Int) (x : Ending) (w' : World) : Prop :=
  ∃ A c, x = .returned (.tuple #[.agg (dkArr r.1.files A c r.1.fuse), .string r.2.1, .int .i64 r.2.2]) ∧ Fls w' w'.heap.size A r.1.files ∧ r.1.files.length ≤ c ∧ Below w.heap.size w w'
theorem fileN_size {id : ByteArray} (h : id.size = 32) : (fileN id).size = 65 := by
  unfold fileN
  rw [ByteArray.size_append, bs_size, hexOf_length]
  show 1 + 2 * id.size = 65
  omega
/-- behind Save: what was saved in its block, the result's block still empty -/
def Xv (w : World) (M : List Fl) (Ab : Option Addr) (cb : Nat) (y : Int) (q : Nat) (W : World) : Prop :=
  Arr W q 24 (dkArr M Ab cb y) ∧ Arr W (w.heap.size + 1) 24 dkZero ∧ Fls W W.heap.size Ab M ∧ Below w.heap.size w W
theorem put_late {w V : World} {L M : List Fl} {A Ab : Option Addr} {c cb : Nat} {z y : Int} (hS : Sv w L A c z V) (hF : Fls V V.heap.size Ab M) (W' : World) (e : W' = V.alloc (.cells #[.slice Ab M.length cb, .int .i64 y] 24)) : Xv w M Ab cb y V.heap.size W' := by
  subst e
  have b1 : Below V.heap.size V (V.alloc (.cells #[.slice Ab M.length cb, .int .i64 y] 24)) := (Below.refl _ _).alloc (Nat.le_refl _) _
  exact ⟨Arr.new _ _ _, hS.2.1.alloc _, hF.up b1, hS.2.2.2.trans (b1.mono hS.2.2.2.size)⟩
theorem put_early {w V : World} {L M : List Fl} {A Ab : Option Addr} {c cb : Nat} {z y : Int} {q : Nat} (hS : Sv w L A c z V) (hF : Fls V V.heap.size Ab M) (hA : Arr V q 24 dkZero) (hq : w.heap.size + 1 < q) (W' : World) (e : W' = (V.setCell ⟨q, 0, none⟩ (.slice Ab M.length cb)).setCell ⟨q, 1, none⟩ (.int .i64 y)) : Xv w M Ab cb y q W' := by
  subst e
  have k : V.grownBy ((V.setCell ⟨q, 0, none⟩ (.slice Ab M.length cb)).setCell ⟨q, 1, none⟩ (.int .i64 y)) (some q) := gb_trans (gb_set _ _ _) (gb_set _ _ _)
  refine ⟨(hA.put 0 (.slice Ab M.length cb)).put 1 (.int .i64 y), hS.2.1.kept k (fun e => by cases e; omega), fun k' x hx => ?_, below_gb hS.2.2.2 k (by omega) hS.2.2.2.size⟩
  obtain ⟨ad, e, hbk, h0, h1, h2⟩ := hF k' x hx
  have hn : ¬ some (ad.add (k' * 3)).block = some q := fun e => by
    rw [Option.some.inj e, hA.cell] at h1
    exact dkZero_no _ _ h1
  exact ⟨ad, e, Nat.lt_of_lt_of_le hbk k.size, k.cell h0 hn, k.cell h1 hn, k.cell h2 hn⟩
set_option maxRecDepth 100000 in
set_option maxHeartbeats 2000000 in
theorem Put_st (L : List Fl) (s : ByteArray) (hs : s.size ≤ 140737488355328) (A : Option Addr) (c : Nat) (z : Int) (w : World) (hP : Fls w w.heap.size A L) (hz : Sized L) (hl : L.length ≤ 140737488355328) (hc : L.length ≤ c) (hzf : z ≤ 9223372036854775807) (ht : Tab w) :
    Calls Tryd.prog 6 #[.agg #[.slice A L.length c, .int .i64 z], .string s] w (PutEnd w (putO ⟨L, z⟩ s)) := by
  have b0 : Below w.heap.size w ((w.alloc (.cells (dkArr L A c z) 24)).alloc (.cells dkZero 24)) := ((Below.refl _ _).alloc (Nat.le_refl _) _).alloc (by simp) _
  have h0 : Hid (Sv w L A c z ((w.alloc (.cells (dkArr L A c z) 24)).alloc (.cells dkZero 24))) := ⟨(Arr.new _ _ _).alloc _, Arr.new_at _ _ _ (by simp), hP.up b0, b0⟩
  have HRet : Hid (∀ (W : World) (a : Act) (d : Dk) (A' : Option Addr) (c' : Nat) (i : ByteArray) (e : Int), Arr W (w.heap.size + 1) 24 (dkArr d.files A' c' d.fuse) → Below w.heap.size w W → Fls W W.heap.size A' d.files → d.files.length ≤ c' → a.tmps[4]? = some (.pointer (some ⟨w.heap.size + 1, 0, none⟩)) → a.tmps[5]? = some (.string i) → a.tmps[6]? = some (.int .i64 e) → a.defers = [] → bodyPost Tryd.prog Tryd.f6 (PutEnd w (d, i, e)) .ret a W) := fun W a d A' c' i e h1 h2 h3 h4 h5 h6 h8 h7 => by
    refine bodyPost_ret (v := .tuple #[.agg (dkArr d.files A' c' d.fuse), .string i, .int .i64 e]) ?_ h7 ⟨A', c', rfl, h3, h4, h2⟩
    rw [results_cell_tmp_tmp Tryd.results6]
    have hld := run_loadVar_row (P := Tryd.prog) _ _ _ 24 _ _ _ h1 Tryd.underlying24 rfl (dkInfo _ _ _ _)
    simp [Array.getD_eq_getD_getElem?, h5, h6, h8, asAddr, hld, Result.andThen]
  have HQ0 : Hid (putO ⟨L, z⟩ s = if (decO s.data.toList).2 ≠ 0 then (⟨L, z⟩, ⟨#[]⟩, (decO s.data.toList).2) else if hasO ⟨L, z⟩ (sumB s) = true then (⟨L, z⟩, sumB s, 0) else
    if (saveD ⟨L, z⟩ (fileN (sumB s)) s).2 ≠ 0 then ((saveD ⟨L, z⟩ (fileN (sumB s)) s).1, ⟨#[]⟩, (saveD ⟨L, z⟩ (fileN (sumB s)) s).2) else ((saveD ⟨L, z⟩ (fileN (sumB s)) s).1, sumB s, 0)) := rfl
  have CD := fun V => Lib.hid (Decode_any s V)
  have CI : ∀ V, Tab V → Hid (Calls Tryd.prog 11 #[.string s] V fun x w' => x = .returned (.string (sumB s)) ∧ Below V.heap.size V w') := fun V h => Id_any s (by omega) V h
  have CH := fun V a b => Lib.hid (has_st L (sumB s) A c z V a hz hl b)
  have CN := fun V => Lib.hid (fileName_st (sumB s) (sumB_size s) V)
  have CX := fun V h => Lib.hid (Save_any L (fileN (sumB s)) s (by rw [fileN_size (sumB_size s)]; omega) hs A c z V h hz hl hc hzf)
  generalize putO ⟨L, z⟩ s = Q at *
  generalize fileN (sumB s) = F at *
  generalize hasO ⟨L, z⟩ (sumB s) = H at *
  generalize saveD ⟨L, z⟩ F s = R at *
  generalize sumB s = I at *
  obtain ⟨⟨M, y⟩, g⟩ := R
  generalize decO s.data.toList = D at *
  obtain ⟨o, e⟩ := D
  have HQ : Hid (Q = if e ≠ 0 then (⟨L, z⟩, ⟨#[]⟩, e) else if H = true then (⟨L, z⟩, I, 0) else if g ≠ 0 then (⟨M, y⟩, ⟨#[]⟩, g) else (⟨M, y⟩, I, 0)) := HQ0
  clear HQ0
  go_enter Tryd.func6, Tryd.ntmps6
  go_upto_region 1 with fail
  refine wp_forget (Sv w L A c z) (by exact h0.out) ?_
  clear h0 b0
  intro V S
  have C1 : Hid (Calls Tryd.prog 14 #[.string s] V (DEnd V o e)) := CD V
  clear CD
  go_wp2_with fail
  (with_reducible refine C1.out.mono ?_)
  clear C1
  rintro _ V2 ⟨p, rfl, hO, b2⟩
  replace S := S.below b2
  clear b2 hO
  have S2 : Sv w L A c z ((V2.alloc (.cells zeroO 45)).setRow V2.heap.size (obArr o p)) := S.below (below_setRow ((Below.refl _ _).alloc (Nat.le_refl _) _) (Nat.le_refl _) _)
  go_upto_region 2 with (refine wpList_store_row rfl 45 _ _ rfl V2.heap.size (obArr o p) rfl rfl 45 zeroO (Arr.new V2 _ _) (obInfo _ _) rfl (obArr_one _ _) ?_)
  refine wp_forget (Sv w L A c z) (by exact S2) ?_
  clear S2 S V
  generalize V2.heap.size = qo
  clear V2
  intro V S
  have c0 : V.cell? ⟨w.heap.size, 0, none⟩ = some (.slice A L.length c) := S.1.cell 0
  have c1 : V.cell? ⟨w.heap.size, 1, none⟩ = some (.int .i64 z) := S.1.cell 1
  by_cases he : e = 0
  case neg =>
    have hb : (e != 0) = true := by rw [bne_iff_ne]; exact he
    have HR : Hid (Q = (⟨L, z⟩, ⟨#[]⟩, e)) := by show _ = _; rw [HQ.out, if_pos he]
    clear HQ he
    go_wp2_with (refine wpList_store_row rfl 24 _ _ rfl (w.heap.size + 1) (dkArr L A c z) rfl rfl 24 dkZero S.2.1 (dkInfo _ _ _ _) rfl (dkArr_one _ _ _ _) ?_)
    rw [HR.out]
    exact HRet.out _ _ ⟨L, z⟩ A c ⟨#[]⟩ e (S.2.1.row _) (below_setRow S.2.2.2 (by omega) _) (S.2.2.1.row S.2.1 _) hc rfl rfl rfl rfl
  subst he
  replace HQ : Hid (Q = if H = true then (⟨L, z⟩, I, 0) else if g ≠ 0 then (⟨M, y⟩, ⟨#[]⟩, g) else (⟨M, y⟩, I, 0)) := by show _ = _; rw [HQ.out, if_neg (fun h => h rfl)]
  have C1 := CI V (ht.below S.2.2.2 ht.1)
  clear CI c0 c1
  go_wp2_with fail
  (with_reducible refine C1.out.mono ?_)
  clear C1
  rintro _ V2 ⟨rfl, b2⟩
  replace S := S.below b2
  clear b2
  have c0 : V2.cell? ⟨w.heap.size, 0, none⟩ = some (.slice A L.length c) := S.1.cell 0
  have c1 : V2.cell? ⟨w.heap.size, 1, none⟩ = some (.int .i64 z) := S.1.cell 1
  have C1 := CH V2 S.2.2.1 (ht.below S.2.2.2 ht.1)
  clear CH
  go_wp2_with fail
  (with_reducible refine C1.out.mono ?_)
  clear C1 c0 c1
  rintro _ V3 ⟨rfl, b2⟩
  replace S := S.below b2
  clear b2 V V2
  have c0 : V3.cell? ⟨w.heap.size, 0, none⟩ = some (.slice A L.length c) := S.1.cell 0
  have c1 : V3.cell? ⟨w.heap.size, 1, none⟩ = some (.int .i64 z) := S.1.cell 1
  cases H with
  | true =>
    have HR : Hid (Q = (⟨L, z⟩, I, 0)) := by show _ = _; rw [HQ.out, if_pos rfl]
    clear HQ
    go_wp2_with (refine wpList_store_row rfl 24 _ _ rfl (w.heap.size + 1) (dkArr L A c z) rfl rfl 24 dkZero S.2.1 (dkInfo _ _ _ _) rfl (dkArr_one _ _ _ _) ?_)
    rw [HR.out]
    exact HRet.out _ _ ⟨L, z⟩ A c I 0 (S.2.1.row _) (below_setRow S.2.2.2 (by omega) _) (S.2.2.1.row S.2.1 _) hc rfl rfl rfl rfl
  | false =>
  replace HQ : Hid (Q = if g ≠ 0 then (⟨M, y⟩, ⟨#[]⟩, g) else (⟨M, y⟩, I, 0)) := by show _ = _; rw [HQ.out, if_neg (by simp)]
  have hq3 : w.heap.size + 1 < V3.heap.size := S.2.1.lt
  have Sd : Sv w L A c z V3.drew := S.below (below_drewN (Below.refl _ _) 1)
  have be : Below V3.heap.size V3 (V3.alloc (.cells dkZero 24)).drew := ((Below.refl _ V3).alloc (Nat.le_refl _) _).drew
  have Se : Sv w L A c z (V3.alloc (.cells dkZero 24)).drew := S.below be
  have AE : Arr (V3.alloc (.cells dkZero 24)).drew V3.heap.size 24 dkZero := (Arr.new _ _ _).drew
  have CNd := CN V3.drew
  have CNe := CN (V3.alloc (.cells dkZero 24)).drew
  replace CX : ∀ V, Fls V V.heap.size A L → Hid (Calls Tryd.prog 16 #[.agg #[.slice A L.length c, .int .i64 z], .string F, .string s] V (StEnd V (⟨M, y⟩, g))) := CX
  have d0 : V3.drew.cell? ⟨w.heap.size, 0, none⟩ = some (.slice A L.length c) := Sd.1.cell 0
  have d1 : V3.drew.cell? ⟨w.heap.size, 1, none⟩ = some (.int .i64 z) := Sd.1.cell 1
  have e0 : (V3.alloc (.cells dkZero 24)).drew.cell? ⟨w.heap.size, 0, none⟩ = some (.slice A L.length c) := Se.1.cell 0
  have e1 : (V3.alloc (.cells dkZero 24)).drew.cell? ⟨w.heap.size, 1, none⟩ = some (.int .i64 z) := Se.1.cell 1
  unfold dkZero at CNe e0 e1
  clear c0 c1 CN be
  go_upto_region 7 with fail
  go_region_law (first
    | (go_simp; go_at_call 17; (with_reducible refine CNd.out.mono ?_); rintro _ V4 ⟨rfl, b4⟩
       have S4 := Sd.below b4
       have x0 : V4.cell? ⟨w.heap.size, 0, none⟩ = some (.slice A L.length c) := S4.1.cell 0
       have x1 : V4.cell? ⟨w.heap.size, 1, none⟩ = some (.int .i64 z) := S4.1.cell 1
       have CX4 := CX V4 S4.2.2.1
       have Sf : Sv w L A c z (V4.alloc (.cells dkZero 24)) := S4.below ((Below.refl _ _).alloc (Nat.le_refl _) _)
       have AF : Arr (V4.alloc (.cells dkZero 24)) V4.heap.size 24 dkZero := Arr.new _ _ _
       have y0 : (V4.alloc (.cells dkZero 24)).cell? ⟨w.heap.size, 0, none⟩ = some (.slice A L.length c) := Sf.1.cell 0
       have y1 : (V4.alloc (.cells dkZero 24)).cell? ⟨w.heap.size, 1, none⟩ = some (.int .i64 z) := Sf.1.cell 1
       have CXf := CX (V4.alloc (.cells dkZero 24)) Sf.2.2.1
       have hq4 : w.heap.size + 1 < V4.heap.size := S4.2.1.lt
       unfold dkZero at y0 y1 CXf)
    | (go_simp; go_at_call 17; (with_reducible refine CNe.out.mono ?_); rintro _ V5 ⟨rfl, b5⟩
       have S5 := Se.below b5
       have AE5 := AE.below b5 AE.lt
       have x0 : V5.cell? ⟨w.heap.size, 0, none⟩ = some (.slice A L.length c) := S5.1.cell 0
       have x1 : V5.cell? ⟨w.heap.size, 1, none⟩ = some (.int .i64 z) := S5.1.cell 1
       have CX5 := CX V5 S5.2.2.1)
    | (go_simp; go_at_call 16; (with_reducible refine CX4.out.mono ?_); rintro _ V6 ⟨Ab, cb, rfl, hFb, hcb, b6⟩
       have HF : Hid (∀ W', W' = V6.alloc (.cells #[.slice Ab M.length cb, .int .i64 y] 24) → Xv w M Ab cb y V6.heap.size W') := put_late (S4.below b6) hFb
       simp only [dkArr])
    | (go_simp; go_at_call 16; (with_reducible refine CXf.out.mono ?_); rintro _ V6 ⟨Ab, cb, rfl, hFb, hcb, b6⟩
       have AF6 := AF.below b6 AF.lt
       have HF : Hid (∀ W', W' = (V6.setCell ⟨V4.heap.size, 0, none⟩ (.slice Ab M.length cb)).setCell ⟨V4.heap.size, 1, none⟩ (.int .i64 y) → Xv w M Ab cb y V4.heap.size W') := put_early (Sf.below b6) hFb AF6 hq4
       have z0 : V6.cell? ⟨V4.heap.size, 0, none⟩ = some (.slice none 0 0) := AF6.cell 0
       have z1 := AF6.free 0
       have AG := AF6.put 0 (.slice Ab M.length cb)
       have z2 : (V6.setCell ⟨V4.heap.size, 0, none⟩ (.slice Ab M.length cb)).cell? ⟨V4.heap.size, 1, none⟩ = some (.int .i64 0) := AG.cell 1
       have z3 := AG.free 1
       simp only [dkArr])
    | (go_simp; go_at_call 16; (with_reducible refine CX5.out.mono ?_); rintro _ V6 ⟨Ab, cb, rfl, hFb, hcb, b6⟩
       have AE6 := AE5.below b6 AE5.lt
       have HF : Hid (∀ W', W' = (V6.setCell ⟨V3.heap.size, 0, none⟩ (.slice Ab M.length cb)).setCell ⟨V3.heap.size, 1, none⟩ (.int .i64 y) → Xv w M Ab cb y V3.heap.size W') := put_early (S5.below b6) hFb AE6 hq3
       have z0 : V6.cell? ⟨V3.heap.size, 0, none⟩ = some (.slice none 0 0) := AE6.cell 0
       have z1 := AE6.free 0
       have AG := AE6.put 0 (.slice Ab M.length cb)
       have z2 : (V6.setCell ⟨V3.heap.size, 0, none⟩ (.slice Ab M.length cb)).cell? ⟨V3.heap.size, 1, none⟩ = some (.int .i64 0) := AG.cell 1
       have z3 := AG.free 1
       simp only [dkArr]))
  all_goals
    go_upto_region 8 with fail
    first
      | (refine wp_forget (Xv w M Ab cb y V6.heap.size) (by exact HF.out _ rfl) ?_
         generalize V6.heap.size = qb)
      | (refine wp_forget (Xv w M Ab cb y V4.heap.size) (by exact HF.out _ rfl) ?_
         generalize V4.heap.size = qb)
      | (refine wp_forget (Xv w M Ab cb y V3.heap.size) (by exact HF.out _ rfl) ?_
         generalize V3.heap.size = qb)
    intro V8 hX
    have g0 : V8.cell? ⟨qb, 0, none⟩ = some (.slice Ab M.length cb) := hX.1.cell 0
    have g1 : V8.cell? ⟨qb, 1, none⟩ = some (.int .i64 y) := hX.1.cell 1
    by_cases hg : g = 0
    · have HR : Hid (Q = (⟨M, y⟩, I, 0)) := by show _ = _; rw [HQ.out, if_neg (fun h => h hg)]
      subst hg
      go_wp2_with (refine wpList_store_row rfl 24 _ _ rfl (w.heap.size + 1) (dkArr M Ab cb y) rfl rfl 24 dkZero hX.2.1 (dkInfo _ _ _ _) rfl (dkArr_one _ _ _ _) ?_)
      rw [HR.out]
      exact HRet.out _ _ ⟨M, y⟩ Ab cb I 0 (hX.2.1.row _) (below_setRow hX.2.2.2 (by omega) _) (hX.2.2.1.row hX.2.1 _) hcb rfl rfl rfl rfl
    · have HR : Hid (Q = (⟨M, y⟩, ⟨#[]⟩, g)) := by show _ = _; rw [HQ.out, if_pos hg]
      have hgb : (g != 0) = true := by rw [bne_iff_ne]; exact hg
      go_wp2_with (refine wpList_store_row rfl 24 _ _ rfl (w.heap.size + 1) (dkArr M Ab cb y) rfl rfl 24 dkZero hX.2.1 (dkInfo _ _ _ _) rfl (dkArr_one _ _ _ _) ?_)
      rw [HR.out]
      exact HRet.out _ _ ⟨M, y⟩ Ab cb ⟨#[]⟩ g (hX.2.1.row _) (below_setRow hX.2.2.2 (by omega) _) (hX.2.2.1.row hX.2.1 _) hcb rfl rfl rfl rfl
end Go.Proofs.YtilolbefeoibhaaDoor

/- keep.pick: its contract. -/
namespace Go.Proofs.YtilolbefeoibhaaDoor
open Go.RowKit

def pk (k n : Int) : Int := if k.tmod n < 0 then k.tmod n + n else k.tmod n
theorem pk_in (k : Int) (n : Nat) (hn : 0 < n) : 0 ≤ pk k n ∧ pk k n < n := by
  have h1 := Int.tmod_lt_of_pos k (b := (n : Int)) (by omega)
  have h2 := Int.lt_tmod_of_pos k (b := (n : Int)) (by omega)
  unfold pk
  split <;> omega
theorem pick_any (k : Int) (n : Nat) (hn : 0 < n) (hn2 : n ≤ 281474976710656) (w : World) :
    Calls Tryd.prog 5 #[.int .i64 k, .int .i64 (n : Int)] w fun e w' => e = .returned (.int .i64 (pk k n)) ∧ w = w' := by
  have h1 := Int.tmod_lt_of_pos k (b := (n : Int)) (by omega)
  have h2 := Int.lt_tmod_of_pos k (b := (n : Int)) (by omega)
  by_cases h : k.tmod n < 0
  · have HP : Hid (pk k n = k.tmod n + n) := by show _ = _; unfold pk; rw [if_pos h]
    have hw : wrap64 (k.tmod n + n) = k.tmod n + n := IntWalk.wrap64_in _ (by omega)
    go_enter Tryd.func5, Tryd.ntmps5
    go_wp2_with fail
    go_ret
    exact ⟨by rw [HP.out]; rfl, rfl⟩
  · have HP : Hid (pk k n = k.tmod n) := by show _ = _; unfold pk; rw [if_neg h]
    go_enter Tryd.func5, Tryd.ntmps5
    go_wp2_with fail
    go_ret
    exact ⟨by rw [HP.out]; rfl, rfl⟩

end Go.Proofs.YtilolbefeoibhaaDoor
