/- Texts in one: StLoad, StReach, DkCrash, DkSave. -/
import Derived.Test.YtkcnogmjnmnbdaaGreatDoorStGet
import Derived.Test.YtkcnogmjnmnbdaaGreatDoorOEncB
import Derived.Test.YtkcnogmjnmnbdaaGreatDoorDkMath
/- store.onDisk, its getter, load at it, has: contracts. -/
namespace Go.Proofs.YtkcnogmjnmnbdaaGreatDoor
open Go.RowKit

theorem arr_in {w : World} {g : Nat} {ty : TypeId} {cs : Array Value} (h : Arr w g ty cs) {a : Addr} {v : Value} (hc : w.cell? a = some v) (hb : a.block = g) : ∃ i : Nat, cs[i]? = some v := by
  unfold World.cell? at hc
  unfold Arr at h
  rw [hb, h] at hc
  simp only at hc
  split at hc
  · cases hc
  · exact ⟨_, hc⟩
theorem func_eq_nil (F : Fn) (t c : Array Value) (w : World) : (binOp .eql 79 (.func F t c) .nilFunc).run Tryz.prog w = .ok (.bool false) w := by
  kernel_rfl
attribute [local go_sem] func_eq_nil
theorem zeroO_in : ∀ (i : Nat) (v : Value), zeroO[i]? = some v → (∀ b, v ≠ .bool b) ∧ (∀ s, v = .string s → s = ⟨#[]⟩)
  | 0, v, h => by simp [zeroO] at h; subst h; simp
  | 1, v, h => by simp [zeroO] at h; subst h; simp
  | 2, v, h => by simp [zeroO] at h; subst h; simp
  | 3, v, h => by simp [zeroO] at h; subst h; simp
  | 4, v, h => by simp [zeroO] at h; subst h; simp
  | 5, v, h => by simp [zeroO] at h; subst h; simp
  | 6, v, h => by simp [zeroO] at h; subst h; simp
  | 7, v, h => by simp [zeroO] at h; subst h; simp
  | 8, v, h => by simp [zeroO] at h; subst h; simp
  | n + 9, v, h => by simp [zeroO] at h
/-- an object in memory, and an empty result elsewhere that is filled -/
theorem ObIn.off {w w' : World} {B r : Nat} {o : Ob} {p : At} (h : ObIn w B o p) (hr : Arr w r 50 zeroO) (hp : ∀ x ∈ o.pars, x.size = 32) (hB : B ≤ w'.heap.size) (k : w.grownBy w' (some r)) : ObIn w' w'.heap.size o p := by
  refine ⟨fun i x hx => ?_, fun i x hx => ?_, h.room⟩
  · obtain ⟨ad, e, hb, h0, h1, h2⟩ := h.ents i x hx
    have hn : ¬ some (ad.add (i * 3)).block = some r := fun q => by
      obtain ⟨j, hj⟩ := arr_in hr h1 (Option.some.inj q)
      exact (zeroO_in _ _ hj).1 _ rfl
    exact ⟨ad, e, Nat.lt_of_lt_of_le hb hB, k.cell h0 hn, k.cell h1 hn, k.cell h2 hn⟩
  · obtain ⟨ad, e, hb, h0⟩ := h.pars i x hx
    have hn : ¬ some (ad.add i).block = some r := fun q => by
      obtain ⟨j, hj⟩ := arr_in hr h0 (Option.some.inj q)
      have e0 := (zeroO_in _ _ hj).2 _ rfl
      have e1 := hp x (List.mem_of_getElem? hx)
      rw [e0] at e1
      exact absurd e1 (by decide)
    exact ⟨ad, e, Nat.lt_of_lt_of_le hb hB, k.cell h0 hn⟩
theorem dec_pars {l : List UInt8} : ∀ x ∈ (decO l).1.pars, x.size = 32 := fun x hx => by
  by_cases h : (decO l).2 = 0
  · exact parsE_all _ _ (good_facts (dec_only h).2.1).ids x hx
  · rw [dec_none h] at hx
    cases hx
/-- what onDisk hands back, and what it keeps -/
def OdEnd (w : World) (L : List Fl) (A : Option Addr) (c : Nat) (z : Int) (x : Ending) (w' : World) : Prop :=
  x = .returned (.func (.func 84) #[] #[.pointer (some ⟨w.heap.size, 0, none⟩)]) ∧ Arr w' w.heap.size 37 (dkArr L A c z) ∧ Below w.heap.size w w'
theorem onDisk_st (L : List Fl) (A : Option Addr) (c : Nat) (z : Int) (w : World) : Calls Tryz.prog 47 #[.agg (dkArr L A c z)] w (OdEnd w L A c z) := by
  have A0 : Arr (w.alloc (.cells (dkArr L A c z) 37)) w.heap.size 37 (dkArr L A c z) := Arr.new _ _ _
  have b0 : Below w.heap.size w (w.alloc (.cells (dkArr L A c z) 37)) := (Below.refl _ _).alloc (Nat.le_refl _) _
  go_enter Tryz.func47, Tryz.ntmps47
  go_wp2_with fail
  go_ret
  exact ⟨rfl, A0, b0⟩
theorem getter_st (L : List Fl) (id : ByteArray) (A : Option Addr) (c : Nat) (z : Int) (q : Nat) (w : World) (hq : Arr w q 37 (dkArr L A c z)) (hP : Fls w w.heap.size A L) (hz : Sized L) (hl : L.length ≤ 140737488355328) (ht : Tab w) :
    Calls Tryz.prog 84 #[.string id, .pointer (some ⟨q, 0, none⟩)] w fun e w' => e = .returned (.tuple #[.string (getO ⟨L, z⟩ id).1, .int .i64 (getO ⟨L, z⟩ id).2]) ∧ Below w.heap.size w w' := by
  have C := Lib.hid (Get_st L id A c z w hP hz hl ht)
  generalize getO ⟨L, z⟩ id = Q at *
  obtain ⟨s, e⟩ := Q
  have c0 : w.cell? ⟨q, 0, none⟩ = some (.slice A L.length c) := hq.cell 0
  have c1 : w.cell? ⟨q, 1, none⟩ = some (.int .i64 z) := hq.cell 1
  go_enter Tryz.func84, Tryz.ntmps84
  go_wp2_with fail
  (with_reducible refine C.out.mono ?_)
  rintro _ w1 ⟨rfl, b1⟩
  go_wp2_with fail
  go_ret2
  exact ⟨rfl, b1⟩
set_option maxRecDepth 100000 in
set_option maxHeartbeats 1000000 in
theorem load_disk (L : List Fl) (id : ByteArray) (A : Option Addr) (c : Nat) (z : Int) (q : Nat) (w : World) (hq : Arr w q 37 (dkArr L A c z)) (hP : Fls w w.heap.size A L) (hz : Sized L) (hl : L.length ≤ 140737488355328) (ht : Tab w) :
    Calls Tryz.prog 33 #[.func (.func 84) #[] #[.pointer (some ⟨q, 0, none⟩)], .string id] w (DEndA w (loadR (getO ⟨L, z⟩ id)).1 (loadR (getO ⟨L, z⟩ id)).2) := by
  have CG := fun V a b d => Lib.hid (getter_st L id A c z q V a b hz hl d)
  generalize getO ⟨L, z⟩ id = Q at *
  obtain ⟨s, e⟩ := Q
  have HR0 : Hid (loadR (s, e) = if e ≠ 0 then (Ob.none, 7) else if (decO s.data.toList).2 ≠ 0 then (Ob.none, 2) else ((decO s.data.toList).1, 0)) := rfl
  have CD := fun V => Lib.hid (Decode_far s V)
  generalize loadR (s, e) = R at *
  have hpp : ∀ x ∈ (decO s.data.toList).1.pars, x.size = 32 := dec_pars
  generalize decO s.data.toList = D at *
  obtain ⟨o, e2⟩ := D
  have hp : ∀ x ∈ o.pars, x.size = 32 := hpp
  clear hpp
  have hqlt := hq.lt
  go_enter Tryz.func33, Tryz.ntmps33
  go_upto_region 1 with fail
  refine wp_forget (Dx w) ⟨Arr.new _ _ _, (Below.refl _ _).alloc (Nat.le_refl _) _⟩ ?_
  intro W hW
  have C1 : Hid (Calls Tryz.prog 84 #[.string id, .pointer (some ⟨q, 0, none⟩)] W fun x w' => x = .returned (.tuple #[.string s, .int .i64 e]) ∧ Below W.heap.size W w') := CG W (hq.below hW.2 hqlt) (hP.up hW.2) (ht.below hW.2 ht.1)
  clear CG
  go_wp2_with fail
  (with_reducible refine C1.out.mono ?_)
  clear C1
  rintro _ W1 ⟨rfl, b1⟩
  replace hW := hW.below b1
  clear b1 W
  by_cases he : e = 0
  case neg =>
    have hb : (e != 0) = true := by rw [bne_iff_ne]; exact he
    have HR : Hid (R = (Ob.none, 7)) := by show _ = _; rw [HR0.out, if_pos he]
    clear HR0 he
    go_wp2_with (refine wpList_store_row rfl 50 _ _ rfl w.heap.size (obArr Ob.none atNil) rfl rfl 50 zeroO hW.1 (obInfo _ _) rfl (obArr_one _ _) ?_)
    refine bodyPost_ret (v := .tuple #[.agg (obArr Ob.none atNil), .int .i64 7]) ?_ rfl (DEndA_eq HR.out (hW.noneA 7))
    rw [results_cell_tmp Tryz.results33]
    have hld := run_loadVar_row (P := Tryz.prog) _ _ _ 50 _ _ _ (hW.1.row (obArr Ob.none atNil)) Tryz.underlying50 rfl (obInfo Ob.none atNil)
    simp [asAddr, hld, Result.andThen]
  subst he
  have HR1 : Hid (R = if e2 ≠ 0 then (Ob.none, 2) else (o, 0)) := by show _ = _; rw [HR0.out, if_neg (fun h => h rfl)]
  clear HR0
  have C2 : Hid (Calls Tryz.prog 25 #[.string s] W1 (DEndA W1 o e2)) := CD W1
  clear CD
  go_wp2_with fail
  (with_reducible refine C2.out.mono ?_)
  clear C2
  rintro _ W2 ⟨p, rfl, hO, b1, hab⟩
  have hab2 : Above w.heap.size p := hab.mono (Nat.le_of_lt hW.1.lt)
  clear hab
  replace hW := hW.below b1
  clear b1 W1
  have hX : Arr ((W2.alloc (.cells zeroO 50)).setRow W2.heap.size (obArr o p)) W2.heap.size 50 (obArr o p) := (Arr.new _ _ _).row _
  have bb : Below W2.heap.size W2 ((W2.alloc (.cells zeroO 50)).setRow W2.heap.size (obArr o p)) := below_setRow ((Below.refl _ _).alloc (Nat.le_refl _) _) (Nat.le_refl _) _
  go_upto_region 7 with (refine wpList_store_row rfl 50 _ _ rfl W2.heap.size (obArr o p) rfl rfl 50 zeroO (Arr.new W2 _ _) (obInfo _ _) rfl (obArr_one _ _) ?_)
  refine wp_forget (fun W => Dx w W ∧ Arr W W2.heap.size 50 (obArr o p) ∧ ObIn W W2.heap.size o p ∧ w.heap.size < W2.heap.size) (by exact ⟨hW.below bb, hX, hO.below bb, hW.1.lt⟩) ?_
  clear hX bb hO hW
  generalize W2.heap.size = b at *
  clear W2
  rintro W ⟨hW, hX, hO, hlt⟩
  by_cases he : e2 = 0
  case neg =>
    have hb : (e2 != 0) = true := by rw [bne_iff_ne]; exact he
    have HR : Hid (R = (Ob.none, 2)) := by show _ = _; rw [HR1.out, if_pos he]
    clear HR1 he
    go_wp2_with (refine wpList_store_row rfl 50 _ _ rfl w.heap.size (obArr Ob.none atNil) rfl rfl 50 zeroO hW.1 (obInfo _ _) rfl (obArr_one _ _) ?_)
    refine bodyPost_ret (v := .tuple #[.agg (obArr Ob.none atNil), .int .i64 2]) ?_ rfl (DEndA_eq HR.out (hW.noneA 2))
    rw [results_cell_tmp Tryz.results33]
    have hld := run_loadVar_row (P := Tryz.prog) _ _ _ 50 _ _ _ (hW.1.row (obArr Ob.none atNil)) Tryz.underlying50 rfl (obInfo Ob.none atNil)
    simp [asAddr, hld, Result.andThen]
  subst he
  have HR : Hid (R = (o, 0)) := by show _ = _; rw [HR1.out, if_neg (fun h => h rfl)]
  clear HR1
  go_wp2_with (first | (refine wpList_load_row rfl 50 _ rfl b rfl 50 _ (0, 0) _ hX Tryz.underlying50 rfl (obInfo o p) ?_) | (refine wpList_store_row rfl 50 _ _ rfl w.heap.size (obArr o p) rfl rfl 50 zeroO hW.1 (obInfo _ _) rfl (obArr_one _ _) ?_))
  refine bodyPost_ret (v := .tuple #[.agg (obArr o p), .int .i64 0]) ?_ rfl (DEndA_eq HR.out ⟨p, rfl, ?_, below_setRow hW.2 (Nat.le_refl _) _, hab2⟩)
  · rw [results_cell_tmp Tryz.results33]
    have hld := run_loadVar_row (P := Tryz.prog) _ _ _ 50 _ _ _ (hW.1.row (obArr o p)) Tryz.underlying50 rfl (obInfo o p)
    simp [asAddr, hld, Result.andThen]
  · exact hO.off hW.1 hp (Nat.le_trans (Nat.le_of_lt hX.lt) (gb_row w.heap.size (obArr o p)).size) (gb_row _ _)
set_option maxRecDepth 100000 in
set_option maxHeartbeats 1000000 in
theorem has_st (L : List Fl) (id : ByteArray) (A : Option Addr) (c : Nat) (z : Int) (w : World) (hP : Fls w w.heap.size A L) (hz : Sized L) (hl : L.length ≤ 140737488355328) (ht : Tab w) :
    Calls Tryz.prog 51 #[.agg #[.slice A L.length c, .int .i64 z], .string id] w fun e w' => e = .returned (.bool (hasO ⟨L, z⟩ id)) ∧ Below w.heap.size w w' := by
  have A0 : Arr (w.alloc (.cells (dkArr L A c z) 37)) w.heap.size 37 (dkArr L A c z) := Arr.new _ _ _
  have b0 : Below w.heap.size w (w.alloc (.cells (dkArr L A c z) 37)) := (Below.refl _ _).alloc (Nat.le_refl _) _
  have HH : Hid (hasO ⟨L, z⟩ id = decide ((loadR (getO ⟨L, z⟩ id)).2 = 0)) := rfl
  have CO := fun V => Lib.hid (onDisk_st L A c z V)
  have CL := fun q V a b d => Lib.hid (load_disk L id A c z q V a b hz hl d)
  generalize loadR (getO ⟨L, z⟩ id) = R at *
  obtain ⟨o, e⟩ := R
  generalize hasO ⟨L, z⟩ id = H at *
  have HH' : Hid (H = decide (e = 0)) := HH
  clear HH
  go_enter Tryz.func51, Tryz.ntmps51
  go_upto_region 1 with fail
  refine wp_forget (fun V => Arr V w.heap.size 37 (dkArr L A c z) ∧ Below w.heap.size w V) (by exact ⟨A0, b0⟩) ?_
  clear A0 b0
  rintro V ⟨A0, b0⟩
  have c0 : V.cell? ⟨w.heap.size, 0, none⟩ = some (.slice A L.length c) := A0.cell 0
  have c1 : V.cell? ⟨w.heap.size, 1, none⟩ = some (.int .i64 z) := A0.cell 1
  have C1 : Hid (Calls Tryz.prog 47 #[.agg #[.slice A L.length c, .int .i64 z]] V (OdEnd V L A c z)) := CO V
  clear CO
  go_wp2_with fail
  (with_reducible refine C1.out.mono ?_)
  clear C1 c0 c1
  rintro _ V1 ⟨rfl, hq, b2⟩
  replace b0 := b0.trans (b2.mono b0.size)
  have C2 := CL V.heap.size V1 hq (hP.up b0) (ht.below b0 ht.1)
  clear CL b2 hq
  generalize V.heap.size = q at *
  go_wp2_with fail
  (with_reducible refine C2.out.mono ?_)
  clear C2
  rintro _ V2 ⟨p, rfl, hO, b2, _⟩
  replace b0 := b0.trans (b2.mono b0.size)
  clear b2 hO
  have bb : Below w.heap.size w ((V2.alloc (.cells zeroO 50)).setRow V2.heap.size (obArr o p)) := b0.trans ((below_setRow ((Below.refl _ _).alloc (Nat.le_refl _) _) (Nat.le_refl _) _).mono b0.size)
  go_upto_region 2 with (refine wpList_store_row rfl 50 _ _ rfl V2.heap.size (obArr o p) rfl rfl 50 zeroO (Arr.new V2 _ _) (obInfo _ _) rfl (obArr_one _ _) ?_)
  refine wp_forget (fun W => Below w.heap.size w W) (by exact bb) ?_
  clear bb b0 A0
  intro W b0
  by_cases he : e = 0
  · subst he
    go_wp2_with fail
    go_ret
    exact ⟨by rw [HH'.out]; rfl, b0⟩
  · have hb : (e == 0) = false := by rw [beq_eq_false_iff_ne]; exact he
    have HQ : Hid (H = false) := by show _ = _; rw [HH'.out, decide_eq_false he]
    clear HH' he
    go_wp2_with fail
    go_ret
    exact ⟨by rw [HQ.out]; rfl, b0⟩
end Go.Proofs.YtkcnogmjnmnbdaaGreatDoor

/- store.Reach at the getter of a disk: its contract. -/
namespace Go.Proofs.YtkcnogmjnmnbdaaGreatDoor
open Go.RowKit
theorem round_less {k ub : Nat} (h : k < ub) : ub - ((k : Int) + 1).toNat < ub - ((k : Int)).toNat := by omega
def RhRel_disk (G : ByteArray → ByteArray × Int) (U : List ByteArray) (ub base g gv : Nat) (w : World) (mv lv wv i : Value) (wr : World) : Prop :=
  ∃ (k m : Nat) (la wo : Bool) (V : List ByteArray) (v : Value), mv = .int .i64 (m : Int) ∧ lv = .bool la ∧ wv = .bool wo ∧ i = .int .i64 (k : Int) ∧ m ≤ 400 ∧ k ≤ V.length ∧ V.length ≤ U.length + 64 * m ∧ Vi base g gv V v wr ∧ Below w.heap.size w wr ∧
    reachGo G (ub + 1 - k) V k m la wo = reachO G U
set_option maxRecDepth 100000 in
set_option maxHeartbeats 4000000 in
theorem Reach_disk (HSort : SortSaid) (L : List Fl) (A : Option Addr) (c : Nat) (z : Int) (q : Nat) (w : World) (hq : Arr w q 37 (dkArr L A c z)) (hP : Fls w w.heap.size A L) (hz : Sized L) (hll : L.length ≤ 140737488355328) (ht : Tab w) (U : List ByteArray) (UA : Option Addr) (uc : Nat) (hU : Txs w w.heap.size UA U) (hul : (U.length + 30000) * 16 ≤ 140737488355328) :
    Calls Tryz.prog 7 #[.func (.func 84) #[] #[.pointer (some ⟨q, 0, none⟩)], .slice UA U.length uc] w (RhEnd w (reachO (getO ⟨L, z⟩) U)) := by
  have CL := fun (W : World) (x : ByteArray) (b : Below w.heap.size w W) => Lib.hid (load_disk L x A c z q W (hq.below b hq.lt) (hP.up b) hz hll (ht.below b ht.1))
  have C1 : Hid (Calls Tryz.prog 32 #[.slice UA U.length uc] w (NvEnd w (addAll [] U))) := newVisits_any U UA uc w hU (by omega)
  have hal := addAll_len U []
  generalize hGG : getO ⟨L, z⟩ = G at *
  clear hGG
  have hR0 : reachGo G (U.length + 30000 + 1) (addAll [] U) 0 0 false false = reachO G U := by unfold reachO; rfl
  obtain ⟨ub, hub⟩ : ∃ ub, ub = U.length + 30000 := ⟨_, rfl⟩
  rw [← hub] at hR0
  have hub2 : U.length + 26000 ≤ ub := by omega
  clear hub
  go_enter Tryz.func7, Tryz.ntmps7
  go_wp2_with fail
  (with_reducible refine C1.out.mono ?_)
  clear C1
  rintro _ W0 ⟨g, gv, v0, rfl, hV0, b0⟩
  have h1 : Hid (RhRel_disk G U ub w.heap.size g gv w (.int .i64 0) (.bool false) (.bool false) (.int .i64 0) W0) := ⟨0, 0, false, false, addAll [] U, v0, rfl, rfl, rfl, rfl, by omega, Nat.zero_le _, by simpa using hal, hV0, b0, (by rw [Nat.sub_zero]; exact hR0)⟩
  clear hV0 b0 hal hR0
  go_wp2_with fail
  go_loopw [7, 8, 9, 10] (fun mv lv wv i wr => RhRel_disk G U ub w.heap.size g gv w mv lv wv i wr) (fun _ _ _ i _ => ub - (intOf i).toNat)
  case atStart => exact h1.out
  case round =>
    clear h1 W0
    obtain ⟨k, m, la, wo, V, v, rfl, rfl, rfl, rfl, hm, hk, hVl, hV, hB, hG⟩ := hrel
    obtain ⟨A9, cc, rfl, hcc, hT, hA2⟩ := own_texts hV.row
    have g0 : wr.cell? ⟨g, 0, none⟩ = some (.slice A9 V.length cc) := hV.box.cell 0
    have HV := Lib.hid hV
    clear hV
    have hV62 : (V.length : Int) ≤ 140737488355328 := by omega
    by_cases hlt : k < V.length
    case neg =>
      obtain rfl : k = V.length := by omega
      have hi : ¬ (V.length : Int) < V.length := by omega
      have hGF : reachO G U = if la then ([], 7) else if wo then ([], 2) else (sortB V, 0) := by
        rw [← hG, show ub + 1 - V.length = (ub - V.length) + 1 from by omega, reachGo, if_neg hlt]
      clear hG
      cases la with
      | true =>
        have HQ : Hid (reachO G U = ([], 7)) := hGF
        clear hGF
        go_wp2_with fail
        go_ret2
        rw [HQ.out]
        exact ⟨none, 0, rfl, Txs.nil _ _ _, hB⟩
      | false =>
      cases wo with
      | true =>
        have HQ : Hid (reachO G U = ([], 2)) := hGF
        clear hGF
        go_wp2_with fail
        go_ret2
        rw [HQ.out]
        exact ⟨none, 0, rfl, Txs.nil _ _ _, hB⟩
      | false =>
      have HQ : Hid (reachO G U = (sortB V, 0)) := hGF
      have CS := Lib.hid (HSort V _ _ wr HV.out.row (by omega))
      clear hGF hT hA2
      go_wp2_with fail
      (with_reducible refine CS.out.mono ?_)
      clear CS
      rintro _ W2 ⟨rfl, hrow, hgr⟩
      have hne := own_ne HV.out.row HV.out.box (by decide)
      have hbox := HV.out.box.kept hgr (fun e => hne e.symm)
      have g2 : W2.cell? ⟨g, 0, none⟩ = some (.slice A9 V.length cc) := hbox.cell 0
      have hB2 : Below w.heap.size w W2 := hB.grown hgr hB.size (fun q hq => own_row_ge HV.out.row q hq)
      have hsl : (sortB V).length = V.length := sortB_len V
      have hrow2 : W2.ownsRow w.heap.size 9 1 (.slice A9 V.length cc) (sortB V).length ((sortB V).map sv) := by rw [hsl]; exact hrow
      obtain ⟨A8, c8, e8, _, hT8, _⟩ := own_texts hrow2
      rw [hsl] at e8
      cases e8
      clear g0 hbox hrow hrow2 hgr hne HV
      have HSl := Lib.hid hsl
      clear hsl
      go_wp2_with fail
      go_ret2
      rw [HQ.out]
      exact ⟨A9, cc, by rw [HSl.out]; rfl, hT8, hB2⟩
    have hi : (k : Int) < V.length := by omega
    have hx : V[k]? = some V[k] := List.getElem?_eq_getElem hlt
    obtain ⟨ad, ead, hbl, c0⟩ := hT k V[k] hx
    subst ead
    have hG2 : reachO G U = (if (loadR (G V[k])).2 = 0 then (if 400 < m + 1 then ([], 6) else reachGo G (ub + 1 - (k + 1)) (addAll V (linksL (loadR (G V[k])).1)) (k + 1) (m + 1) la wo)
       else if (loadR (G V[k])).2 = 7 then reachGo G (ub + 1 - (k + 1)) V (k + 1) m true wo else reachGo G (ub + 1 - (k + 1)) V (k + 1) m la true) := by
      rw [← hG, show ub + 1 - k = (ub + 1 - (k + 1)) + 1 from by omega, reachGo, if_pos hlt, List.getD_eq_getElem?_getD, hx, Option.getD_some]
    clear hG
    have HG := Lib.hid hG2
    clear hG2
    have hadl : ad.block < wr.heap.size := by
      have e : (ad.add k).block = ad.block := by unfold Addr.add; split <;> rfl
      rw [← e]; exact hbl
    have CL1 := CL wr V[k] hB
    have hsm := loadR_small (G V[k])
    have hle := loadR_err (G V[k])
    generalize V[k] = x at *
    generalize loadR (G x) = R at *
    obtain ⟨o, e⟩ := R
    obtain ⟨hel, hpl⟩ := hsm
    simp only at hel hpl hle
    clear hx hT hA2
    go_wp2_with fail
    (with_reducible refine CL1.out.mono ?_)
    clear CL1
    rintro _ W2 ⟨p, rfl, hO, b1, hab⟩
    have bb : Below W2.heap.size W2 ((W2.alloc (.cells zeroO 50)).setRow W2.heap.size (obArr o p)) := below_setRow ((Below.refl _ _).alloc (Nat.le_refl _) _) (Nat.le_refl _) _
    have HF : Hid (Vi w.heap.size g gv V (.slice (some ad) V.length cc) ((W2.alloc (.cells zeroO 50)).setRow W2.heap.size (obArr o p)) ∧ Arr ((W2.alloc (.cells zeroO 50)).setRow W2.heap.size (obArr o p)) W2.heap.size 50 (obArr o p) ∧ ObIn ((W2.alloc (.cells zeroO 50)).setRow W2.heap.size (obArr o p)) W2.heap.size o p ∧ W2.heap.size ≤ ((W2.alloc (.cells zeroO 50)).setRow W2.heap.size (obArr o p)).heap.size ∧ Below w.heap.size w ((W2.alloc (.cells zeroO 50)).setRow W2.heap.size (obArr o p))) :=
      ⟨(HV.out.bel b1).bel bb, (Arr.new _ _ _).row _, hO.below bb, bb.size, (hB.trans (b1.mono hB.size)).trans (bb.mono (Nat.le_trans hB.size b1.size))⟩
    have hwr2 : wr.heap.size ≤ W2.heap.size := b1.size
    clear g0 c0 HV b1 hO bb
    go_upto_region 7 with (refine wpList_store_row rfl 50 _ _ rfl W2.heap.size (obArr o p) rfl rfl 50 zeroO (Arr.new W2 _ _) (obInfo _ _) rfl (obArr_one _ _) ?_)
    refine wp_forget (fun W => Vi w.heap.size g gv V (.slice (some ad) V.length cc) W ∧ Arr W W2.heap.size 50 (obArr o p) ∧ ObIn W W2.heap.size o p ∧ W2.heap.size ≤ W.heap.size ∧ Below w.heap.size w W) (by exact HF.out) ?_
    clear HF
    rintro W3 ⟨hV3, hX, hO, hle3, hB3⟩
    generalize W2.heap.size = b at *
    rcases hle with rfl | rfl | rfl
    · by_cases hful : 400 < m + 1
      · obtain rfl : m = 400 := by omega
        have HQ : Hid (reachO G U = ([], 6)) := by show _ = _; rw [HG.out, if_pos rfl, if_pos hful]
        have CK := Lib.hid (Links_far o p W3 (hO.mono hle3) (by omega) (by omega))
        have hlk := linksL_len hel hpl
        generalize linksL o = K at *
        clear HG
        go_wp2_with (refine wpList_load_row rfl 50 _ rfl b rfl 50 _ (0, 0) _ hX Tryz.underlying50 rfl (obInfo o p) ?_)
        (with_reducible refine CK.out.mono ?_)
        clear CK
        rintro _ W4 ⟨A4, c4, rfl, hT4, b4, hA4⟩
        have C5 := Lib.hid (vadd_any (hV3.bel b4) K A4 c4 hT4 (fun a ea e => by have := hA4 a ea; have h2 : ad.block = a.block := Option.some.inj e; omega) (by omega))
        go_wp2_with fail
        (with_reducible refine C5.out.mono ?_)
        clear C5
        rintro _ W5 ⟨rfl, ⟨v', hV5⟩, b5⟩
        have hB5 := (hB3.trans (b4.mono hB3.size)).trans b5
        go_wp2_with fail
        go_ret2
        rw [HQ.out]
        exact ⟨none, 0, rfl, Txs.nil _ _ _, hB5⟩
      · have HQ : Hid (reachGo G (ub + 1 - (k + 1)) (addAll V (linksL o)) (k + 1) (m + 1) la wo = reachO G U) := by show _ = _; rw [HG.out, if_pos rfl, if_neg hful]
        have hmi : ¬ (400 : Int) < (m : Int) + 1 := by omega
        have CK := Lib.hid (Links_far o p W3 (hO.mono hle3) (by omega) (by omega))
        have hlk := linksL_len hel hpl
        generalize linksL o = K at *
        clear HG
        go_wp2_with (refine wpList_load_row rfl 50 _ rfl b rfl 50 _ (0, 0) _ hX Tryz.underlying50 rfl (obInfo o p) ?_)
        (with_reducible refine CK.out.mono ?_)
        clear CK
        rintro _ W4 ⟨A4, c4, rfl, hT4, b4, hA4⟩
        have C5 := Lib.hid (vadd_any (hV3.bel b4) K A4 c4 hT4 (fun a ea e => by have := hA4 a ea; have h2 : ad.block = a.block := Option.some.inj e; omega) (by omega))
        go_wp2_with fail
        (with_reducible refine C5.out.mono ?_)
        clear C5
        rintro _ W5 ⟨rfl, ⟨v', hV5⟩, b5⟩
        have hB5 := (hB3.trans (b4.mono hB3.size)).trans b5
        have hm1 : m + 1 ≤ 400 := by omega
        have hVk : k + 1 ≤ (addAll V K).length := by
          obtain ⟨Z, hZ⟩ := addAll_ext K V
          rw [hZ, List.length_append]
          omega
        have hVm : (addAll V K).length ≤ U.length + 64 * (m + 1) := by
          have ha := addAll_len K V
          omega
        have hkU : k < ub := by omega
        have HVk := Lib.hid hVk
        have HVm := Lib.hid hVm
        rw [show ((m : Int) + 1) = ((m + 1 : Nat) : Int) from by rw [Int.natCast_add]; rfl]
        clear hmi hVk hVm hful hm hVl hlk hel hpl
        generalize m + 1 = m2 at *
        have hmi : ¬ (400 : Int) < (m2 : Int) := by omega
        clear hX hO hV3 hab hT4 hA4 b4 b5 hle3 hB3
        generalize obArr o p = arr
        generalize K.length = kl
        have HK := Lib.hid hkU
        have HWK := Lib.hid (IntWalk.i64_in ((k : Int) + 1) (by omega))
        clear hul hV62 hlt hk hkU hi
        go_upto_region 5 with fail
        have hwk := HWK.out
        go_wp2_with fail
        go_roundw
        case rel =>
          exact ⟨k + 1, m2, la, wo, _, v', rfl, rfl, rfl, by rw [Int.natCast_add]; rfl, hm1, HVk.out, HVm.out, hV5, hB5, HQ.out⟩
        case measure =>
          have h9 := HK.out
          clear HK HVk HVm
          simp only [intOf]
          exact round_less h9
    · have HQ : Hid (reachGo G (ub + 1 - (k + 1)) V (k + 1) m true wo = reachO G U) := by show _ = _; rw [HG.out, if_neg (show ¬ ((o, (7 : Int)).2 = 0) from fun h => absurd (show (7 : Int) = 0 from h) (by decide)), if_pos rfl]
      have hmi : ¬ (400 : Int) < (m : Int) := by omega
      clear HG
      go_wp2_with fail
      go_roundw
      case rel => exact ⟨k + 1, m, true, wo, V, _, rfl, rfl, rfl, by rw [Int.natCast_add]; rfl, hm, hlt, hVl, hV3, hB3, HQ.out⟩
      case measure => simp [intOf]; omega
    · have HQ : Hid (reachGo G (ub + 1 - (k + 1)) V (k + 1) m la true = reachO G U) := by show _ = _; rw [HG.out, if_neg (show ¬ ((o, (2 : Int)).2 = 0) from fun h => absurd (show (2 : Int) = 0 from h) (by decide)), if_neg (show ¬ ((o, (2 : Int)).2 = 7) from fun h => absurd (show (2 : Int) = 7 from h) (by decide))]
      have hmi : ¬ (400 : Int) < (m : Int) := by omega
      clear HG
      go_wp2_with fail
      go_roundw
      case rel => exact ⟨k + 1, m, la, true, V, _, rfl, rfl, rfl, by rw [Int.natCast_add]; rfl, hm, hlt, hVl, hV3, hB3, HQ.out⟩
      case measure => simp [intOf]; omega
end Go.Proofs.YtkcnogmjnmnbdaaGreatDoor

/- disk.Crash: its contract. -/
namespace Go.Proofs.YtkcnogmjnmnbdaaGreatDoor
open Go.RowKit

def zeroFl : Fl := ⟨⟨#[]⟩, ⟨#[]⟩, ⟨#[]⟩⟩
theorem cells_zero : ∀ n : Nat, flCells (List.replicate n zeroFl) = List.replicate (n * 3) (.string ⟨#[]⟩)
  | 0 => rfl
  | n + 1 => by
    rw [List.replicate_succ, flCells, cells_zero n, show (n + 1) * 3 = n * 3 + 1 + 1 + 1 from by omega]
    rfl
theorem made_zero (n : Nat) : (madeCells flZero (n * 3)).toList = flCells (List.replicate n zeroFl) := by
  rw [cells_zero]
  apply List.ext_getElem?
  intro j
  by_cases hj : j < n * 3
  · rw [List.getElem?_replicate, if_pos hj]
    have hm : j % 3 = 0 ∨ j % 3 = 1 ∨ j % 3 = 2 := by omega
    have e : flZero[j % flZero.size]! = .string ⟨#[]⟩ := by
      show flZero[j % 3]! = _
      rcases hm with m | m | m <;> rw [m] <;> rfl
    simp [madeCells, hj, e]
  · rw [List.getElem?_eq_none (by simp [madeCells]; omega), List.getElem?_eq_none (by simp; omega)]
/-- the first k files as a crash leaves them, the others not made yet -/
def mix (L : List Fl) (m k : Nat) : List Fl := (L.take k).map (crashF m) ++ List.replicate (L.length - k) zeroFl
theorem mix_len (L : List Fl) (m k : Nat) (h : k ≤ L.length) : (mix L m k).length = L.length := by
  unfold mix
  rw [List.length_append, List.length_map, List.length_take, List.length_replicate]
  omega
theorem mix_set {L : List Fl} {m k : Nat} {x : Fl} (h : L[k]? = some x) : (mix L m k).set k (crashF m x) = mix L m (k + 1) := by
  obtain ⟨hlt, he⟩ := List.getElem?_eq_some_iff.1 h
  unfold mix
  have hl : ((L.take k).map (crashF m)).length = k := by rw [List.length_map, List.length_take]; omega
  rw [List.set_append_right _ _ (by omega), hl, Nat.sub_self, List.take_succ_eq_append_getElem hlt, he, List.map_append, List.append_assoc, show L.length - k = (L.length - (k + 1)) + 1 from by omega, List.replicate_succ, List.set_cons_zero]
  rfl
def CrRel (L : List Fl) (m : Nat) (A : Option Addr) (c : Nat) (z : Int) (w : World) (g : Nat) (i : Value) (wr : World) : Prop :=
  ∃ k : Nat, k ≤ L.length ∧ i = .int .i64 (k : Int) ∧ Arr wr w.heap.size 37 (dkArr L A c z) ∧ Arr wr (w.heap.size + 1) 37 dkZero ∧ Arr wr g 73 (flCells (mix L m k)).toArray ∧ Below w.heap.size w wr
end Go.Proofs.YtkcnogmjnmnbdaaGreatDoor

/- disk.Save: its contract. -/
namespace Go.Proofs.YtkcnogmjnmnbdaaGreatDoor
open Go.RowKit

theorem dkArr_no (L : List Fl) (A : Option Addr) (c : Nat) (z : Int) : ∀ (i : Nat) (t : ByteArray), (dkArr L A c z)[i]? ≠ some (.string t)
  | 0, t => by simp [dkArr]
  | 1, t => by simp [dkArr]
  | n + 2, t => by simp [dkArr]
theorem Fls.rowD {w : World} {A : Option Addr} {L M : List Fl} {B : Option Addr} {d : Nat} {y : Int} {g : Nat} (h : Fls w w.heap.size A L) (hg : Arr w g 37 (dkArr M B d y)) (cs' : Array Value) : Fls (w.setRow g cs') (w.setRow g cs').heap.size A L := fun k x hx => by
  obtain ⟨ad, e, hb, h0, h1, h2⟩ := h k x hx
  have k1 : w.grownBy (w.setRow g cs') (some g) := gb_row _ _
  have hne : (ad.add (k * 3)).block ≠ g := fun q => by
    rw [q, hg.cell] at h1
    exact dkArr_no _ _ _ _ _ _ h1
  have hn : ¬ some (ad.add (k * 3)).block = some g := fun q => hne (Option.some.inj q)
  exact ⟨ad, e, Nat.lt_of_lt_of_le hb k1.size, k1.cell h0 hn, k1.cell h1 hn, k1.cell h2 hn⟩
theorem wr_err {L : List Fl} {n s : ByteArray} : ∀ e, wrP L n s = .error e → e ≠ 0 := fun e h => by
  unfold wrP at h
  split at h
  · cases h; decide
  · split at h
    · split at h
      · cases h; decide
      · split at h
        · cases h; decide
        · cases h
    · split at h
      · cases h; decide
      · cases h
theorem sy_err {L : List Fl} {n : ByteArray} : ∀ e, syP L n = .error e → e ≠ 0 := fun e h => by
  unfold syP at h
  split at h
  · cases h; decide
  · cases h
theorem rm_err {L : List Fl} {n : ByteArray} : ∀ e, rmP L n = .error e → e ≠ 0 := fun e h => by
  unfold rmP at h
  split at h
  · cases h; decide
  · cases h
theorem rm_ok {L L' : List Fl} {n : ByteArray} (hG : goodD L = true) (h : rmP L n = .ok L') : L' = del n L ∧ goodD L' = true := by
  unfold rmP at h
  split at h
  · cases h
  · cases h; exact ⟨rfl, good_del hG⟩
theorem sy_ok {L L' : List Fl} {n : ByteArray} (hG : goodD L = true) (h : syP L n = .ok L') : ∃ f, getF n L = some f ∧ L' = putL ⟨n, f.safe ++ f.tail, ⟨#[]⟩⟩ L ∧ goodD L' = true := by
  unfold syP at h
  cases hf : getF n L with
  | none => rw [hf] at h; cases h
  | some f =>
    rw [hf] at h
    cases h
    obtain ⟨h1, h2⟩ := fits_get hG hf
    refine ⟨f, rfl, rfl, good_put hG h1 ?_ (.inl ?_)⟩
    · unfold fits at h2 ⊢
      have := of_decide_eq_true h2
      refine decide_eq_true ?_
      show (f.safe ++ f.tail).size + 0 ≤ 1048576
      rw [ByteArray.size_append]
      omega
    · show (getF n L).isSome = true
      rw [hf]; rfl
theorem wr_ok {L L' : List Fl} {n s : ByteArray} (hG : goodD L = true) (h : wrP L n s = .ok L') : named n = true ∧ (∃ f : Fl, (getF n L = some f ∨ (getF n L = none ∧ f = ⟨n, ⟨#[]⟩, ⟨#[]⟩⟩)) ∧ L' = putL ⟨n, f.safe, f.tail ++ s⟩ L) ∧ goodD L' = true := by
  unfold wrP at h
  cases hn : named n with
  | false => rw [hn] at h; simp at h
  | true =>
    rw [hn] at h
    simp only [Bool.not_true, Bool.false_eq_true, if_false] at h
    refine ⟨rfl, ?_⟩
    cases hf : getF n L with
    | none =>
      rw [hf] at h
      simp only at h
      split at h
      · cases h
      · split at h
        · cases h
        · rename_i h4 h5
          cases h
          refine ⟨⟨⟨n, ⟨#[]⟩, ⟨#[]⟩⟩, .inr ⟨rfl, rfl⟩, by show _ = putL ⟨n, ⟨#[]⟩, (⟨#[]⟩ : ByteArray) ++ s⟩ L; rw [empty_append]⟩, good_put hG hn ?_ (.inr (by omega))⟩
          unfold fits
          exact decide_eq_true (by show 0 + s.size ≤ 1048576; omega)
    | some f =>
      rw [hf] at h
      simp only at h
      split at h
      · cases h
      · rename_i h5
        cases h
        refine ⟨⟨f, .inl rfl, rfl⟩, good_put hG hn ?_ (.inl (by show (getF n L).isSome = true; rw [hf]; rfl))⟩
        unfold fits
        refine decide_eq_true ?_
        show f.safe.size + (f.tail ++ s).size ≤ 1048576
        rw [ByteArray.size_append]
        omega
theorem burnt_le {z : Int} (h : z ≤ 9223372036854775807) : burnt z ≤ 9223372036854775807 := by
  unfold burnt
  split <;> omega
theorem then_err {r : Dk × Int} {f : Dk → Dk × Int} (h : r.2 ≠ 0) : thenD r f = r := by unfold thenD; rw [if_pos h]
theorem then_ok {r : Dk × Int} {f : Dk → Dk × Int} (h : r.2 = 0) : thenD r f = f r.1 := by unfold thenD; rw [if_neg (by simp [h])]
/-- where Save stands: the disk in its box, the place of the answer -/
def Sv (w : World) (L : List Fl) (A : Option Addr) (c : Nat) (z : Int) (W : World) : Prop :=
  Arr W w.heap.size 37 (dkArr L A c z) ∧ Arr W (w.heap.size + 1) 37 dkZero ∧ Fls W W.heap.size A L ∧ Below w.heap.size w W
theorem Sv.below {w : World} {L : List Fl} {A : Option Addr} {c : Nat} {z : Int} {W W' : World} (h : Sv w L A c z W) (b : Below W.heap.size W W') : Sv w L A c z W' := ⟨h.1.below b h.1.lt, h.2.1.below b h.2.1.lt, h.2.2.1.up b, h.2.2.2.trans (b.mono h.2.2.2.size)⟩
set_option maxRecDepth 100000 in
set_option maxHeartbeats 4000000 in
theorem Save_any (L : List Fl) (n s : ByteArray) (hn : n.size ≤ 140737488355328) (hs : s.size ≤ 140737488355328) (A : Option Addr) (c : Nat) (z : Int) (w : World) (hP : Fls w w.heap.size A L) (hz : Sized L) (hl : L.length ≤ 140737488355328) (hc : L.length ≤ c) (hzf : z ≤ 9223372036854775807) :
    Calls Tryz.prog 52 #[.agg #[.slice A L.length c, .int .i64 z], .string n, .string s] w (StEnd w (saveD ⟨L, z⟩ n s)) := by
  have b0 : Below w.heap.size w ((w.alloc (.cells (dkArr L A c z) 37)).alloc (.cells dkZero 37)) := ((Below.refl _ _).alloc (Nat.le_refl _) _).alloc (by simp) _
  have h0 : Hid (Sv w L A c z ((w.alloc (.cells (dkArr L A c z) 37)).alloc (.cells dkZero 37))) := ⟨(Arr.new _ _ _).alloc _, Arr.new_at _ _ _ (by simp), hP.up b0, b0⟩
  have HRet : Hid (∀ (W : World) (a : Act) (d : Dk) (A' : Option Addr) (c' : Nat) (e : Int), Arr W (w.heap.size + 1) 37 (dkArr d.files A' c' d.fuse) → Below w.heap.size w W → Fls W W.heap.size A' d.files → d.files.length ≤ c' → a.tmps[6]? = some (.pointer (some ⟨w.heap.size + 1, 0, none⟩)) → a.tmps[7]? = some (.int .i64 e) → a.defers = [] → bodyPost Tryz.prog Tryz.f52 (StEnd w (d, e)) .ret a W) := fun W a d A' c' e h1 h2 h3 h4 h5 h6 h7 => by
    refine bodyPost_ret (v := .tuple #[.agg (dkArr d.files A' c' d.fuse), .int .i64 e]) ?_ h7 ⟨A', c', rfl, h3, h4, h2⟩
    rw [results_cell_tmp Tryz.results52]
    have hld := run_loadVar_row (P := Tryz.prog) _ _ _ 37 _ _ _ h1 Tryz.underlying37 rfl (dkInfo _ _ _ _)
    simp [Array.getD_eq_getD_getElem?, h5, h6, asAddr, hld, Result.andThen]
  have HQ0 : Hid (saveD ⟨L, z⟩ n s = if !goodD L then (⟨L, z⟩, 3) else if !named n || !named (newN n) then (⟨L, z⟩, 2) else
    thenD (thenD (thenD (if hasN (newN n) L then stepP ⟨L, z⟩ (rmP L (newN n)) else (⟨L, z⟩, 0)) fun d => stepP d (wrP d.files (newN n) s)) fun d => stepP d (syP d.files (newN n))) fun d => stepP d (rnP d.files (newN n) n)) := rfl
  generalize saveD ⟨L, z⟩ n s = Q at *
  have hfr : Hid (newN n = n ++ ⟨#[46, 110, 101, 119]⟩) := rfl
  have hfs : (newN n).size ≤ 140737488355332 := by rw [hfr.out, ByteArray.size_append]; show n.size + 4 ≤ _; omega
  go_enter Tryz.func52, Tryz.ntmps52
  go_upto_region 1 with fail
  refine wp_forget (Sv w L A c z) (by exact h0.out) ?_
  clear h0 b0
  intro V S
  have c0 : V.cell? ⟨w.heap.size, 0, none⟩ = some (.slice A L.length c) := S.1.cell 0
  have c1 : V.cell? ⟨w.heap.size, 1, none⟩ = some (.int .i64 z) := S.1.cell 1
  have CG : Hid (Calls Tryz.prog 86 #[.agg #[.slice A L.length c, .int .i64 z]] V fun e w' => e = .returned (.bool (goodD L)) ∧ Below V.heap.size V w') := DkGood_any L A c z V S.2.2.1 hz hl
  have hcat : ¬ 9223372036854775807 < n.size + 4 := by omega
  go_upto_region 2 with fail
  rw [← hfr.out]
  generalize newN n = fr at *
  cases hg : goodD L with
  | false =>
    rw [hg] at CG
    have HQ : Hid (Q = (⟨L, z⟩, 3)) := by show _ = _; rw [HQ0.out, hg]; rfl
    clear HQ0 hg
    go_wp2_with fail
    (with_reducible refine CG.out.mono ?_)
    clear CG c0 c1
    rintro _ V2 ⟨rfl, b2⟩
    have S2 := S.below b2
    have c0 : V2.cell? ⟨w.heap.size, 0, none⟩ = some (.slice A L.length c) := S2.1.cell 0
    have c1 : V2.cell? ⟨w.heap.size, 1, none⟩ = some (.int .i64 z) := S2.1.cell 1
    go_wp2_with (refine wpList_store_row rfl 37 _ _ rfl (w.heap.size + 1) (dkArr L A c z) rfl rfl 37 dkZero S2.2.1 (dkInfo _ _ _ _) rfl (dkArr_one _ _ _ _) ?_)
    rw [HQ.out]
    exact HRet.out _ _ ⟨L, z⟩ A c 3 (S2.2.1.row _) (below_setRow S2.2.2.2 (by omega) _) (S2.2.2.1.row S2.2.1 _) hc rfl rfl rfl
  | true =>
  rw [hg] at CG
  go_wp2_with fail
  (with_reducible refine CG.out.mono ?_)
  clear CG c0 c1
  rintro _ V2 ⟨rfl, b2⟩
  replace S := S.below b2
  clear b2
  have CN := Lib.hid (Named_any n V2)
  have CN2 := Lib.hid (Named_any fr V2)
  cases hn1 : named n with
  | false =>
    rw [hn1] at CN
    have HQ : Hid (Q = (⟨L, z⟩, 2)) := by show _ = _; rw [HQ0.out, hg, hn1]; rfl
    clear HQ0 hg hn1
    go_wp2_with fail
    (with_reducible refine CN.out.mono ?_)
    rintro _ V2 ⟨rfl, rfl⟩
    have c0 : V2.cell? ⟨w.heap.size, 0, none⟩ = some (.slice A L.length c) := S.1.cell 0
    have c1 : V2.cell? ⟨w.heap.size, 1, none⟩ = some (.int .i64 z) := S.1.cell 1
    go_wp2_with (refine wpList_store_row rfl 37 _ _ rfl (w.heap.size + 1) (dkArr L A c z) rfl rfl 37 dkZero S.2.1 (dkInfo _ _ _ _) rfl (dkArr_one _ _ _ _) ?_)
    rw [HQ.out]
    exact HRet.out _ _ ⟨L, z⟩ A c 2 (S.2.1.row _) (below_setRow S.2.2.2 (by omega) _) (S.2.2.1.row S.2.1 _) hc rfl rfl rfl
  | true =>
  rw [hn1] at CN
  cases hn2 : named fr with
  | false =>
    rw [hn2] at CN2
    have HQ : Hid (Q = (⟨L, z⟩, 2)) := by show _ = _; rw [HQ0.out, hg, hn1, hn2]; rfl
    clear HQ0 hg hn1 hn2
    go_wp2_with fail
    (with_reducible refine CN.out.mono ?_)
    rintro _ V2 ⟨rfl, rfl⟩
    go_wp2_with fail
    (with_reducible refine CN2.out.mono ?_)
    rintro _ V2 ⟨rfl, rfl⟩
    have c0 : V2.cell? ⟨w.heap.size, 0, none⟩ = some (.slice A L.length c) := S.1.cell 0
    have c1 : V2.cell? ⟨w.heap.size, 1, none⟩ = some (.int .i64 z) := S.1.cell 1
    go_wp2_with (refine wpList_store_row rfl 37 _ _ rfl (w.heap.size + 1) (dkArr L A c z) rfl rfl 37 dkZero S.2.1 (dkInfo _ _ _ _) rfl (dkArr_one _ _ _ _) ?_)
    rw [HQ.out]
    exact HRet.out _ _ ⟨L, z⟩ A c 2 (S.2.1.row _) (below_setRow S.2.2.2 (by omega) _) (S.2.2.1.row S.2.1 _) hc rfl rfl rfl
  | true =>
  rw [hn2] at CN2
  have HQ1 : Hid (Q = thenD (thenD (thenD (if hasN fr L then stepP ⟨L, z⟩ (rmP L fr) else (⟨L, z⟩, 0)) fun d => stepP d (wrP d.files fr s)) fun d => stepP d (syP d.files fr)) fun d => stepP d (rnP d.files fr n)) := by show _ = _; rw [HQ0.out, hg, hn1, hn2]; rfl
  clear HQ0 hfr
  obtain ⟨h4, hr, _⟩ := (goodD_iff L).1 hg
  have HG := Lib.hid hg
  clear hn1 hn2 hg
  go_wp2_with fail
  (with_reducible refine CN.out.mono ?_)
  rintro _ V2 ⟨rfl, rfl⟩
  go_wp2_with fail
  (with_reducible refine CN2.out.mono ?_)
  clear CN CN2
  rintro _ V2 ⟨rfl, rfl⟩
  have c0 : V2.cell? ⟨w.heap.size, 0, none⟩ = some (.slice A L.length c) := S.1.cell 0
  have CF := Lib.hid (find_any L fr A c V2 S.2.2.1 (by omega) hr)
  clear hr
  cases hbn : hasN fr L with
  | false =>
    rw [hbn] at CF
    replace HQ1 : Hid (Q = thenD (thenD (stepP ⟨L, z⟩ (wrP L fr s)) fun d => stepP d (syP d.files fr)) fun d => stepP d (rnP d.files fr n)) := by show _ = _; rw [HQ1.out, hbn]; rfl
    clear hbn
    go_wp2_with fail
    (with_reducible refine CF.out.mono ?_)
    clear CF c0
    rintro _ V3 ⟨rfl, b3⟩
    replace S := S.below b3
    clear b3
    have e0 : V3.cell? ⟨w.heap.size, 0, none⟩ = some (.slice A L.length c) := S.1.cell 0
    have e1 : V3.cell? ⟨w.heap.size, 1, none⟩ = some (.int .i64 z) := S.1.cell 1
    have CX := Lib.hid (Write_any L fr s hs A c z V3 S.2.2.1 hz hl hc hzf)
    have HYes : Hid ((stepP ⟨L, z⟩ (wrP L fr s)).2 = 0 → ∃ L', stepP ⟨L, z⟩ (wrP L fr s) = (⟨L', burnt z⟩, 0) ∧ goodD L' = true) := fun h => by
      obtain ⟨h1, _, L', h2, h3⟩ := step_yes wr_err h
      exact ⟨L', h3, (wr_ok h1 h2).2.2⟩
    generalize hQ2 : stepP ⟨L, z⟩ (wrP L fr s) = Q2 at *
    clear hQ2
    go_wp2_with fail
    (with_reducible refine CX.out.mono ?_)
    clear CX e0 e1
    rintro _ V3 ⟨A1, c1, rfl, hF', hc1, b3⟩
    replace S := S.below b3
    clear b3
    obtain ⟨⟨L1, zz1⟩, e⟩ := Q2
    simp only at hF' hc1 HYes ⊢
    have S3 : Sv w L1 A1 c1 zz1 (V3.setRow w.heap.size (dkArr L1 A1 c1 zz1)) := ⟨S.1.row _, S.2.1.row_far (by omega) _, hF'.rowD S.1 _, below_setRow S.2.2.2 (Nat.le_refl _) _⟩
    go_upto_region 13 with (refine wpList_store_row rfl 37 _ _ rfl w.heap.size (dkArr L1 A1 c1 zz1) rfl rfl 37 (dkArr L A c z) S.1 (dkInfo _ _ _ _) rfl (dkArr_one _ _ _ _) ?_)
    refine wp_forget (Sv w L1 A1 c1 zz1) (by exact S3) ?_
    clear S3 S hF'
    intro W1 S
    by_cases he : e = 0
    case neg =>
      have hb : (e != 0) = true := by simpa using he
      have HE : Hid (Q = (⟨L1, zz1⟩, e)) := by show _ = _; rw [HQ1.out]; simp only [then_err (r := ((⟨L1, zz1⟩ : Dk), e)) he]
      have e0 : W1.cell? ⟨w.heap.size, 0, none⟩ = some (.slice A1 L1.length c1) := S.1.cell 0
      have e1 : W1.cell? ⟨w.heap.size, 1, none⟩ = some (.int .i64 zz1) := S.1.cell 1
      clear HYes HQ1 he
      go_wp2_with (refine wpList_store_row rfl 37 _ _ rfl (w.heap.size + 1) (dkArr L1 A1 c1 zz1) rfl rfl 37 dkZero S.2.1 (dkInfo _ _ _ _) rfl (dkArr_one _ _ _ _) ?_)
      rw [HE.out]
      exact HRet.out _ _ ⟨L1, zz1⟩ A1 c1 e (S.2.1.row _) (below_setRow S.2.2.2 (by omega) _) (S.2.2.1.row S.2.1 _) hc1 rfl rfl rfl
    subst he
    obtain ⟨_, hqq, hgd⟩ := HYes.out rfl
    simp only [Prod.mk.injEq, Dk.mk.injEq, and_true] at hqq
    obtain ⟨rfl, hzq⟩ := hqq
    have hzf1 : zz1 ≤ 9223372036854775807 := by rw [hzq]; exact burnt_le hzf
    have hz1 := (good_sized hgd).1
    have hl1 : L1.length ≤ 140737488355328 := by have := (good_sized hgd).2; omega
    replace HQ1 : Hid (Q = thenD (stepP ⟨L1, zz1⟩ (syP L1 fr)) fun d => stepP d (rnP d.files fr n)) := by show _ = _; rw [HQ1.out, then_ok (r := ((⟨L1, zz1⟩ : Dk), 0)) rfl]
    clear HYes hgd hzq
    have e0 : W1.cell? ⟨w.heap.size, 0, none⟩ = some (.slice A1 L1.length c1) := S.1.cell 0
    have e1 : W1.cell? ⟨w.heap.size, 1, none⟩ = some (.int .i64 zz1) := S.1.cell 1
    have CX := Lib.hid (Sync_any L1 fr A1 c1 zz1 W1 S.2.2.1 hz1 hl1 hc1 hzf1)
    have HYes : Hid ((stepP ⟨L1, zz1⟩ (syP L1 fr)).2 = 0 → ∃ L', stepP ⟨L1, zz1⟩ (syP L1 fr) = (⟨L', burnt zz1⟩, 0) ∧ goodD L' = true) := fun h => by
      obtain ⟨h1, _, L', h2, h3⟩ := step_yes sy_err h
      exact ⟨L', h3, by obtain ⟨_, _, _, q⟩ := sy_ok h1 h2; exact q⟩
    generalize hQ2 : stepP ⟨L1, zz1⟩ (syP L1 fr) = Q2 at *
    clear hQ2
    go_wp2_with fail
    (with_reducible refine CX.out.mono ?_)
    clear CX e0 e1
    rintro _ V3 ⟨A2, c2, rfl, hF', hc2, b3⟩
    replace S := S.below b3
    clear b3
    obtain ⟨⟨L2, zz2⟩, e⟩ := Q2
    simp only at hF' hc2 HYes ⊢
    have S3 : Sv w L2 A2 c2 zz2 (V3.setRow w.heap.size (dkArr L2 A2 c2 zz2)) := ⟨S.1.row _, S.2.1.row_far (by omega) _, hF'.rowD S.1 _, below_setRow S.2.2.2 (Nat.le_refl _) _⟩
    go_upto_region 16 with (refine wpList_store_row rfl 37 _ _ rfl w.heap.size (dkArr L2 A2 c2 zz2) rfl rfl 37 (dkArr L1 A1 c1 zz1) S.1 (dkInfo _ _ _ _) rfl (dkArr_one _ _ _ _) ?_)
    refine wp_forget (Sv w L2 A2 c2 zz2) (by exact S3) ?_
    clear S3 S hF'
    intro W2 S
    by_cases he : e = 0
    case neg =>
      have hb : (e != 0) = true := by simpa using he
      have HE : Hid (Q = (⟨L2, zz2⟩, e)) := by show _ = _; rw [HQ1.out]; simp only [then_err (r := ((⟨L2, zz2⟩ : Dk), e)) he]
      have e0 : W2.cell? ⟨w.heap.size, 0, none⟩ = some (.slice A2 L2.length c2) := S.1.cell 0
      have e1 : W2.cell? ⟨w.heap.size, 1, none⟩ = some (.int .i64 zz2) := S.1.cell 1
      clear HYes HQ1 he
      go_wp2_with (refine wpList_store_row rfl 37 _ _ rfl (w.heap.size + 1) (dkArr L2 A2 c2 zz2) rfl rfl 37 dkZero S.2.1 (dkInfo _ _ _ _) rfl (dkArr_one _ _ _ _) ?_)
      rw [HE.out]
      exact HRet.out _ _ ⟨L2, zz2⟩ A2 c2 e (S.2.1.row _) (below_setRow S.2.2.2 (by omega) _) (S.2.2.1.row S.2.1 _) hc2 rfl rfl rfl
    subst he
    obtain ⟨_, hqq, hgd⟩ := HYes.out rfl
    simp only [Prod.mk.injEq, Dk.mk.injEq, and_true] at hqq
    obtain ⟨rfl, hzq⟩ := hqq
    have hzf2 : zz2 ≤ 9223372036854775807 := by rw [hzq]; exact burnt_le hzf1
    have hz2 := (good_sized hgd).1
    have hl2 : L2.length ≤ 140737488355328 := by have := (good_sized hgd).2; omega
    replace HQ1 : Hid (Q = stepP ⟨L2, zz2⟩ (rnP L2 fr n)) := by show _ = _; rw [HQ1.out, then_ok (r := ((⟨L2, zz2⟩ : Dk), 0)) rfl]
    clear HYes hgd hzq
    have e0 : W2.cell? ⟨w.heap.size, 0, none⟩ = some (.slice A2 L2.length c2) := S.1.cell 0
    have e1 : W2.cell? ⟨w.heap.size, 1, none⟩ = some (.int .i64 zz2) := S.1.cell 1
    have CX := Lib.hid (Rename_any L2 fr n A2 c2 zz2 W2 S.2.2.1 hz2 hl2 hc2 hzf2)
    rw [← HQ1.out] at CX
    go_wp2_with fail
    (with_reducible refine CX.out.mono ?_)
    clear CX e0 e1 HQ1
    rintro _ V3 ⟨A9, c9, rfl, hF9, hc9, b3⟩
    replace S := S.below b3
    clear b3
    obtain ⟨⟨L9, z9⟩, e⟩ := Q
    simp only at hF9 hc9 ⊢
    go_wp2_with (refine wpList_store_row rfl 37 _ _ rfl (w.heap.size + 1) (dkArr L9 A9 c9 z9) rfl rfl 37 dkZero S.2.1 (dkInfo _ _ _ _) rfl (dkArr_one _ _ _ _) ?_)
    exact HRet.out _ _ ⟨L9, z9⟩ A9 c9 e (S.2.1.row _) (below_setRow S.2.2.2 (by omega) _) (hF9.row S.2.1 _) hc9 rfl rfl rfl
  | true =>
    rw [hbn] at CF
    replace HQ1 : Hid (Q = thenD (thenD (thenD (stepP ⟨L, z⟩ (rmP L fr)) fun d => stepP d (wrP d.files fr s)) fun d => stepP d (syP d.files fr)) fun d => stepP d (rnP d.files fr n)) := by show _ = _; rw [HQ1.out, hbn]; rfl
    clear hbn
    go_wp2_with fail
    (with_reducible refine CF.out.mono ?_)
    clear CF c0
    rintro _ V3 ⟨rfl, b3⟩
    replace S := S.below b3
    clear b3
    have e0 : V3.cell? ⟨w.heap.size, 0, none⟩ = some (.slice A L.length c) := S.1.cell 0
    have e1 : V3.cell? ⟨w.heap.size, 1, none⟩ = some (.int .i64 z) := S.1.cell 1
    have CX := Lib.hid (Remove_any L fr A c z V3 S.2.2.1 hz hl hc hzf)
    have HYes : Hid ((stepP ⟨L, z⟩ (rmP L fr)).2 = 0 → ∃ L', stepP ⟨L, z⟩ (rmP L fr) = (⟨L', burnt z⟩, 0) ∧ goodD L' = true) := fun h => by
      obtain ⟨h1, _, L', h2, h3⟩ := step_yes rm_err h
      exact ⟨L', h3, (rm_ok h1 h2).2⟩
    generalize hQ2 : stepP ⟨L, z⟩ (rmP L fr) = Q2 at *
    clear hQ2
    go_wp2_with fail
    (with_reducible refine CX.out.mono ?_)
    clear CX e0 e1
    rintro _ V3 ⟨A1, c1, rfl, hF', hc1, b3⟩
    replace S := S.below b3
    clear b3
    obtain ⟨⟨L1, zz1⟩, e⟩ := Q2
    simp only at hF' hc1 HYes ⊢
    have S3 : Sv w L1 A1 c1 zz1 (V3.setRow w.heap.size (dkArr L1 A1 c1 zz1)) := ⟨S.1.row _, S.2.1.row_far (by omega) _, hF'.rowD S.1 _, below_setRow S.2.2.2 (Nat.le_refl _) _⟩
    go_upto_region 10 with (refine wpList_store_row rfl 37 _ _ rfl w.heap.size (dkArr L1 A1 c1 zz1) rfl rfl 37 (dkArr L A c z) S.1 (dkInfo _ _ _ _) rfl (dkArr_one _ _ _ _) ?_)
    refine wp_forget (Sv w L1 A1 c1 zz1) (by exact S3) ?_
    clear S3 S hF'
    intro W1 S
    by_cases he : e = 0
    case neg =>
      have hb : (e != 0) = true := by simpa using he
      have HE : Hid (Q = (⟨L1, zz1⟩, e)) := by show _ = _; rw [HQ1.out]; simp only [then_err (r := ((⟨L1, zz1⟩ : Dk), e)) he]
      have e0 : W1.cell? ⟨w.heap.size, 0, none⟩ = some (.slice A1 L1.length c1) := S.1.cell 0
      have e1 : W1.cell? ⟨w.heap.size, 1, none⟩ = some (.int .i64 zz1) := S.1.cell 1
      clear HYes HQ1 he
      go_wp2_with (refine wpList_store_row rfl 37 _ _ rfl (w.heap.size + 1) (dkArr L1 A1 c1 zz1) rfl rfl 37 dkZero S.2.1 (dkInfo _ _ _ _) rfl (dkArr_one _ _ _ _) ?_)
      rw [HE.out]
      exact HRet.out _ _ ⟨L1, zz1⟩ A1 c1 e (S.2.1.row _) (below_setRow S.2.2.2 (by omega) _) (S.2.2.1.row S.2.1 _) hc1 rfl rfl rfl
    subst he
    obtain ⟨_, hqq, hgd⟩ := HYes.out rfl
    simp only [Prod.mk.injEq, Dk.mk.injEq, and_true] at hqq
    obtain ⟨rfl, hzq⟩ := hqq
    have hzf1 : zz1 ≤ 9223372036854775807 := by rw [hzq]; exact burnt_le hzf
    have hz1 := (good_sized hgd).1
    have hl1 : L1.length ≤ 140737488355328 := by have := (good_sized hgd).2; omega
    replace HQ1 : Hid (Q = thenD (thenD (stepP ⟨L1, zz1⟩ (wrP L1 fr s)) fun d => stepP d (syP d.files fr)) fun d => stepP d (rnP d.files fr n)) := by show _ = _; rw [HQ1.out, then_ok (r := ((⟨L1, zz1⟩ : Dk), 0)) rfl]
    clear HYes hgd hzq
    have e0 : W1.cell? ⟨w.heap.size, 0, none⟩ = some (.slice A1 L1.length c1) := S.1.cell 0
    have e1 : W1.cell? ⟨w.heap.size, 1, none⟩ = some (.int .i64 zz1) := S.1.cell 1
    have CX := Lib.hid (Write_any L1 fr s hs A1 c1 zz1 W1 S.2.2.1 hz1 hl1 hc1 hzf1)
    have HYes : Hid ((stepP ⟨L1, zz1⟩ (wrP L1 fr s)).2 = 0 → ∃ L', stepP ⟨L1, zz1⟩ (wrP L1 fr s) = (⟨L', burnt zz1⟩, 0) ∧ goodD L' = true) := fun h => by
      obtain ⟨h1, _, L', h2, h3⟩ := step_yes wr_err h
      exact ⟨L', h3, (wr_ok h1 h2).2.2⟩
    generalize hQ2 : stepP ⟨L1, zz1⟩ (wrP L1 fr s) = Q2 at *
    clear hQ2
    go_wp2_with fail
    (with_reducible refine CX.out.mono ?_)
    clear CX e0 e1
    rintro _ V3 ⟨A2, c2, rfl, hF', hc2, b3⟩
    replace S := S.below b3
    clear b3
    obtain ⟨⟨L2, zz2⟩, e⟩ := Q2
    simp only at hF' hc2 HYes ⊢
    have S3 : Sv w L2 A2 c2 zz2 (V3.setRow w.heap.size (dkArr L2 A2 c2 zz2)) := ⟨S.1.row _, S.2.1.row_far (by omega) _, hF'.rowD S.1 _, below_setRow S.2.2.2 (Nat.le_refl _) _⟩
    go_upto_region 13 with (refine wpList_store_row rfl 37 _ _ rfl w.heap.size (dkArr L2 A2 c2 zz2) rfl rfl 37 (dkArr L1 A1 c1 zz1) S.1 (dkInfo _ _ _ _) rfl (dkArr_one _ _ _ _) ?_)
    refine wp_forget (Sv w L2 A2 c2 zz2) (by exact S3) ?_
    clear S3 S hF'
    intro W2 S
    by_cases he : e = 0
    case neg =>
      have hb : (e != 0) = true := by simpa using he
      have HE : Hid (Q = (⟨L2, zz2⟩, e)) := by show _ = _; rw [HQ1.out]; simp only [then_err (r := ((⟨L2, zz2⟩ : Dk), e)) he]
      have e0 : W2.cell? ⟨w.heap.size, 0, none⟩ = some (.slice A2 L2.length c2) := S.1.cell 0
      have e1 : W2.cell? ⟨w.heap.size, 1, none⟩ = some (.int .i64 zz2) := S.1.cell 1
      clear HYes HQ1 he
      go_wp2_with (refine wpList_store_row rfl 37 _ _ rfl (w.heap.size + 1) (dkArr L2 A2 c2 zz2) rfl rfl 37 dkZero S.2.1 (dkInfo _ _ _ _) rfl (dkArr_one _ _ _ _) ?_)
      rw [HE.out]
      exact HRet.out _ _ ⟨L2, zz2⟩ A2 c2 e (S.2.1.row _) (below_setRow S.2.2.2 (by omega) _) (S.2.2.1.row S.2.1 _) hc2 rfl rfl rfl
    subst he
    obtain ⟨_, hqq, hgd⟩ := HYes.out rfl
    simp only [Prod.mk.injEq, Dk.mk.injEq, and_true] at hqq
    obtain ⟨rfl, hzq⟩ := hqq
    have hzf2 : zz2 ≤ 9223372036854775807 := by rw [hzq]; exact burnt_le hzf1
    have hz2 := (good_sized hgd).1
    have hl2 : L2.length ≤ 140737488355328 := by have := (good_sized hgd).2; omega
    replace HQ1 : Hid (Q = thenD (stepP ⟨L2, zz2⟩ (syP L2 fr)) fun d => stepP d (rnP d.files fr n)) := by show _ = _; rw [HQ1.out, then_ok (r := ((⟨L2, zz2⟩ : Dk), 0)) rfl]
    clear HYes hgd hzq
    have e0 : W2.cell? ⟨w.heap.size, 0, none⟩ = some (.slice A2 L2.length c2) := S.1.cell 0
    have e1 : W2.cell? ⟨w.heap.size, 1, none⟩ = some (.int .i64 zz2) := S.1.cell 1
    have CX := Lib.hid (Sync_any L2 fr A2 c2 zz2 W2 S.2.2.1 hz2 hl2 hc2 hzf2)
    have HYes : Hid ((stepP ⟨L2, zz2⟩ (syP L2 fr)).2 = 0 → ∃ L', stepP ⟨L2, zz2⟩ (syP L2 fr) = (⟨L', burnt zz2⟩, 0) ∧ goodD L' = true) := fun h => by
      obtain ⟨h1, _, L', h2, h3⟩ := step_yes sy_err h
      exact ⟨L', h3, by obtain ⟨_, _, _, q⟩ := sy_ok h1 h2; exact q⟩
    generalize hQ2 : stepP ⟨L2, zz2⟩ (syP L2 fr) = Q2 at *
    clear hQ2
    go_wp2_with fail
    (with_reducible refine CX.out.mono ?_)
    clear CX e0 e1
    rintro _ V3 ⟨A3, c3, rfl, hF', hc3, b3⟩
    replace S := S.below b3
    clear b3
    obtain ⟨⟨L3, zz3⟩, e⟩ := Q2
    simp only at hF' hc3 HYes ⊢
    have S3 : Sv w L3 A3 c3 zz3 (V3.setRow w.heap.size (dkArr L3 A3 c3 zz3)) := ⟨S.1.row _, S.2.1.row_far (by omega) _, hF'.rowD S.1 _, below_setRow S.2.2.2 (Nat.le_refl _) _⟩
    go_upto_region 16 with (refine wpList_store_row rfl 37 _ _ rfl w.heap.size (dkArr L3 A3 c3 zz3) rfl rfl 37 (dkArr L2 A2 c2 zz2) S.1 (dkInfo _ _ _ _) rfl (dkArr_one _ _ _ _) ?_)
    refine wp_forget (Sv w L3 A3 c3 zz3) (by exact S3) ?_
    clear S3 S hF'
    intro W3 S
    by_cases he : e = 0
    case neg =>
      have hb : (e != 0) = true := by simpa using he
      have HE : Hid (Q = (⟨L3, zz3⟩, e)) := by show _ = _; rw [HQ1.out]; simp only [then_err (r := ((⟨L3, zz3⟩ : Dk), e)) he]
      have e0 : W3.cell? ⟨w.heap.size, 0, none⟩ = some (.slice A3 L3.length c3) := S.1.cell 0
      have e1 : W3.cell? ⟨w.heap.size, 1, none⟩ = some (.int .i64 zz3) := S.1.cell 1
      clear HYes HQ1 he
      go_wp2_with (refine wpList_store_row rfl 37 _ _ rfl (w.heap.size + 1) (dkArr L3 A3 c3 zz3) rfl rfl 37 dkZero S.2.1 (dkInfo _ _ _ _) rfl (dkArr_one _ _ _ _) ?_)
      rw [HE.out]
      exact HRet.out _ _ ⟨L3, zz3⟩ A3 c3 e (S.2.1.row _) (below_setRow S.2.2.2 (by omega) _) (S.2.2.1.row S.2.1 _) hc3 rfl rfl rfl
    subst he
    obtain ⟨_, hqq, hgd⟩ := HYes.out rfl
    simp only [Prod.mk.injEq, Dk.mk.injEq, and_true] at hqq
    obtain ⟨rfl, hzq⟩ := hqq
    have hzf3 : zz3 ≤ 9223372036854775807 := by rw [hzq]; exact burnt_le hzf2
    have hz3 := (good_sized hgd).1
    have hl3 : L3.length ≤ 140737488355328 := by have := (good_sized hgd).2; omega
    replace HQ1 : Hid (Q = stepP ⟨L3, zz3⟩ (rnP L3 fr n)) := by show _ = _; rw [HQ1.out, then_ok (r := ((⟨L3, zz3⟩ : Dk), 0)) rfl]
    clear HYes hgd hzq
    have e0 : W3.cell? ⟨w.heap.size, 0, none⟩ = some (.slice A3 L3.length c3) := S.1.cell 0
    have e1 : W3.cell? ⟨w.heap.size, 1, none⟩ = some (.int .i64 zz3) := S.1.cell 1
    have CX := Lib.hid (Rename_any L3 fr n A3 c3 zz3 W3 S.2.2.1 hz3 hl3 hc3 hzf3)
    rw [← HQ1.out] at CX
    go_wp2_with fail
    (with_reducible refine CX.out.mono ?_)
    clear CX e0 e1 HQ1
    rintro _ V3 ⟨A9, c9, rfl, hF9, hc9, b3⟩
    replace S := S.below b3
    clear b3
    obtain ⟨⟨L9, z9⟩, e⟩ := Q
    simp only at hF9 hc9 ⊢
    go_wp2_with (refine wpList_store_row rfl 37 _ _ rfl (w.heap.size + 1) (dkArr L9 A9 c9 z9) rfl rfl 37 dkZero S.2.1 (dkInfo _ _ _ _) rfl (dkArr_one _ _ _ _) ?_)
    exact HRet.out _ _ ⟨L9, z9⟩ A9 c9 e (S.2.1.row _) (below_setRow S.2.2.2 (by omega) _) (hF9.row S.2.1 _) hc9 rfl rfl rfl
end Go.Proofs.YtkcnogmjnmnbdaaGreatDoor
