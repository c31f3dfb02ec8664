/- Texts in one: StSweptP, StPut, StBackP. -/
import Derived.Test.YtkcnogmjnmnbdaaGreatDoorOPick
import Derived.Test.YtkcnogmjnmnbdaaGreatDoorDkLaws
import Derived.Test.YtkcnogmjnmnbdaaGreatDoorDkSave
/- What Sweep leaves: plain mathematics. -/
namespace Go.Proofs.YtkcnogmjnmnbdaaGreatDoor
open Go.RowKit

theorem rsn_ext : ∀ (S T : List ByteArray), Rsn S → Rsn T → (∀ x, x ∈ S ↔ x ∈ T) → S = T
  | [], [], _, _, _ => rfl
  | [], y :: T, _, _, h => by have := (h y).2 List.mem_cons_self; cases this
  | x :: S, [], _, _, h => by have := (h x).1 List.mem_cons_self; cases this
  | x :: S, y :: T, hs, ht, h => by
    unfold Rsn at hs ht
    rw [List.pairwise_cons] at hs ht
    obtain ⟨s1, s2⟩ := hs
    obtain ⟨t1, t2⟩ := ht
    have e : x = y := by
      rcases List.mem_cons.1 ((h x).1 List.mem_cons_self) with e | hx
      · exact e
      · rcases List.mem_cons.1 ((h y).2 List.mem_cons_self) with e | hy
        · exact e.symm
        · have h1 := t1 x hx
          have h2 := s1 y hy
          have := ltB_trans h1 h2
          rw [ltB_irr] at this
          cases this
    subst e
    rw [rsn_ext S T s2 t2 fun z => ?_]
    constructor
    · intro hz
      rcases List.mem_cons.1 ((h z).1 (List.mem_cons_of_mem _ hz)) with e | h2
      · subst e
        have := s1 z hz
        rw [ltB_irr] at this
        cases this
      · exact h2
    · intro hz
      rcases List.mem_cons.1 ((h z).2 (List.mem_cons_of_mem _ hz)) with e | h2
      · subst e
        have := t1 z hz
        rw [ltB_irr] at this
        cases this
      · exact h2
theorem rsn_nodup {T : List ByteArray} (h : Rsn T) : T.Nodup := by
  unfold Rsn at h
  exact h.imp fun hab => ltB_ne hab
/-- names that Sweep may take -/
def goes (keep : List ByteArray) (n : ByteArray) : Prop := (idP n).2 = true ∧ memB (idP n).1 keep = false
theorem sweep_keep {keep : List ByteArray} : ∀ (l : List Fl) (a : Dk), goodD a.files = true → ∀ n, ¬ goes keep n → Keep n a (sweepGo keep l a).1
  | [], a, hG, n, _ => keep_refl hG
  | f :: l, a, hG, n, hn => by
    rw [sweepGo]
    split
    · exact sweep_keep l a hG n hn
    · rename_i h1
      split
      · exact sweep_keep l a hG n hn
      · rename_i h2
        have hne : n ≠ f.name := fun e => hn ⟨by rw [e]; simpa using h1, by rw [e]; simpa using h2⟩
        have hk := rm_keep (d := a) (n := f.name) hG hne
        split
        · exact hk
        · exact keep_trans hk (sweep_keep l _ hk.1 n hn)
theorem rm_good {a : Dk} {n : ByteArray} (hG : goodD a.files = true) : goodD (stepP a (rmP a.files n)).1.files = true := by
  have h1 : (⟨Array.replicate (n.size + 1) 0⟩ : ByteArray).size = n.size + 1 := by
    show (Array.replicate (n.size + 1) (0 : UInt8)).size = n.size + 1
    exact Array.size_replicate
  exact (rm_keep (o := ⟨Array.replicate (n.size + 1) 0⟩) hG (fun e => by rw [e] at h1; omega)).1
theorem sweep_good {keep : List ByteArray} : ∀ (l : List Fl) (a : Dk), goodD a.files = true → goodD (sweepGo keep l a).1.files = true
  | [], _, hG => hG
  | f :: l, a, hG => by
    rw [sweepGo]
    split
    · exact sweep_good l a hG
    · split
      · exact sweep_good l a hG
      · split
        · exact rm_good hG
        · exact sweep_good l _ (rm_good hG)
theorem rm_out {a : Dk} {n m : ByteArray} (hG : goodD a.files = true) (h : getF m a.files = none) : getF m (stepP a (rmP a.files n)).1.files = none := by
  by_cases e : m = n
  · subst e
    unfold rmP
    rw [h]
    unfold stepP
    split
    · exact h
    · split
      · exact h
      · exact h
  · rw [(rm_keep (o := m) (n := n) hG e).2]
    exact h
theorem sweep_out {keep : List ByteArray} {m : ByteArray} : ∀ (l : List Fl) (a : Dk), goodD a.files = true → getF m a.files = none → getF m (sweepGo keep l a).1.files = none
  | [], _, _, h => h
  | f :: l, a, hG, h => by
    rw [sweepGo]
    split
    · exact sweep_out l a hG h
    · split
      · exact sweep_out l a hG h
      · split
        · exact rm_out hG h
        · exact sweep_out l _ (rm_good hG) (rm_out hG h)
theorem sweep_gone {keep : List ByteArray} : ∀ (l : List Fl) (a : Dk), goodD a.files = true → (sweepGo keep l a).2 = 0 → ∀ f ∈ l, goes keep f.name → getF f.name (sweepGo keep l a).1.files = none
  | [], _, _, _, f, hf, _ => by cases hf
  | g :: l, a, hG, h0, f, hf, hg => by
    rw [sweepGo] at h0 ⊢
    rcases List.mem_cons.1 hf with rfl | hf
    · rw [if_neg (by rw [hg.1]; simp), if_neg (by rw [hg.2]; simp)] at h0 ⊢
      by_cases he : (stepP a (rmP a.files f.name)).2 = 0
      · rw [if_neg (fun q => q he)] at h0 ⊢
        refine sweep_out l _ (rm_good hG) ?_
        obtain ⟨h1, _, L', h2, h3⟩ := step_yes rm_err he
        obtain ⟨h4, _⟩ := rm_ok h1 h2
        rw [h3, h4]
        show getF f.name (del f.name a.files) = none
        rw [getF_del, if_pos rfl]
      · rw [if_pos he] at h0
        exact absurd h0 he
    · by_cases c1 : (idP g.name).2 = false
      · rw [if_pos c1] at h0 ⊢; exact sweep_gone l a hG h0 f hf hg
      · rw [if_neg c1] at h0 ⊢
        by_cases c2 : memB (idP g.name).1 keep = true
        · rw [if_pos c2] at h0 ⊢; exact sweep_gone l a hG h0 f hf hg
        · rw [if_neg c2] at h0 ⊢
          by_cases he : (stepP a (rmP a.files g.name)).2 = 0
          · rw [if_neg (fun q => q he)] at h0 ⊢
            exact sweep_gone l _ (rm_good hG) h0 f hf hg
          · rw [if_pos he] at h0
            exact absurd h0 he
end Go.Proofs.YtkcnogmjnmnbdaaGreatDoor

/- store.Put: its contract. -/
namespace Go.Proofs.YtkcnogmjnmnbdaaGreatDoor
open Go.RowKit

theorem results_cell_tmp_tmp {fn : Func} {p u v : Tmp} {ty : TypeId} (h : fn.results = #[.cell p ty, .tmp u, .tmp v]) (tmps : Array Value) (P : Program) (w : World) :
    (results fn tmps).run P w =
      ((asAddr (tmps.getD p undef)).run P w).andThen fun a w₁ => ((loadVar ty a).run P w₁).andThen fun x w₂ => .ok (.tuple #[x, tmps.getD u undef, tmps.getD v undef]) w₂ := by
  simp only [results, h]
  simp [Sem.run_bind, Result.andThen]
def PutEnd (w : World) (r : Dk × ByteArray × Int) (x : Ending) (w' : World) : Prop :=
  ∃ A c, x = .returned (.tuple #[.agg (dkArr r.1.files A c r.1.fuse), .string r.2.1, .int .i64 r.2.2]) ∧ Fls w' w'.heap.size A r.1.files ∧ r.1.files.length ≤ c ∧ Below w.heap.size w w'
theorem fileN_size {id : ByteArray} (h : id.size = 32) : (fileN id).size = 65 := by
  unfold fileN
  rw [ByteArray.size_append, bs_size, hexOf_length]
  show 1 + 2 * id.size = 65
  omega
/-- behind Save: what was saved in its block, the result's block still empty -/
def Xv (w : World) (M : List Fl) (Ab : Option Addr) (cb : Nat) (y : Int) (q : Nat) (W : World) : Prop :=
  Arr W q 37 (dkArr M Ab cb y) ∧ Arr W (w.heap.size + 1) 37 dkZero ∧ Fls W W.heap.size Ab M ∧ Below w.heap.size w W
theorem put_late {w V : World} {L M : List Fl} {A Ab : Option Addr} {c cb : Nat} {z y : Int} (hS : Sv w L A c z V) (hF : Fls V V.heap.size Ab M) (W' : World) (e : W' = V.alloc (.cells #[.slice Ab M.length cb, .int .i64 y] 37)) : Xv w M Ab cb y V.heap.size W' := by
  subst e
  have b1 : Below V.heap.size V (V.alloc (.cells #[.slice Ab M.length cb, .int .i64 y] 37)) := (Below.refl _ _).alloc (Nat.le_refl _) _
  exact ⟨Arr.new _ _ _, hS.2.1.alloc _, hF.up b1, hS.2.2.2.trans (b1.mono hS.2.2.2.size)⟩
theorem put_early {w V : World} {L M : List Fl} {A Ab : Option Addr} {c cb : Nat} {z y : Int} {q : Nat} (hS : Sv w L A c z V) (hF : Fls V V.heap.size Ab M) (hA : Arr V q 37 dkZero) (hq : w.heap.size + 1 < q) (W' : World) (e : W' = (V.setCell ⟨q, 0, none⟩ (.slice Ab M.length cb)).setCell ⟨q, 1, none⟩ (.int .i64 y)) : Xv w M Ab cb y q W' := by
  subst e
  have k : V.grownBy ((V.setCell ⟨q, 0, none⟩ (.slice Ab M.length cb)).setCell ⟨q, 1, none⟩ (.int .i64 y)) (some q) := gb_trans (gb_set _ _ _) (gb_set _ _ _)
  refine ⟨(hA.put 0 (.slice Ab M.length cb)).put 1 (.int .i64 y), hS.2.1.kept k (fun e => by cases e; omega), fun k' x hx => ?_, below_gb hS.2.2.2 k (by omega) hS.2.2.2.size⟩
  obtain ⟨ad, e, hbk, h0, h1, h2⟩ := hF k' x hx
  have hn : ¬ some (ad.add (k' * 3)).block = some q := fun e => by
    rw [Option.some.inj e, hA.cell] at h1
    exact dkZero_no _ _ h1
  exact ⟨ad, e, Nat.lt_of_lt_of_le hbk k.size, k.cell h0 hn, k.cell h1 hn, k.cell h2 hn⟩
set_option maxRecDepth 100000 in
set_option maxHeartbeats 2000000 in
theorem Put_st (L : List Fl) (s : ByteArray) (hs : s.size ≤ 140737488355328) (A : Option Addr) (c : Nat) (z : Int) (w : World) (hP : Fls w w.heap.size A L) (hz : Sized L) (hl : L.length ≤ 140737488355328) (hc : L.length ≤ c) (hzf : z ≤ 9223372036854775807) (ht : Tab w) :
    Calls Tryz.prog 22 #[.agg #[.slice A L.length c, .int .i64 z], .string s] w (PutEnd w (putO ⟨L, z⟩ s)) := by
  have b0 : Below w.heap.size w ((w.alloc (.cells (dkArr L A c z) 37)).alloc (.cells dkZero 37)) := ((Below.refl _ _).alloc (Nat.le_refl _) _).alloc (by simp) _
  have h0 : Hid (Sv w L A c z ((w.alloc (.cells (dkArr L A c z) 37)).alloc (.cells dkZero 37))) := ⟨(Arr.new _ _ _).alloc _, Arr.new_at _ _ _ (by simp), hP.up b0, b0⟩
  have HRet : Hid (∀ (W : World) (a : Act) (d : Dk) (A' : Option Addr) (c' : Nat) (i : ByteArray) (e : Int), Arr W (w.heap.size + 1) 37 (dkArr d.files A' c' d.fuse) → Below w.heap.size w W → Fls W W.heap.size A' d.files → d.files.length ≤ c' → a.tmps[4]? = some (.pointer (some ⟨w.heap.size + 1, 0, none⟩)) → a.tmps[5]? = some (.string i) → a.tmps[6]? = some (.int .i64 e) → a.defers = [] → bodyPost Tryz.prog Tryz.f22 (PutEnd w (d, i, e)) .ret a W) := fun W a d A' c' i e h1 h2 h3 h4 h5 h6 h8 h7 => by
    refine bodyPost_ret (v := .tuple #[.agg (dkArr d.files A' c' d.fuse), .string i, .int .i64 e]) ?_ h7 ⟨A', c', rfl, h3, h4, h2⟩
    rw [results_cell_tmp_tmp Tryz.results22]
    have hld := run_loadVar_row (P := Tryz.prog) _ _ _ 37 _ _ _ h1 Tryz.underlying37 rfl (dkInfo _ _ _ _)
    simp [Array.getD_eq_getD_getElem?, h5, h6, h8, asAddr, hld, Result.andThen]
  have HQ0 : Hid (putO ⟨L, z⟩ s = if (decO s.data.toList).2 ≠ 0 then (⟨L, z⟩, ⟨#[]⟩, (decO s.data.toList).2) else if hasO ⟨L, z⟩ (sumB s) = true then (⟨L, z⟩, sumB s, 0) else
    if (saveD ⟨L, z⟩ (fileN (sumB s)) s).2 ≠ 0 then ((saveD ⟨L, z⟩ (fileN (sumB s)) s).1, ⟨#[]⟩, (saveD ⟨L, z⟩ (fileN (sumB s)) s).2) else ((saveD ⟨L, z⟩ (fileN (sumB s)) s).1, sumB s, 0)) := rfl
  have CD := fun V => Lib.hid (Decode_any s V)
  have CI : ∀ V, Tab V → Hid (Calls Tryz.prog 50 #[.string s] V fun x w' => x = .returned (.string (sumB s)) ∧ Below V.heap.size V w') := fun V h => Id_any s (by omega) V h
  have CH := fun V a b => Lib.hid (has_st L (sumB s) A c z V a hz hl b)
  have CN := fun V => Lib.hid (fileName_st (sumB s) (sumB_size s) V)
  have CX := fun V h => Lib.hid (Save_any L (fileN (sumB s)) s (by rw [fileN_size (sumB_size s)]; omega) hs A c z V h hz hl hc hzf)
  generalize putO ⟨L, z⟩ s = Q at *
  generalize fileN (sumB s) = F at *
  generalize hasO ⟨L, z⟩ (sumB s) = H at *
  generalize saveD ⟨L, z⟩ F s = R at *
  generalize sumB s = I at *
  obtain ⟨⟨M, y⟩, g⟩ := R
  generalize decO s.data.toList = D at *
  obtain ⟨o, e⟩ := D
  have HQ : Hid (Q = if e ≠ 0 then (⟨L, z⟩, ⟨#[]⟩, e) else if H = true then (⟨L, z⟩, I, 0) else if g ≠ 0 then (⟨M, y⟩, ⟨#[]⟩, g) else (⟨M, y⟩, I, 0)) := HQ0
  clear HQ0
  go_enter Tryz.func22, Tryz.ntmps22
  go_upto_region 1 with fail
  refine wp_forget (Sv w L A c z) (by exact h0.out) ?_
  clear h0 b0
  intro V S
  have C1 : Hid (Calls Tryz.prog 25 #[.string s] V (DEnd V o e)) := CD V
  clear CD
  go_wp2_with fail
  (with_reducible refine C1.out.mono ?_)
  clear C1
  rintro _ V2 ⟨p, rfl, hO, b2⟩
  replace S := S.below b2
  clear b2 hO
  have S2 : Sv w L A c z ((V2.alloc (.cells zeroO 50)).setRow V2.heap.size (obArr o p)) := S.below (below_setRow ((Below.refl _ _).alloc (Nat.le_refl _) _) (Nat.le_refl _) _)
  go_upto_region 2 with (refine wpList_store_row rfl 50 _ _ rfl V2.heap.size (obArr o p) rfl rfl 50 zeroO (Arr.new V2 _ _) (obInfo _ _) rfl (obArr_one _ _) ?_)
  refine wp_forget (Sv w L A c z) (by exact S2) ?_
  clear S2 S V
  generalize V2.heap.size = qo
  clear V2
  intro V S
  have c0 : V.cell? ⟨w.heap.size, 0, none⟩ = some (.slice A L.length c) := S.1.cell 0
  have c1 : V.cell? ⟨w.heap.size, 1, none⟩ = some (.int .i64 z) := S.1.cell 1
  by_cases he : e = 0
  case neg =>
    have hb : (e != 0) = true := by rw [bne_iff_ne]; exact he
    have HR : Hid (Q = (⟨L, z⟩, ⟨#[]⟩, e)) := by show _ = _; rw [HQ.out, if_pos he]
    clear HQ he
    go_wp2_with (refine wpList_store_row rfl 37 _ _ rfl (w.heap.size + 1) (dkArr L A c z) rfl rfl 37 dkZero S.2.1 (dkInfo _ _ _ _) rfl (dkArr_one _ _ _ _) ?_)
    rw [HR.out]
    exact HRet.out _ _ ⟨L, z⟩ A c ⟨#[]⟩ e (S.2.1.row _) (below_setRow S.2.2.2 (by omega) _) (S.2.2.1.row S.2.1 _) hc rfl rfl rfl rfl
  subst he
  replace HQ : Hid (Q = if H = true then (⟨L, z⟩, I, 0) else if g ≠ 0 then (⟨M, y⟩, ⟨#[]⟩, g) else (⟨M, y⟩, I, 0)) := by show _ = _; rw [HQ.out, if_neg (fun h => h rfl)]
  have C1 := CI V (ht.below S.2.2.2 ht.1)
  clear CI c0 c1
  go_wp2_with fail
  (with_reducible refine C1.out.mono ?_)
  clear C1
  rintro _ V2 ⟨rfl, b2⟩
  replace S := S.below b2
  clear b2
  have c0 : V2.cell? ⟨w.heap.size, 0, none⟩ = some (.slice A L.length c) := S.1.cell 0
  have c1 : V2.cell? ⟨w.heap.size, 1, none⟩ = some (.int .i64 z) := S.1.cell 1
  have C1 := CH V2 S.2.2.1 (ht.below S.2.2.2 ht.1)
  clear CH
  go_wp2_with fail
  (with_reducible refine C1.out.mono ?_)
  clear C1 c0 c1
  rintro _ V3 ⟨rfl, b2⟩
  replace S := S.below b2
  clear b2 V V2
  have c0 : V3.cell? ⟨w.heap.size, 0, none⟩ = some (.slice A L.length c) := S.1.cell 0
  have c1 : V3.cell? ⟨w.heap.size, 1, none⟩ = some (.int .i64 z) := S.1.cell 1
  cases H with
  | true =>
    have HR : Hid (Q = (⟨L, z⟩, I, 0)) := by show _ = _; rw [HQ.out, if_pos rfl]
    clear HQ
    go_wp2_with (refine wpList_store_row rfl 37 _ _ rfl (w.heap.size + 1) (dkArr L A c z) rfl rfl 37 dkZero S.2.1 (dkInfo _ _ _ _) rfl (dkArr_one _ _ _ _) ?_)
    rw [HR.out]
    exact HRet.out _ _ ⟨L, z⟩ A c I 0 (S.2.1.row _) (below_setRow S.2.2.2 (by omega) _) (S.2.2.1.row S.2.1 _) hc rfl rfl rfl rfl
  | false =>
  replace HQ : Hid (Q = if g ≠ 0 then (⟨M, y⟩, ⟨#[]⟩, g) else (⟨M, y⟩, I, 0)) := by show _ = _; rw [HQ.out, if_neg (by simp)]
  have hq3 : w.heap.size + 1 < V3.heap.size := S.2.1.lt
  have Sd : Sv w L A c z V3.drew := S.below (below_drewN (Below.refl _ _) 1)
  have be : Below V3.heap.size V3 (V3.alloc (.cells dkZero 37)).drew := ((Below.refl _ V3).alloc (Nat.le_refl _) _).drew
  have Se : Sv w L A c z (V3.alloc (.cells dkZero 37)).drew := S.below be
  have AE : Arr (V3.alloc (.cells dkZero 37)).drew V3.heap.size 37 dkZero := (Arr.new _ _ _).drew
  have CNd := CN V3.drew
  have CNe := CN (V3.alloc (.cells dkZero 37)).drew
  replace CX : ∀ V, Fls V V.heap.size A L → Hid (Calls Tryz.prog 52 #[.agg #[.slice A L.length c, .int .i64 z], .string F, .string s] V (StEnd V (⟨M, y⟩, g))) := CX
  have d0 : V3.drew.cell? ⟨w.heap.size, 0, none⟩ = some (.slice A L.length c) := Sd.1.cell 0
  have d1 : V3.drew.cell? ⟨w.heap.size, 1, none⟩ = some (.int .i64 z) := Sd.1.cell 1
  have e0 : (V3.alloc (.cells dkZero 37)).drew.cell? ⟨w.heap.size, 0, none⟩ = some (.slice A L.length c) := Se.1.cell 0
  have e1 : (V3.alloc (.cells dkZero 37)).drew.cell? ⟨w.heap.size, 1, none⟩ = some (.int .i64 z) := Se.1.cell 1
  unfold dkZero at CNe e0 e1
  clear c0 c1 CN be
  go_upto_region 7 with fail
  go_region_law (first
    | (go_simp; go_at_call 53; (with_reducible refine CNd.out.mono ?_); rintro _ V4 ⟨rfl, b4⟩
       have S4 := Sd.below b4
       have x0 : V4.cell? ⟨w.heap.size, 0, none⟩ = some (.slice A L.length c) := S4.1.cell 0
       have x1 : V4.cell? ⟨w.heap.size, 1, none⟩ = some (.int .i64 z) := S4.1.cell 1
       have CX4 := CX V4 S4.2.2.1
       have Sf : Sv w L A c z (V4.alloc (.cells dkZero 37)) := S4.below ((Below.refl _ _).alloc (Nat.le_refl _) _)
       have AF : Arr (V4.alloc (.cells dkZero 37)) V4.heap.size 37 dkZero := Arr.new _ _ _
       have y0 : (V4.alloc (.cells dkZero 37)).cell? ⟨w.heap.size, 0, none⟩ = some (.slice A L.length c) := Sf.1.cell 0
       have y1 : (V4.alloc (.cells dkZero 37)).cell? ⟨w.heap.size, 1, none⟩ = some (.int .i64 z) := Sf.1.cell 1
       have CXf := CX (V4.alloc (.cells dkZero 37)) Sf.2.2.1
       have hq4 : w.heap.size + 1 < V4.heap.size := S4.2.1.lt
       unfold dkZero at y0 y1 CXf)
    | (go_simp; go_at_call 53; (with_reducible refine CNe.out.mono ?_); rintro _ V5 ⟨rfl, b5⟩
       have S5 := Se.below b5
       have AE5 := AE.below b5 AE.lt
       have x0 : V5.cell? ⟨w.heap.size, 0, none⟩ = some (.slice A L.length c) := S5.1.cell 0
       have x1 : V5.cell? ⟨w.heap.size, 1, none⟩ = some (.int .i64 z) := S5.1.cell 1
       have CX5 := CX V5 S5.2.2.1)
    | (go_simp; go_at_call 52; (with_reducible refine CX4.out.mono ?_); rintro _ V6 ⟨Ab, cb, rfl, hFb, hcb, b6⟩
       have HF : Hid (∀ W', W' = V6.alloc (.cells #[.slice Ab M.length cb, .int .i64 y] 37) → Xv w M Ab cb y V6.heap.size W') := put_late (S4.below b6) hFb
       simp only [dkArr])
    | (go_simp; go_at_call 52; (with_reducible refine CXf.out.mono ?_); rintro _ V6 ⟨Ab, cb, rfl, hFb, hcb, b6⟩
       have AF6 := AF.below b6 AF.lt
       have HF : Hid (∀ W', W' = (V6.setCell ⟨V4.heap.size, 0, none⟩ (.slice Ab M.length cb)).setCell ⟨V4.heap.size, 1, none⟩ (.int .i64 y) → Xv w M Ab cb y V4.heap.size W') := put_early (Sf.below b6) hFb AF6 hq4
       have z0 : V6.cell? ⟨V4.heap.size, 0, none⟩ = some (.slice none 0 0) := AF6.cell 0
       have z1 := AF6.free 0
       have AG := AF6.put 0 (.slice Ab M.length cb)
       have z2 : (V6.setCell ⟨V4.heap.size, 0, none⟩ (.slice Ab M.length cb)).cell? ⟨V4.heap.size, 1, none⟩ = some (.int .i64 0) := AG.cell 1
       have z3 := AG.free 1
       simp only [dkArr])
    | (go_simp; go_at_call 52; (with_reducible refine CX5.out.mono ?_); rintro _ V6 ⟨Ab, cb, rfl, hFb, hcb, b6⟩
       have AE6 := AE5.below b6 AE5.lt
       have HF : Hid (∀ W', W' = (V6.setCell ⟨V3.heap.size, 0, none⟩ (.slice Ab M.length cb)).setCell ⟨V3.heap.size, 1, none⟩ (.int .i64 y) → Xv w M Ab cb y V3.heap.size W') := put_early (S5.below b6) hFb AE6 hq3
       have z0 : V6.cell? ⟨V3.heap.size, 0, none⟩ = some (.slice none 0 0) := AE6.cell 0
       have z1 := AE6.free 0
       have AG := AE6.put 0 (.slice Ab M.length cb)
       have z2 : (V6.setCell ⟨V3.heap.size, 0, none⟩ (.slice Ab M.length cb)).cell? ⟨V3.heap.size, 1, none⟩ = some (.int .i64 0) := AG.cell 1
       have z3 := AG.free 1
       simp only [dkArr]))
  all_goals
    go_upto_region 8 with fail
    first
      | (refine wp_forget (Xv w M Ab cb y V6.heap.size) (by exact HF.out _ rfl) ?_
         generalize V6.heap.size = qb)
      | (refine wp_forget (Xv w M Ab cb y V4.heap.size) (by exact HF.out _ rfl) ?_
         generalize V4.heap.size = qb)
      | (refine wp_forget (Xv w M Ab cb y V3.heap.size) (by exact HF.out _ rfl) ?_
         generalize V3.heap.size = qb)
    intro V8 hX
    have g0 : V8.cell? ⟨qb, 0, none⟩ = some (.slice Ab M.length cb) := hX.1.cell 0
    have g1 : V8.cell? ⟨qb, 1, none⟩ = some (.int .i64 y) := hX.1.cell 1
    by_cases hg : g = 0
    · have HR : Hid (Q = (⟨M, y⟩, I, 0)) := by show _ = _; rw [HQ.out, if_neg (fun h => h hg)]
      subst hg
      go_wp2_with (refine wpList_store_row rfl 37 _ _ rfl (w.heap.size + 1) (dkArr M Ab cb y) rfl rfl 37 dkZero hX.2.1 (dkInfo _ _ _ _) rfl (dkArr_one _ _ _ _) ?_)
      rw [HR.out]
      exact HRet.out _ _ ⟨M, y⟩ Ab cb I 0 (hX.2.1.row _) (below_setRow hX.2.2.2 (by omega) _) (hX.2.2.1.row hX.2.1 _) hcb rfl rfl rfl rfl
    · have HR : Hid (Q = (⟨M, y⟩, ⟨#[]⟩, g)) := by show _ = _; rw [HQ.out, if_pos hg]
      have hgb : (g != 0) = true := by rw [bne_iff_ne]; exact hg
      go_wp2_with (refine wpList_store_row rfl 37 _ _ rfl (w.heap.size + 1) (dkArr M Ab cb y) rfl rfl 37 dkZero hX.2.1 (dkInfo _ _ _ _) rfl (dkArr_one _ _ _ _) ?_)
      rw [HR.out]
      exact HRet.out _ _ ⟨M, y⟩ Ab cb ⟨#[]⟩ g (hX.2.1.row _) (below_setRow hX.2.2.2 (by omega) _) (hX.2.2.1.row hX.2.1 _) hcb rfl rfl rfl rfl
end Go.Proofs.YtkcnogmjnmnbdaaGreatDoor

/- Put and Get, again and behind a crash: plain mathematics. -/
namespace Go.Proofs.YtkcnogmjnmnbdaaGreatDoor
open Go.RowKit

/-- a save that says yes: the file lies there, all of it safe -/
theorem save_yes {L : List Fl} {n s : ByteArray} {z : Int} (h : (saveD ⟨L, z⟩ n s).2 = 0) : goodD (saveD ⟨L, z⟩ n s).1.files = true ∧ getF n (saveD ⟨L, z⟩ n s).1.files = some ⟨n, s, ⟨#[]⟩⟩ := by
  have hnf : n ≠ newN n := fun e => new_ne n e.symm
  have hG : goodD L = true := by
    cases hG : goodD L with
    | true => rfl
    | false => unfold saveD at h; rw [hG] at h; simp at h
  unfold saveD at h ⊢
  simp only [hG, Bool.not_true, Bool.false_eq_true, if_false] at h ⊢
  by_cases hN : (!named n || !named (newN n)) = true
  · rw [if_pos hN] at h; simp at h
  rw [if_neg hN] at h ⊢
  obtain ⟨r0, hr0⟩ : ∃ r0, r0 = (if (getF (newN n) L).isSome = true then stepP ⟨L, z⟩ (rmP L (newN n)) else (⟨L, z⟩, 0)) := ⟨_, rfl⟩
  rw [← hr0] at h ⊢
  have K0 : Keep n ⟨L, z⟩ r0.1 := by
    rw [hr0]
    split
    · exact rm_keep hG hnf
    · exact keep_refl hG
  by_cases e0 : r0.2 = 0
  case neg => rw [then_err e0, then_err e0, then_err e0] at h; exact absurd h e0
  have N0 : getF (newN n) r0.1.files = none := by
    rw [hr0] at e0 ⊢
    split
    · rename_i hs
      rw [if_pos hs] at e0
      obtain ⟨_, _, L1, h1, h2⟩ := step_yes rm_err e0
      rw [h2]
      obtain ⟨rfl, _⟩ := rm_ok hG h1
      rw [getF_del, if_pos rfl]
    · rename_i hs
      cases hg : getF (newN n) L with
      | none => rfl
      | some f => rw [hg] at hs; simp at hs
  rw [then_ok e0] at h ⊢
  obtain ⟨d0, _⟩ := r0
  simp only at K0 N0 h ⊢
  clear hr0 e0
  obtain ⟨r1, hr1⟩ : ∃ r1, r1 = stepP d0 (wrP d0.files (newN n) s) := ⟨_, rfl⟩
  rw [← hr1] at h ⊢
  have K1 : Keep n ⟨L, z⟩ r1.1 := by rw [hr1]; exact keep_trans K0 (wr_keep K0.1 hnf)
  by_cases e1 : r1.2 = 0
  case neg => rw [then_err e1, then_err e1] at h; exact absurd h e1
  have N1 : getF (newN n) r1.1.files = some ⟨newN n, ⟨#[]⟩, s⟩ := by
    rw [hr1] at e1 ⊢
    obtain ⟨_, _, L1, h1, h2⟩ := step_yes wr_err e1
    rw [h2]
    obtain ⟨_, ⟨f, hf, rfl⟩, _⟩ := wr_ok K0.1 h1
    rcases hf with hf | ⟨_, rfl⟩
    · rw [N0] at hf; cases hf
    · rw [getF_put _ _ _ _ ((goodD_iff _).1 K0.1).2.1, if_pos rfl, empty_append]
  rw [then_ok e1] at h ⊢
  obtain ⟨d1, _⟩ := r1
  simp only at K1 N1 h ⊢
  clear hr1 e1
  obtain ⟨r2, hr2⟩ : ∃ r2, r2 = stepP d1 (syP d1.files (newN n)) := ⟨_, rfl⟩
  rw [← hr2] at h ⊢
  have K2 : Keep n ⟨L, z⟩ r2.1 := by rw [hr2]; exact keep_trans K1 (sy_keep K1.1 hnf)
  by_cases e2 : r2.2 = 0
  case neg => rw [then_err e2] at h; exact absurd h e2
  have N2 : getF (newN n) r2.1.files = some ⟨newN n, s, ⟨#[]⟩⟩ := by
    rw [hr2] at e2 ⊢
    obtain ⟨_, _, L1, h1, h2⟩ := step_yes sy_err e2
    rw [h2]
    obtain ⟨f, hf, rfl, _⟩ := sy_ok K1.1 h1
    rw [N1] at hf
    cases hf
    rw [getF_put _ _ _ _ ((goodD_iff _).1 K1.1).2.1, if_pos rfl]
    show some (⟨newN n, (⟨#[]⟩ : ByteArray) ++ s, ⟨#[]⟩⟩ : Fl) = _
    rw [empty_append]
  rw [then_ok e2] at h ⊢
  obtain ⟨d2, _⟩ := r2
  simp only at K2 N2 h ⊢
  clear hr2 e2
  obtain ⟨_, _, L3, h1, h2⟩ := step_yes rn_err h
  obtain ⟨f, k1, k2, _, k4⟩ := rn_ok K2.1 h1
  rw [N2] at k1
  cases k1
  rw [h2]
  exact ⟨k4, k2⟩
theorem step_fuse {d : Dk} {r : Except Int (List Fl)} : (stepP d r).1.fuse ≤ d.fuse := by
  unfold stepP burnt
  split
  · exact Int.le_refl _
  · split
    · exact Int.le_refl _
    · cases r with
      | error e => exact Int.le_refl _
      | ok L =>
        show (if 0 < d.fuse then d.fuse - 1 else d.fuse) ≤ d.fuse
        split <;> omega
theorem then_fuse {d : Dk} {r : Dk × Int} {f : Dk → Dk × Int} (h : r.1.fuse ≤ d.fuse) (k : ∀ x : Dk, (f x).1.fuse ≤ x.fuse) : (thenD r f).1.fuse ≤ d.fuse := by
  unfold thenD
  split
  · exact h
  · exact Int.le_trans (k _) h
theorem save_fuse {d : Dk} {n s : ByteArray} : (saveD d n s).1.fuse ≤ d.fuse := by
  unfold saveD
  split
  · exact Int.le_refl _
  · split
    · exact Int.le_refl _
    · refine then_fuse (then_fuse (then_fuse ?_ fun _ => step_fuse) fun _ => step_fuse) fun _ => step_fuse
      split
      · exact step_fuse
      · exact Int.le_refl _
theorem put_fuse {d : Dk} {s : ByteArray} : (putO d s).1.fuse ≤ d.fuse := by
  unfold putO
  split
  · exact Int.le_refl _
  · split
    · exact Int.le_refl _
    · split <;> exact save_fuse
theorem putO_no {d : Dk} {s : ByteArray} (h : (putO d s).2.2 ≠ 0) : (putO d s).2.1 = ⟨#[]⟩ := by
  unfold putO at h ⊢
  split
  · rfl
  · rename_i h1
    rw [if_neg h1] at h
    split
    · rename_i h2
      rw [if_pos h2] at h
      exact absurd rfl h
    · rename_i h2
      rw [if_neg h2] at h
      split
      · rfl
      · rename_i h3
        rw [if_neg h3] at h
        exact absurd rfl h
theorem getO_size (d : Dk) (id : ByteArray) : (getO d id).1.size ≤ 1048576 := by
  unfold getO tellR
  have := readD_size d (fileN id)
  split
  · exact Nat.zero_le _
  · split
    · exact Nat.zero_le _
    · split
      · exact Nat.zero_le _
      · exact this
/-- what Get tells of a disk on which the file lies -/
theorem getO_at {d : Dk} {id t : ByteArray} (hi : id.size = 32) (hr : readD d (fileN id) = (t, 0)) (hs : sumB t = id) : getO d id = (t, 0) := by
  unfold getO tellR
  rw [if_neg (fun h => h hi), hr]
  simp [hs]
theorem getO_ok {d : Dk} {id : ByteArray} (h : (getO d id).2 = 0) : id.size = 32 ∧ readD d (fileN id) = ((getO d id).1, 0) ∧ sumB (getO d id).1 = id := by
  unfold getO tellR at h ⊢
  by_cases h1 : id.size = 32
  case neg => rw [if_pos h1] at h; simp at h
  rw [if_neg (fun q => q h1)] at h ⊢
  by_cases h2 : (readD d (fileN id)).2 = 0
  case neg => rw [if_pos h2] at h; exact absurd h h2
  rw [if_neg (fun q => q h2)] at h ⊢
  by_cases h3 : sumB (readD d (fileN id)).1 = id
  case neg => rw [if_pos h3] at h; simp at h
  rw [if_neg (fun q => q h3)]
  exact ⟨h1, Prod.ext rfl h2, h3⟩
theorem readD_good {d : Dk} {n : ByteArray} (h : (readD d n).2 = 0) : goodD d.files = true := by
  cases hG : goodD d.files with
  | true => rfl
  | false => unfold readD at h; rw [hG] at h; simp at h
theorem hasO_ok {d : Dk} {id : ByteArray} (h : hasO d id = true) : (getO d id).2 = 0 ∧ (decO (getO d id).1.data.toList).2 = 0 := by
  unfold hasO loadR at h
  have h := of_decide_eq_true h
  by_cases h1 : (getO d id).2 = 0
  case neg => rw [if_pos h1] at h; simp at h
  rw [if_neg (fun q => q h1)] at h
  by_cases h2 : (decO (getO d id).1.data.toList).2 = 0
  case neg => rw [if_pos h2] at h; simp at h
  exact ⟨h1, h2⟩
theorem hasO_of {d : Dk} {id t : ByteArray} (h : getO d id = (t, 0)) (hd : (decO t.data.toList).2 = 0) : hasO d id = true := by
  unfold hasO loadR
  rw [h]
  simp [hd]
/-- a Put that says yes -/
theorem putO_yes {d : Dk} {s : ByteArray} (h : (putO d s).2.2 = 0) : (decO s.data.toList).2 = 0 ∧ (putO d s).2.1 = sumB s ∧ goodD (putO d s).1.files = true ∧
    ((hasO d (sumB s) = true ∧ (putO d s).1 = d) ∨ (getF (fileN (sumB s)) (putO d s).1.files = some ⟨fileN (sumB s), s, ⟨#[]⟩⟩)) := by
  unfold putO at h ⊢
  by_cases h1 : (decO s.data.toList).2 = 0
  case neg => rw [if_pos h1] at h; exact absurd h h1
  rw [if_neg (fun q => q h1)] at h ⊢
  by_cases h2 : hasO d (sumB s) = true
  · rw [if_pos h2] at h ⊢
    have hr := (getO_ok (hasO_ok h2).1).2.1
    exact ⟨h1, rfl, readD_good (n := fileN (sumB s)) (by rw [hr]), .inl ⟨h2, rfl⟩⟩
  rw [if_neg h2] at h ⊢
  by_cases h3 : (saveD d (fileN (sumB s)) s).2 = 0
  case neg => rw [if_pos h3] at h; exact absurd h h3
  rw [if_neg (fun q => q h3)]
  obtain ⟨L, z⟩ := d
  obtain ⟨k1, k2⟩ := save_yes h3
  exact ⟨h1, rfl, k1, .inr k2⟩
/-- what a Put that says yes has left -/
theorem put_back {d : Dk} {s : ByteArray} (k : Nat) (h : (putO d s).2.2 = 0) :
    putO (putO d s).1 s = ((putO d s).1, sumB s, 0) ∧ (getO (putO d s).1 (sumB s)).2 = 0 ∧ sumB (getO (putO d s).1 (sumB s)).1 = sumB s ∧
    ((getO (putO d s).1 (sumB s)).1 ≠ s → (getO d (sumB s)).2 = 0) ∧
    ((getO d (sumB s)).2 = 0 ∨ getO ⟨(putO d s).1.files.map (crashF k), -1⟩ (sumB s) = (s, 0)) := by
  obtain ⟨h1, _, hG, h2⟩ := putO_yes h
  generalize (putO d s).1 = a at *
  have again : hasO a (sumB s) = true → putO a s = (a, sumB s, 0) := fun hh => by
    unfold putO
    rw [if_neg (fun q => q h1), if_pos hh]
  rcases h2 with ⟨h2, rfl⟩ | h2
  · obtain ⟨k1, _⟩ := hasO_ok h2
    exact ⟨again h2, k1, (getO_ok k1).2.2, fun _ => k1, .inl k1⟩
  · have hr : readD a (fileN (sumB s)) = (s, 0) := by
      unfold readD
      rw [hG, h2]
      simp only [Bool.not_true, Bool.false_eq_true, if_false]
      rw [app_none]
    have hg : getO a (sumB s) = (s, 0) := getO_at (sumB_size s) hr rfl
    have hb : readD ⟨a.files.map (crashF k), -1⟩ (fileN (sumB s)) = (s, 0) := by
      unfold readD
      simp only [good_crash hG k, get_crash, h2, Option.map_some]
      rw [crash_still (f := ⟨fileN (sumB s), s, ⟨#[]⟩⟩) rfl k]
      simp only [Bool.not_true, Bool.false_eq_true, if_false]
      rw [app_none]
    refine ⟨again (hasO_of hg h1), by rw [hg], by rw [hg], fun q => absurd (by rw [hg]) q, .inr (getO_at (sumB_size s) hb rfl)⟩
def aaT : ByteArray := ⟨#[1, 1, 97]⟩
theorem stores_put : putO ⟨[], -1⟩ aaT = (⟨[⟨fileN (sumB aaT), aaT, ⟨#[]⟩⟩], -1⟩, sumB aaT, 0) := by decide +kernel
theorem stores_get : getO ⟨[⟨fileN (sumB aaT), aaT, ⟨#[]⟩⟩], -1⟩ (sumB aaT) = (aaT, 0) := by decide +kernel
end Go.Proofs.YtkcnogmjnmnbdaaGreatDoor
