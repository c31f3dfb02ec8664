/- Texts in one: MkTold, MkBinds. -/
import Derived.Test.YtejapjmlofekfaaDoorTake
/- keep.told: its contract. -/
namespace Go.Proofs.YtejapjmlofekfaaDoor
open Go.RowKit

theorem foldD_size : ∀ (cs : List Bool) (ps : List ByteArray) (r : ByteArray), r.size = 32 → (foldD cs ps r).size = 32
  | [], ps, r, h => by
    cases ps <;> exact h
  | c :: cs, [], r, h => h
  | c :: cs, p :: ps, r, h => foldD_size cs ps _ (by unfold stepD; split <;> exact dg_size _)
/-- what told leaves -/
def ToEnd (w : World) (T : List ByteArray) (i : Nat) (s : ByteArray) (P : List ByteArray) (e : Ending) (w' : World) : Prop :=
  ∃ x b, e = .returned (.tuple #[.string x, .bool b]) ∧ x.size ≤ 140737488355328 ∧ (P.length = (sidesN T.length i).length → x = foldD (sidesN T.length i) P (leafD s)) ∧
    (P.length = (sidesN T.length i).length → x = rootL T → (∀ y, T[i]? = some y → s ≠ y) → b = true) ∧ Below w.heap.size w w'
theorem clashB_leaf {s y : ByteArray} (h : leafD s = leafD y) (hn : s ≠ y) : clashB (leafT s) (leafT y) = true := decide_eq_true ⟨fun e => hn (leafT_inj e), h⟩
/-- two roots put together: the parts are the same, or there is a clash -/
theorem clashB_node {a b c d : ByteArray} (h : nodeD a b = nodeD c d) (hl : a.size = c.size) (hn : clashB (nodeT a b) (nodeT c d) = false) : a = c ∧ b = d := by
  have := of_decide_eq_false hn
  by_cases e : nodeT a b = nodeT c d
  · exact nodeT_inj e hl
  · exact absurd ⟨e, h⟩ this
theorem app_inj2 {a b c d : ByteArray} (h : a ++ b = c ++ d) (hl : b.size = d.size) : a = c ∧ b = d := by
  have h1 : (a ++ b).data.toList = (c ++ d).data.toList := by rw [h]
  rw [append_list, append_list] at h1
  have h2 := List.append_inj' h1 (by simpa using hl)
  exact ⟨bytes_eq h2.1, bytes_eq h2.2⟩
theorem clashB_node2 {a b c d : ByteArray} (h : nodeD a b = nodeD c d) (hl : b.size = d.size) (hn : clashB (nodeT a b) (nodeT c d) = false) : a = c ∧ b = d := by
  have := of_decide_eq_false hn
  by_cases e : nodeT a b = nodeT c d
  · unfold nodeT at e
    have e1 := app_inj2 e hl
    exact ⟨(app_inj e1.1 rfl).2, e1.2⟩
  · exact absurd ⟨e, h⟩ this
theorem sum_small (x : ByteArray) (h : x.size ≤ 140737488355328) : ¬ (9223372036854775807 < 1 + x.size) := by omega
set_option maxRecDepth 100000 in
set_option maxHeartbeats 1000000 in
theorem told_one (y : ByteArray) (i : Nat) (s : ByteArray) (P : List ByteArray) (hy : y.size ≤ 140737488355328) (hs : s.size ≤ 140737488355328) (hi : i < 1) (A A' : Option Addr) (c n c' : Nat) (w : World) (hT : Txs w w.heap.size A [y]) (ht : Tab w) :
    Calls Tryd.prog 32 #[.slice A 1 c, .int .i64 (i : Int), .string s, .slice A' n c'] w (ToEnd w [y] i s P) := by
  obtain rfl : i = 0 := by omega
  obtain ⟨ad, rfl, hlt, h0⟩ := hT 0 y rfl
  rw [show ad.add 0 = ad from by simp [Addr.add]] at h0 hlt
  have C1 : ∀ W, Hid (Tab W → Calls Tryd.prog 22 #[.string s] W (TEnd W (leafD s))) := fun W q => Leaf_any s (by omega) W q
  have b1 : (⟨#[0]⟩ ++ s : ByteArray).size < 1152921504606846976 := by rw [ByteArray.size_append, show (⟨#[0]⟩ : ByteArray).size = 1 from rfl]; omega
  have b2 : (⟨#[0]⟩ ++ y : ByteArray).size < 1152921504606846976 := by rw [ByteArray.size_append, show (⟨#[0]⟩ : ByteArray).size = 1 from rfl]; omega
  have C2 : ∀ W, Hid (Tab W → Calls Tryd.prog 35 #[.string (⟨#[0]⟩ ++ s), .string (⟨#[0]⟩ ++ y)] W (BEnd W (clashB (leafT s) (leafT y)))) := fun W q => kclash_any (leafT s) (leafT y) b1 b2 W q
  have HB : Hid (leafD s = leafD y → s ≠ y → clashB (leafT s) (leafT y) = true) := clashB_leaf
  have hsd : sidesN [y].length 0 = [] := sidesN_one (Nat.lt_succ_self 1) 0
  have z := leafD_small s
  have hf : Hid (∀ P : List ByteArray, foldD [] P (leafD s) = leafD s) := fun P => by cases P <;> rfl
  unfold ToEnd
  rw [hsd, rootL_one]
  generalize clashB (leafT s) (leafT y) = b at *
  generalize leafD s = x at *
  clear b1 b2 hsd hT
  have hVd : Hid (Tab w.drew) := Lib.hid ht
  have B0 : Hid (Below w.heap.size w w.drew) := below_drewN (Below.refl _ _) 1
  have hcd : w.drew.cell? ad = some (.string y) := h0
  have h1 := sum_small s hs
  have h2 := sum_small y hy
  go_enter Tryd.func32, Tryd.ntmps32
  go_wp2_with fail
  go_region_held3 (fun w' => w'.cell? ad = some (.string y)) (first | exact hcd | exact hce | exact hcf)
    (first
      | (go_at_call 22
         (with_reducible refine ((C1 _).out hVd.out).mono ?_)
         rintro _ w1 ⟨rfl, b1⟩
         have hce := (b1.cell (p := ad) hlt).trans hcd
         have hlt2 : ad.block < w1.heap.size := Nat.lt_of_lt_of_le hlt b1.size
         have B1 := Lib.hid (B0.out.trans (b1.mono B0.out.size))
         have t1 := Lib.hid (hVd.out.below b1 hVd.out.1))
      | (go_at_call 35
         (with_reducible refine ((C2 _).out t1.out).mono ?_)
         rintro _ w2 ⟨rfl, b2⟩
         have hcf := (b2.cell (p := ad) hlt2).trans hce))
  all_goals
    go_wp2_with fail
    go_ret2
    refine ⟨x, b, rfl, z, fun h => ?_, fun _ e hn => HB.out e (hn y rfl), B1.out.trans (b2.mono B1.out.size)⟩
    rw [hf.out]
set_option maxRecDepth 100000 in
set_option maxHeartbeats 8000000 in
theorem told_any : ∀ (N : Nat) (T : List ByteArray) (i : Nat) (s : ByteArray) (P : List ByteArray), T.length ≤ N → i < T.length → T.length ≤ 130 → s.size ≤ 140737488355328 → Short T → Short P → P.length ≤ 140737488355328 →
    ∀ (A A' : Option Addr) (c c' : Nat) (w : World), Txs w w.heap.size A T → T.length ≤ c → Txs w w.heap.size A' P → P.length ≤ c' → Tab w →
    Calls Tryd.prog 32 #[.slice A T.length c, .int .i64 (i : Int), .string s, .slice A' P.length c'] w (ToEnd w T i s P) := by
  intro N
  induction N with
  | zero =>
    intro T i s P hN hi
    omega
  | succ N ih0 =>
    intro T i s P hN hi hm hs hsT hsP hmP A A' c c' w hT hc hP hc' ht
    by_cases h2 : 2 ≤ T.length
    case neg =>
      match T, hi, h2 with
      | [y], hi, _ => exact told_one y i s P (hsT y List.mem_cons_self) hs hi A A' c P.length c' w hT ht
      | x :: y :: l, _, h2 => simp at h2
    have q1 : ¬ ((T.length : Int) = 1) := by omega
    rcases List.eq_nil_or_concat P with rfl | ⟨Q, o, hQ⟩
    · have hne : (sidesN T.length i).length ≠ 0 := by
        by_cases hk : i < spl T.length
        · rw [sidesN_lo h2 hk]; simp
        · rw [sidesN_hi h2 (by omega)]; simp
      rw [List.length_nil]
      go_enter Tryd.func32, Tryd.ntmps32
      go_wp2_with fail
      go_ret2
      exact ⟨⟨#[]⟩, false, rfl, by decide, fun h => absurd h.symm hne, fun h => absurd h.symm hne, Below.refl _ _⟩
    rw [List.concat_eq_append] at hQ
    subst hQ
    have k1 := spl_lt h2
    have k0 := spl_pos T.length
    have hlen : (Q ++ [o]).length = Q.length + 1 := by simp
    rw [hlen] at hc' hmP ⊢
    have C0 : ∀ W, Hid _ := fun W => Lib.hid (half_any T.length h2 (by omega) W)
    obtain ⟨ad, rfl, hb, hb2⟩ := hT 0 T[0] (List.getElem?_eq_getElem (by omega))
    obtain ⟨ad', rfl, hPb, hPc⟩ := hP.last
    clear hb hb2
    have e1 : (T.take (spl T.length)).length = spl T.length := by rw [List.length_take]; omega
    have e2 : (T.drop (spl T.length)).length = T.length - spl T.length := by rw [List.length_drop]
    have ih := ih0
    clear ih0
    have ho := hsP.last
    have hsQ := hsP.init
    have R1 : ∀ W, Hid (Txs W W.heap.size (some ad) T → Tab W → Calls Tryd.prog 12 #[.slice (some ad) (spl T.length) c] W (TEnd W (rootL (T.take (spl T.length))))) := fun W p q => by
      have := Root_any _ (T.take (spl T.length)) (Nat.le_refl _) (by omega) (hsT.take _) (some ad) c W (p.take _) (by omega) q
      rw [e1] at this
      exact this
    have R2 : ∀ W, Hid (Txs W W.heap.size (some ad) T → Tab W → Calls Tryd.prog 12 #[.slice (some (ad.add (spl T.length))) (T.length - spl T.length) (c - spl T.length)] W (TEnd W (rootL (T.drop (spl T.length))))) := fun W p q => by
      have := Root_any _ (T.drop (spl T.length)) (Nat.le_refl _) (by omega) (hsT.drop _) (some (ad.add (spl T.length))) (c - spl T.length) W (p.drop _) (by omega) q
      rw [e2] at this
      exact this
    have hroot := rootL_two h2
    have z1 := rootL_size (T.take (spl T.length))
    have z2 := rootL_size (T.drop (spl T.length))
    by_cases hk : i < spl T.length
    · skip
      have C1 : ∀ W, Hid (Txs W W.heap.size (some ad) T → Txs W W.heap.size (some ad') Q → Tab W → Calls Tryd.prog 32 #[.slice (some ad) (spl T.length) c, .int .i64 (i : Int), .string s, .slice (some ad') Q.length c'] W (ToEnd W (T.take (spl T.length)) i s Q)) := fun W p p' q => by
        have := ih (T.take (spl T.length)) i s Q (by omega) (by omega) (by omega) hs (hsT.take _) hsQ (by omega) (some ad) (some ad') c c' W (p.take _) (by omega) p' (by omega) q
        rw [e1] at this
        exact this
      have hget : ∀ y, (T.take (spl T.length))[i]? = some y → T[i]? = some y := fun y hy => by rw [List.getElem?_take_of_lt hk] at hy; exact hy
      have HS := Lib.hid (sidesN_lo h2 hk)
      unfold ToEnd at C1 ⊢
      rw [e1] at C1
      rw [HS.out, hroot, hlen]
      have HG := Lib.hid hget
      clear ih hsT hsQ hsP e1 e2 hget hroot
      have hlt : ((i : Int) < ((spl T.length : Nat) : Int)) := by omega
      generalize rootL (T.take (spl T.length)) = ra at *
      generalize rootL (T.drop (spl T.length)) = rb at *
      generalize T.take (spl T.length) = T1 at *
      generalize spl T.length = k at *
      have n2 : ¬ (c = k) := by omega
      have n3 : k ≤ c := by omega
      have n4 : k ≤ T.length := by omega
      have HT := Lib.hid hT
      have HP := Lib.hid hP
      have HPl := Lib.hid hPb
      have ht1 := Lib.hid ht
      clear hT hP ht hPb hlen
      generalize hz : Q.length = z at *
      have Hz := Lib.hid hz
      clear hz
      generalize hn : T.length = n at *
      have Hn := Lib.hid hn
      clear hn
      have n5 : z ≤ c' := by omega
      go_enter Tryd.func32, Tryd.ntmps32
      go_wp2_with fail
      (with_reducible refine (C0 _).out.mono ?_)
      rintro _ w1 ⟨rfl, rfl⟩
      have HQ := Lib.hid HP.out.init
      go_wp2_with fail
      (with_reducible refine ((C1 _).out HT.out HQ.out ht1.out).mono ?_)
      rintro _ w2 ⟨x, b, rfl, xs, hx, hbb, b2⟩
      have HX := Lib.hid hx
      have HB := Lib.hid hbb
      have HT2 := Lib.hid ((HT.out.below b2).mono b2.size)
      have B2 := Lib.hid b2
      have ht2 := Lib.hid (ht1.out.below b2 ht1.out.1)
      clear hx hbb b2
      have CN : ∀ W, Hid (Tab W → Calls Tryd.prog 24 #[.string x, .string o] W (TEnd W (nodeD x o))) := fun W q => Node_any x o (by omega) (by omega) W q
      have hX32 : Hid (z = (sidesN k i).length → x.size = ra.size) := fun h => by rw [HX.out h, z1]; exact foldD_size _ _ _ (dg_size _)
      have hfold : Hid (z + 1 = (sidesN k i ++ [false]).length → nodeD x o = foldD (sidesN k i ++ [false]) (Q ++ [o]) (leafD s)) := fun h => by
        have h' : z = (sidesN k i).length := by simpa using h
        rw [foldD_end _ _ _ _ _ (by rw [Hz.out]; exact h'.symm), ← HX.out h']; rfl
      clear HX
      cases b with
      | true =>
        have zs := nodeD_small x o
        generalize nodeD x o = nx at *
        have htd : Hid (Tab w2.drew) := ht2
        have B3 : Hid (Below w1.heap.size w1 w2.drew) := below_drewN B2.out 1
        have CNd := CN w2.drew
        go_upto_region 10 with fail
        refine wp_region_held_drew (S := fun _ => True) (by kernel_rfl) trivial (fun hHeld => ?_)
        refine takeY 0 58 (.string x) rfl rfl (by kernel_rfl) (by kernel_rfl) (by kernel_rfl) (fun _ _ _ h => h) (by rfl) (fun w hSw => ?_) hHeld ?_
        · first
          | (go_simp; done)
          | (go_simp; with_reducible rfl)
        simp only [List.setIfInBounds_toArray, List.set_cons_zero, List.set_cons_succ]
        refine takeY 1 59 (.string o) rfl rfl (by kernel_rfl) (by kernel_rfl) (by kernel_rfl) (fun _ _ _ h => h) (by rfl) (fun w hSw => ?_) hHeld ?_
        · first
          | (go_simp; done)
          | (go_simp; with_reducible rfl)
        simp only [List.setIfInBounds_toArray, List.set_cons_zero, List.set_cons_succ]
        refine takeY 3 61 (.bool true) rfl rfl (by kernel_rfl) (by kernel_rfl) (by kernel_rfl) (fun _ _ _ h => h) (by rfl) (fun w hSw => ?_) hHeld ?_
        · first
          | (go_simp; done)
          | (go_simp; with_reducible rfl)
        simp only [List.setIfInBounds_toArray, List.set_cons_zero, List.set_cons_succ]
        refine wpAnyH_ready (rs := [2]) (by kernel_rfl) (by simp) ?_
        refine AllReadyH.cons rfl (fun K hK => ?_) AllReadyH.nil
        go_simp
        (with_reducible refine (CNd.out htd.out).mono ?_)
        rintro _ w3 ⟨rfl, b3⟩
        (try simp only [])
        refine hK.out _ _ trivial (fun hHeld => ?_)
        clear hK K
        (try simp only [Act.put, List.setIfInBounds_toArray, List.set_cons_zero, List.set_cons_succ])
        refine takeY 4 62 (.bool true) rfl rfl (by kernel_rfl) (by kernel_rfl) (by kernel_rfl) (fun _ _ _ h => h) (by rfl) (fun w hSw => ?_) hHeld ?_
        · first
          | (go_simp; done)
          | (go_simp; with_reducible rfl)
        simp only [List.setIfInBounds_toArray, List.set_cons_zero, List.set_cons_succ]
        refine takeN 5 63 rfl rfl (by kernel_rfl) (by kernel_rfl) (by kernel_rfl) (fun _ _ _ h => h) (by rfl) hHeld ?_
        simp only [List.setIfInBounds_toArray, List.set_cons_zero, List.set_cons_succ]
        refine takeN 6 64 rfl rfl (by kernel_rfl) (by kernel_rfl) (by kernel_rfl) (fun _ _ _ h => h) (by rfl) hHeld ?_
        simp only [List.setIfInBounds_toArray, List.set_cons_zero, List.set_cons_succ]
        refine takeN 7 65 rfl rfl (by kernel_rfl) (by kernel_rfl) (by kernel_rfl) (fun _ _ _ h => h) (by rfl) hHeld ?_
        simp only [List.setIfInBounds_toArray, List.set_cons_zero, List.set_cons_succ]
        refine takeN 8 66 rfl rfl (by kernel_rfl) (by kernel_rfl) (by kernel_rfl) (fun _ _ _ h => h) (by rfl) hHeld ?_
        simp only [List.setIfInBounds_toArray, List.set_cons_zero, List.set_cons_succ]
        refine takeN 9 67 rfl rfl (by kernel_rfl) (by kernel_rfl) (by kernel_rfl) (fun _ _ _ h => h) (by rfl) hHeld ?_
        simp only [List.setIfInBounds_toArray, List.set_cons_zero, List.set_cons_succ]
        refine takeN 10 68 rfl rfl (by kernel_rfl) (by kernel_rfl) (by kernel_rfl) (fun _ _ _ h => h) (by rfl) hHeld ?_
        simp only [List.setIfInBounds_toArray, List.set_cons_zero, List.set_cons_succ]
        refine takeN 11 69 rfl rfl (by kernel_rfl) (by kernel_rfl) (by kernel_rfl) (fun _ _ _ h => h) (by rfl) hHeld ?_
        simp only [List.setIfInBounds_toArray, List.set_cons_zero, List.set_cons_succ]
        refine takeN 12 70 rfl rfl (by kernel_rfl) (by kernel_rfl) (by kernel_rfl) (fun _ _ _ h => h) (by rfl) hHeld ?_
        simp only [List.setIfInBounds_toArray, List.set_cons_zero, List.set_cons_succ]
        refine takeN 13 71 rfl rfl (by kernel_rfl) (by kernel_rfl) (by kernel_rfl) (fun _ _ _ h => h) (by rfl) hHeld ?_
        simp only [List.setIfInBounds_toArray, List.set_cons_zero, List.set_cons_succ]
        refine takeN 14 72 rfl rfl (by kernel_rfl) (by kernel_rfl) (by kernel_rfl) (fun _ _ _ h => h) (by rfl) hHeld ?_
        simp only [List.setIfInBounds_toArray, List.set_cons_zero, List.set_cons_succ]
        refine takeN 15 73 rfl rfl (by kernel_rfl) (by kernel_rfl) (by kernel_rfl) (fun _ _ _ h => h) (by rfl) hHeld ?_
        simp only [List.setIfInBounds_toArray, List.set_cons_zero, List.set_cons_succ]
        refine takeN 16 74 rfl rfl (by kernel_rfl) (by kernel_rfl) (by kernel_rfl) (fun _ _ _ h => h) (by rfl) hHeld ?_
        simp only [List.setIfInBounds_toArray, List.set_cons_zero, List.set_cons_succ]
        refine takeN 17 75 rfl rfl (by kernel_rfl) (by kernel_rfl) (by kernel_rfl) (fun _ _ _ h => h) (by rfl) hHeld ?_
        simp only [List.setIfInBounds_toArray, List.set_cons_zero, List.set_cons_succ]
        refine takeN 18 76 rfl rfl (by kernel_rfl) (by kernel_rfl) (by kernel_rfl) (fun _ _ _ h => h) (by rfl) hHeld ?_
        simp only [List.setIfInBounds_toArray, List.set_cons_zero, List.set_cons_succ]
        refine takeN 19 77 rfl rfl (by kernel_rfl) (by kernel_rfl) (by kernel_rfl) (fun _ _ _ h => h) (by rfl) hHeld ?_
        simp only [List.setIfInBounds_toArray, List.set_cons_zero, List.set_cons_succ]
        refine takeY 20 78 (.bool true) rfl rfl (by kernel_rfl) (by kernel_rfl) (by kernel_rfl) (fun _ _ _ h => h) (by rfl) (fun w hSw => ?_) hHeld ?_
        · first
          | (go_simp; done)
          | (go_simp; with_reducible rfl)
        simp only [List.setIfInBounds_toArray, List.set_cons_zero, List.set_cons_succ]
        refine takeY 21 8 (.string nx) rfl rfl (by kernel_rfl) (by kernel_rfl) (by kernel_rfl) (fun _ _ _ h => h) (by rfl) (fun w hSw => ?_) hHeld ?_
        · first
          | (go_simp; done)
          | (go_simp; with_reducible rfl)
        simp only [List.setIfInBounds_toArray, List.set_cons_zero, List.set_cons_succ]
        refine takeY 22 9 (.bool true) rfl rfl (by kernel_rfl) (by kernel_rfl) (by kernel_rfl) (fun _ _ _ h => h) (by rfl) (fun w hSw => ?_) hHeld ?_
        · first
          | (go_simp; done)
          | (go_simp; with_reducible rfl)
        simp only [List.setIfInBounds_toArray, List.set_cons_zero, List.set_cons_succ]
        refine wpAnyH_done (by kernel_rfl) ?_ _
        go_wp2_with fail
        go_ret2
        exact ⟨nx, true, rfl, zs, hfold.out, fun _ _ _ => rfl, B3.out.trans (b3.mono B3.out.size)⟩
      | false =>
        have s1 := sum_small x (by omega)
        have s2 : ¬ (9223372036854775807 < (⟨#[1]⟩ ++ x : ByteArray).size + o.size) := by rw [ByteArray.size_append, show (⟨#[1]⟩ : ByteArray).size = 1 from rfl]; omega
        have s3 := sum_small ra (by omega)
        have s4 : ¬ (9223372036854775807 < (⟨#[1]⟩ ++ ra : ByteArray).size + rb.size) := by rw [ByteArray.size_append, show (⟨#[1]⟩ : ByteArray).size = 1 from rfl]; omega
        have s5 : ¬ (9223372036854775807 < 1 + x.size + o.size) := by omega
        have s6 : ¬ (9223372036854775807 < 1 + ra.size + rb.size) := by omega
        have CC : ∀ W, Hid (Tab W → Calls Tryd.prog 35 #[.string (⟨#[1]⟩ ++ x ++ o), .string (⟨#[1]⟩ ++ ra ++ rb)] W (BEnd W (clashB (nodeT x o) (nodeT ra rb)))) := fun W q => kclash_any (nodeT x o) (nodeT ra rb) (by unfold nodeT; rw [ByteArray.size_append, ByteArray.size_append, show (⟨#[1]⟩ : ByteArray).size = 1 from rfl]; omega) (by unfold nodeT; rw [ByteArray.size_append, ByteArray.size_append, show (⟨#[1]⟩ : ByteArray).size = 1 from rfl]; omega) W q
        have HF : Hid (z + 1 = (sidesN k i ++ [false]).length → nodeD x o = nodeD ra rb → (∀ y, T[i]? = some y → s ≠ y) → clashB (nodeT x o) (nodeT ra rb) = true) := fun h1 h2 h3 => by
          have h' : z = (sidesN k i).length := by simpa using h1
          cases hcl : clashB (nodeT x o) (nodeT ra rb)
          · have := HB.out h' ((clashB_node h2 (hX32.out h') hcl).1) (fun y hy => h3 y (HG.out y hy))
            cases this
          · rfl
        generalize clashB (nodeT x o) (nodeT ra rb) = cb at *
        have zs := nodeD_small x o
        generalize nodeD x o = nx at *
        have HTd : Hid (Txs w2.drew w2.drew.heap.size (some ad) T) := HT2
        have htd : Hid (Tab w2.drew) := ht2
        have B3 : Hid (Below w1.heap.size w1 w2.drew) := below_drewN B2.out 1
        have CNd := CN w2.drew
        go_wp2_with fail
        go_region_held3 (fun _ => True) (exact trivial) (first
          | (go_at_call 24
             (with_reducible refine (CNd.out htd.out).mono ?_)
             rintro _ w3 ⟨rfl, b3⟩
             have HT3 := Lib.hid ((HTd.out.below b3).mono b3.size)
             have ht3 := Lib.hid (htd.out.below b3 htd.out.1)
             have B4 := Lib.hid (B3.out.trans (b3.mono B3.out.size)))
          | (go_at_call 12
             (with_reducible refine ((R1 _).out HT3.out ht3.out).mono ?_)
             rintro _ w4 ⟨rfl, b4⟩
             have HT4 := Lib.hid ((HT3.out.below b4).mono b4.size)
             have ht4 := Lib.hid (ht3.out.below b4 ht3.out.1)
             have B5 := Lib.hid (B4.out.trans (b4.mono B4.out.size)))
          | (go_at_call 12
             (with_reducible refine ((R2 _).out HT4.out ht4.out).mono ?_)
             rintro _ w5 ⟨rfl, b5⟩
             have ht5 := Lib.hid (ht4.out.below b5 ht4.out.1)
             have B6 := Lib.hid (B5.out.trans (b5.mono B5.out.size)))
          | (go_at_call 35
             (with_reducible refine ((CC _).out ht5.out).mono ?_)
             rintro _ w6 ⟨rfl, b6⟩))
        all_goals
          go_wp2_with fail
          go_ret2
          exact ⟨nx, cb, rfl, zs, hfold.out, HF.out, B6.out.trans (b6.mono B6.out.size)⟩
    · skip
      have C1 : ∀ W, Hid (Txs W W.heap.size (some ad) T → Txs W W.heap.size (some ad') Q → Tab W → Calls Tryd.prog 32 #[.slice (some (ad.add (spl T.length))) (T.length - spl T.length) (c - spl T.length), .int .i64 ((i : Int) - ((spl T.length : Nat) : Int)), .string s, .slice (some ad') Q.length c'] W (ToEnd W (T.drop (spl T.length)) (i - spl T.length) s Q)) := fun W p p' q => by
        have := ih (T.drop (spl T.length)) (i - spl T.length) s Q (by omega) (by omega) (by omega) hs (hsT.drop _) hsQ (by omega) (some (ad.add (spl T.length))) (some ad') (c - spl T.length) c' W (p.drop _) (by omega) p' (by omega) q
        rw [e2, show ((i - spl T.length : Nat) : Int) = (i : Int) - ((spl T.length : Nat) : Int) from by omega] at this
        exact this
      have hget : ∀ y, (T.drop (spl T.length))[i - spl T.length]? = some y → T[i]? = some y := fun y hy => by rw [List.getElem?_drop, show spl T.length + (i - spl T.length) = i from by omega] at hy; exact hy
      have HS := Lib.hid (sidesN_hi (i := i) h2 (by omega))
      unfold ToEnd at C1 ⊢
      rw [e2] at C1
      rw [HS.out, hroot, hlen]
      have HG := Lib.hid hget
      clear ih hsT hsQ hsP e1 e2 hget hroot
      have hlt : ¬ ((i : Int) < ((spl T.length : Nat) : Int)) := by omega
      generalize rootL (T.take (spl T.length)) = ra at *
      generalize rootL (T.drop (spl T.length)) = rb at *
      generalize T.drop (spl T.length) = T1 at *
      generalize spl T.length = k at *
      have n2 : ¬ (c = k) := by omega
      have n3 : k ≤ c := by omega
      have n4 : k ≤ T.length := by omega
      have HT := Lib.hid hT
      have HP := Lib.hid hP
      have HPl := Lib.hid hPb
      have ht1 := Lib.hid ht
      clear hT hP ht hPb hlen
      generalize hz : Q.length = z at *
      have Hz := Lib.hid hz
      clear hz
      generalize hn : T.length = n at *
      have Hn := Lib.hid hn
      clear hn
      have n5 : z ≤ c' := by omega
      go_enter Tryd.func32, Tryd.ntmps32
      go_wp2_with fail
      (with_reducible refine (C0 _).out.mono ?_)
      rintro _ w1 ⟨rfl, rfl⟩
      have HQ := Lib.hid HP.out.init
      go_wp2_with fail
      (with_reducible refine ((C1 _).out HT.out HQ.out ht1.out).mono ?_)
      rintro _ w2 ⟨x, b, rfl, xs, hx, hbb, b2⟩
      have HX := Lib.hid hx
      have HB := Lib.hid hbb
      have HT2 := Lib.hid ((HT.out.below b2).mono b2.size)
      have B2 := Lib.hid b2
      have ht2 := Lib.hid (ht1.out.below b2 ht1.out.1)
      clear hx hbb b2
      have CN : ∀ W, Hid (Tab W → Calls Tryd.prog 24 #[.string o, .string x] W (TEnd W (nodeD o x))) := fun W q => Node_any o x (by omega) (by omega) W q
      have hX32 : Hid (z = (sidesN (n - k) (i - k)).length → x.size = rb.size) := fun h => by rw [HX.out h, z2]; exact foldD_size _ _ _ (dg_size _)
      have hfold : Hid (z + 1 = (sidesN (n - k) (i - k) ++ [true]).length → nodeD o x = foldD (sidesN (n - k) (i - k) ++ [true]) (Q ++ [o]) (leafD s)) := fun h => by
        have h' : z = (sidesN (n - k) (i - k)).length := by simpa using h
        rw [foldD_end _ _ _ _ _ (by rw [Hz.out]; exact h'.symm), ← HX.out h']; rfl
      clear HX
      cases b with
      | true =>
        have zs := nodeD_small o x
        generalize nodeD o x = nx at *
        have htd : Hid (Tab w2.drew) := ht2
        have B3 : Hid (Below w1.heap.size w1 w2.drew) := below_drewN B2.out 1
        have CNd := CN w2.drew
        go_upto_region 12 with fail
        refine wp_region_held_drew (S := fun _ => True) (by kernel_rfl) trivial (fun hHeld => ?_)
        refine takeY 0 91 (.string o) rfl rfl (by kernel_rfl) (by kernel_rfl) (by kernel_rfl) (fun _ _ _ h => h) (by rfl) (fun w hSw => ?_) hHeld ?_
        · first
          | (go_simp; done)
          | (go_simp; with_reducible rfl)
        simp only [List.setIfInBounds_toArray, List.set_cons_zero, List.set_cons_succ]
        refine takeY 1 92 (.string x) rfl rfl (by kernel_rfl) (by kernel_rfl) (by kernel_rfl) (fun _ _ _ h => h) (by rfl) (fun w hSw => ?_) hHeld ?_
        · first
          | (go_simp; done)
          | (go_simp; with_reducible rfl)
        simp only [List.setIfInBounds_toArray, List.set_cons_zero, List.set_cons_succ]
        refine takeY 3 94 (.bool true) rfl rfl (by kernel_rfl) (by kernel_rfl) (by kernel_rfl) (fun _ _ _ h => h) (by rfl) (fun w hSw => ?_) hHeld ?_
        · first
          | (go_simp; done)
          | (go_simp; with_reducible rfl)
        simp only [List.setIfInBounds_toArray, List.set_cons_zero, List.set_cons_succ]
        refine wpAnyH_ready (rs := [2]) (by kernel_rfl) (by simp) ?_
        refine AllReadyH.cons rfl (fun K hK => ?_) AllReadyH.nil
        go_simp
        (with_reducible refine (CNd.out htd.out).mono ?_)
        rintro _ w3 ⟨rfl, b3⟩
        (try simp only [])
        refine hK.out _ _ trivial (fun hHeld => ?_)
        clear hK K
        (try simp only [Act.put, List.setIfInBounds_toArray, List.set_cons_zero, List.set_cons_succ])
        refine takeY 4 95 (.bool true) rfl rfl (by kernel_rfl) (by kernel_rfl) (by kernel_rfl) (fun _ _ _ h => h) (by rfl) (fun w hSw => ?_) hHeld ?_
        · first
          | (go_simp; done)
          | (go_simp; with_reducible rfl)
        simp only [List.setIfInBounds_toArray, List.set_cons_zero, List.set_cons_succ]
        refine takeN 5 96 rfl rfl (by kernel_rfl) (by kernel_rfl) (by kernel_rfl) (fun _ _ _ h => h) (by rfl) hHeld ?_
        simp only [List.setIfInBounds_toArray, List.set_cons_zero, List.set_cons_succ]
        refine takeN 6 97 rfl rfl (by kernel_rfl) (by kernel_rfl) (by kernel_rfl) (fun _ _ _ h => h) (by rfl) hHeld ?_
        simp only [List.setIfInBounds_toArray, List.set_cons_zero, List.set_cons_succ]
        refine takeN 7 98 rfl rfl (by kernel_rfl) (by kernel_rfl) (by kernel_rfl) (fun _ _ _ h => h) (by rfl) hHeld ?_
        simp only [List.setIfInBounds_toArray, List.set_cons_zero, List.set_cons_succ]
        refine takeN 8 99 rfl rfl (by kernel_rfl) (by kernel_rfl) (by kernel_rfl) (fun _ _ _ h => h) (by rfl) hHeld ?_
        simp only [List.setIfInBounds_toArray, List.set_cons_zero, List.set_cons_succ]
        refine takeN 9 100 rfl rfl (by kernel_rfl) (by kernel_rfl) (by kernel_rfl) (fun _ _ _ h => h) (by rfl) hHeld ?_
        simp only [List.setIfInBounds_toArray, List.set_cons_zero, List.set_cons_succ]
        refine takeN 10 101 rfl rfl (by kernel_rfl) (by kernel_rfl) (by kernel_rfl) (fun _ _ _ h => h) (by rfl) hHeld ?_
        simp only [List.setIfInBounds_toArray, List.set_cons_zero, List.set_cons_succ]
        refine takeN 11 102 rfl rfl (by kernel_rfl) (by kernel_rfl) (by kernel_rfl) (fun _ _ _ h => h) (by rfl) hHeld ?_
        simp only [List.setIfInBounds_toArray, List.set_cons_zero, List.set_cons_succ]
        refine takeN 12 103 rfl rfl (by kernel_rfl) (by kernel_rfl) (by kernel_rfl) (fun _ _ _ h => h) (by rfl) hHeld ?_
        simp only [List.setIfInBounds_toArray, List.set_cons_zero, List.set_cons_succ]
        refine takeN 13 104 rfl rfl (by kernel_rfl) (by kernel_rfl) (by kernel_rfl) (fun _ _ _ h => h) (by rfl) hHeld ?_
        simp only [List.setIfInBounds_toArray, List.set_cons_zero, List.set_cons_succ]
        refine takeN 14 105 rfl rfl (by kernel_rfl) (by kernel_rfl) (by kernel_rfl) (fun _ _ _ h => h) (by rfl) hHeld ?_
        simp only [List.setIfInBounds_toArray, List.set_cons_zero, List.set_cons_succ]
        refine takeN 15 106 rfl rfl (by kernel_rfl) (by kernel_rfl) (by kernel_rfl) (fun _ _ _ h => h) (by rfl) hHeld ?_
        simp only [List.setIfInBounds_toArray, List.set_cons_zero, List.set_cons_succ]
        refine takeN 16 107 rfl rfl (by kernel_rfl) (by kernel_rfl) (by kernel_rfl) (fun _ _ _ h => h) (by rfl) hHeld ?_
        simp only [List.setIfInBounds_toArray, List.set_cons_zero, List.set_cons_succ]
        refine takeN 17 108 rfl rfl (by kernel_rfl) (by kernel_rfl) (by kernel_rfl) (fun _ _ _ h => h) (by rfl) hHeld ?_
        simp only [List.setIfInBounds_toArray, List.set_cons_zero, List.set_cons_succ]
        refine takeN 18 109 rfl rfl (by kernel_rfl) (by kernel_rfl) (by kernel_rfl) (fun _ _ _ h => h) (by rfl) hHeld ?_
        simp only [List.setIfInBounds_toArray, List.set_cons_zero, List.set_cons_succ]
        refine takeN 19 110 rfl rfl (by kernel_rfl) (by kernel_rfl) (by kernel_rfl) (fun _ _ _ h => h) (by rfl) hHeld ?_
        simp only [List.setIfInBounds_toArray, List.set_cons_zero, List.set_cons_succ]
        refine takeY 20 111 (.bool true) rfl rfl (by kernel_rfl) (by kernel_rfl) (by kernel_rfl) (fun _ _ _ h => h) (by rfl) (fun w hSw => ?_) hHeld ?_
        · first
          | (go_simp; done)
          | (go_simp; with_reducible rfl)
        simp only [List.setIfInBounds_toArray, List.set_cons_zero, List.set_cons_succ]
        refine takeY 21 8 (.string nx) rfl rfl (by kernel_rfl) (by kernel_rfl) (by kernel_rfl) (fun _ _ _ h => h) (by rfl) (fun w hSw => ?_) hHeld ?_
        · first
          | (go_simp; done)
          | (go_simp; with_reducible rfl)
        simp only [List.setIfInBounds_toArray, List.set_cons_zero, List.set_cons_succ]
        refine takeY 22 9 (.bool true) rfl rfl (by kernel_rfl) (by kernel_rfl) (by kernel_rfl) (fun _ _ _ h => h) (by rfl) (fun w hSw => ?_) hHeld ?_
        · first
          | (go_simp; done)
          | (go_simp; with_reducible rfl)
        simp only [List.setIfInBounds_toArray, List.set_cons_zero, List.set_cons_succ]
        refine wpAnyH_done (by kernel_rfl) ?_ _
        go_wp2_with fail
        go_ret2
        exact ⟨nx, true, rfl, zs, hfold.out, fun _ _ _ => rfl, B3.out.trans (b3.mono B3.out.size)⟩
      | false =>
        have s1 := sum_small o (by omega)
        have s2 : ¬ (9223372036854775807 < (⟨#[1]⟩ ++ o : ByteArray).size + x.size) := by rw [ByteArray.size_append, show (⟨#[1]⟩ : ByteArray).size = 1 from rfl]; omega
        have s3 := sum_small ra (by omega)
        have s4 : ¬ (9223372036854775807 < (⟨#[1]⟩ ++ ra : ByteArray).size + rb.size) := by rw [ByteArray.size_append, show (⟨#[1]⟩ : ByteArray).size = 1 from rfl]; omega
        have s5 : ¬ (9223372036854775807 < 1 + o.size + x.size) := by omega
        have s6 : ¬ (9223372036854775807 < 1 + ra.size + rb.size) := by omega
        have CC : ∀ W, Hid (Tab W → Calls Tryd.prog 35 #[.string (⟨#[1]⟩ ++ o ++ x), .string (⟨#[1]⟩ ++ ra ++ rb)] W (BEnd W (clashB (nodeT o x) (nodeT ra rb)))) := fun W q => kclash_any (nodeT o x) (nodeT ra rb) (by unfold nodeT; rw [ByteArray.size_append, ByteArray.size_append, show (⟨#[1]⟩ : ByteArray).size = 1 from rfl]; omega) (by unfold nodeT; rw [ByteArray.size_append, ByteArray.size_append, show (⟨#[1]⟩ : ByteArray).size = 1 from rfl]; omega) W q
        have HF : Hid (z + 1 = (sidesN (n - k) (i - k) ++ [true]).length → nodeD o x = nodeD ra rb → (∀ y, T[i]? = some y → s ≠ y) → clashB (nodeT o x) (nodeT ra rb) = true) := fun h1 h2 h3 => by
          have h' : z = (sidesN (n - k) (i - k)).length := by simpa using h1
          cases hcl : clashB (nodeT o x) (nodeT ra rb)
          · have := HB.out h' ((clashB_node2 h2 (hX32.out h') hcl).2) (fun y hy => h3 y (HG.out y hy))
            cases this
          · rfl
        generalize clashB (nodeT o x) (nodeT ra rb) = cb at *
        have zs := nodeD_small o x
        generalize nodeD o x = nx at *
        have HTd : Hid (Txs w2.drew w2.drew.heap.size (some ad) T) := HT2
        have htd : Hid (Tab w2.drew) := ht2
        have B3 : Hid (Below w1.heap.size w1 w2.drew) := below_drewN B2.out 1
        have CNd := CN w2.drew
        go_wp2_with fail
        go_region_held3 (fun _ => True) (exact trivial) (first
          | (go_at_call 24
             (with_reducible refine (CNd.out htd.out).mono ?_)
             rintro _ w3 ⟨rfl, b3⟩
             have HT3 := Lib.hid ((HTd.out.below b3).mono b3.size)
             have ht3 := Lib.hid (htd.out.below b3 htd.out.1)
             have B4 := Lib.hid (B3.out.trans (b3.mono B3.out.size)))
          | (go_at_call 12
             (with_reducible refine ((R1 _).out HT3.out ht3.out).mono ?_)
             rintro _ w4 ⟨rfl, b4⟩
             have HT4 := Lib.hid ((HT3.out.below b4).mono b4.size)
             have ht4 := Lib.hid (ht3.out.below b4 ht3.out.1)
             have B5 := Lib.hid (B4.out.trans (b4.mono B4.out.size)))
          | (go_at_call 12
             (with_reducible refine ((R2 _).out HT4.out ht4.out).mono ?_)
             rintro _ w5 ⟨rfl, b5⟩
             have ht5 := Lib.hid (ht4.out.below b5 ht4.out.1)
             have B6 := Lib.hid (B5.out.trans (b5.mono B5.out.size)))
          | (go_at_call 35
             (with_reducible refine ((CC _).out ht5.out).mono ?_)
             rintro _ w6 ⟨rfl, b6⟩))
        all_goals
          go_wp2_with fail
          go_ret2
          exact ⟨nx, cb, rfl, zs, hfold.out, HF.out, B6.out.trans (b6.mono B6.out.size)⟩
end Go.Proofs.YtejapjmlofekfaaDoor

/- keep.MerkleBinds: the walk. -/
namespace Go.Proofs.YtejapjmlofekfaaDoor
open Go.RowKit

/-- the list, the path that came in, the table -/
structure BdL (w : World) (T P : List ByteArray) (A A' : Option Addr) (W : World) : Prop where
  a : Txs W W.heap.size A T
  b : Txs W W.heap.size A' P
  tab : Tab W
  bel : Below w.heap.size w W
theorem BdL.below {w W W' : World} {T P : List ByteArray} {A A' : Option Addr} (h : BdL w T P A A' W) (k : Below W.heap.size W W') : BdL w T P A A' W' := ⟨(h.a.below k).mono k.size, (h.b.below k).mono k.size, h.tab.below k h.tab.1, h.bel.trans (k.mono h.bel.size)⟩
theorem chk_told {T P : List ByteArray} {i : Nat} {s : ByteArray} (h : checkD (rootL T) (T.length : Int) (i : Int) s P = true) : P.length = (sidesN T.length i).length ∧ foldD (sidesN T.length i) P (leafD s) = rootL T := by
  have := of_decide_eq_true h
  obtain ⟨_, _, _, _, h1, h2⟩ := this
  simp only [Int.toNat_natCast] at h1 h2
  exact ⟨h1, h2⟩
set_option maxRecDepth 100000 in
set_option maxHeartbeats 2000000 in
theorem Binds_few (T P : List ByteArray) (s : ByteArray) (hl : T.length ≤ 130) (h0 : 0 < T.length) (hs : Short T) (hsP : Short P) (hss : s.size ≤ 140737488355328) (hmP : P.length * 16 ≤ 140737488355328) (A0 A' : Option Addr) (c0 n0 c' : Nat) (hcP : P.length ≤ c') (k : Int) (w : World) (ht : Tab w) (hP : Txs w w.heap.size A' P) (CF : Calls Tryd.prog 28 #[.slice A0 n0 c0] w (LsEnd w T)) :
    Calls Tryd.prog 7 #[.slice A0 n0 c0, .int .i64 k, .string s, .slice A' P.length c'] w (BEnd w true) := by
  obtain ⟨si, hsi, sz0, sz1, sz2⟩ := info_parts info_str
  have Hsi := Lib.hid hsi
  have Sz0 := Lib.hid sz0
  have Sz1 := Lib.hid sz1
  have Sz2 := Lib.hid sz2
  clear hsi sz0 sz1 sz2
  obtain ⟨i, hm, hi⟩ := pk_nat k T.length h0
  have hx : T[i]? = some T[i] := List.getElem?_eq_getElem hi
  generalize T[i] = x at *
  have CPk : ∀ W, Hid (Calls Tryd.prog 31 #[.int .i64 k, .int .i64 (T.length : Int)] W fun e w' => e = .returned (.int .i64 (i : Int)) ∧ W = w') := fun W => by
    have := pick_any k T.length h0 (by omega) W
    rw [hm] at this
    exact this
  clear hm
  have C3 : ∀ W A c, Hid (BdL w T P A A' W → T.length ≤ c → Calls Tryd.prog 12 #[.slice A T.length c] W (TEnd W (rootL T))) := fun W A c p q => Root_any _ T (Nat.le_refl _) (by omega) hs A c W p.a q p.tab
  have C4 : ∀ W A, Hid (BdL w T P A A' W → Calls Tryd.prog 20 #[.string (rootL T), .int .i64 (T.length : Int), .int .i64 (i : Int), .string s, .slice A' P.length c'] W (BEnd W (checkD (rootL T) (T.length : Int) (i : Int) s P))) := fun W A p =>
    Check_any (rootL T) s (T.length : Int) (i : Int) P hss hsP (by omega) A' c' W p.b hcP p.tab
  have CT : checkD (rootL T) (T.length : Int) (i : Int) s P = true → s ≠ x → ∀ W A A2 c c2, Hid (BdL w T P A A2 W → T.length ≤ c → P.length ≤ c2 → Calls Tryd.prog 32 #[.slice A T.length c, .int .i64 (i : Int), .string s, .slice A2 P.length c2] W fun e w' => ∃ y, e = .returned (.tuple #[.string y, .bool true]) ∧ Below W.heap.size W w') := fun hk hn W A A2 c c2 p q r => by
    obtain ⟨k1, k2⟩ := chk_told hk
    refine (told_any _ T i s P (Nat.le_refl _) hi hl hss hs hsP (by omega) A A2 c c2 W p.a q p.b r p.tab).mono ?_
    rintro _ w' ⟨y, b, rfl, _, h1, h2, h3⟩
    have := h2 k1 (by rw [h1 k1, k2]) (fun z hz => by rw [hx] at hz; cases hz; exact hn)
    rw [this]
    exact ⟨y, rfl, h3⟩
  have CR := fun W h => Lib.hid (kroots_any W h)
  generalize checkD (rootL T) (T.length : Int) (i : Int) s P = cb at *
  generalize rootL T = rb at *
  have CF1 := Lib.hid CF
  have ht1 := Lib.hid ht
  have HX := Lib.hid hx
  have HP := Lib.hid hP
  clear CF ht hs hx hP hsP
  unfold LsEnd at CF1
  have hi2 : (i : Int) < T.length := by omega
  have hl0 : ¬ ((T.length : Int) = 0) := by omega
  generalize hn : T.length = n at *
  have Hn := Lib.hid hn
  clear hn
  go_enter Tryd.func7, Tryd.ntmps7
  go_wp2_with fail
  (with_reducible refine CF1.out.mono ?_)
  rintro _ w1 ⟨A, c, rfl, hT, hc, b1⟩
  have h1 : BdL w T P A A' w1 := ⟨hT, (HP.out.below b1).mono b1.size, ht1.out.below b1 ht1.out.1, b1⟩
  clear hT b1
  go_wp2_with fail
  (with_reducible refine (CR _ h1.tab).out.mono ?_)
  rintro _ w2 ⟨rfl, b2⟩
  have h2 := h1.below b2
  clear b2 h1
  go_wp2_with fail
  (with_reducible refine (CPk _).out.mono ?_)
  rintro _ _ ⟨rfl, rfl⟩
  go_wp2_with fail
  (with_reducible refine ((C3 _ _ _).out h2 hc).mono ?_)
  rintro _ w3 ⟨rfl, b3⟩
  have h3 := h2.below b3
  clear b3 h2
  go_wp2_with fail
  (with_reducible refine ((C4 _ _).out h3).mono ?_)
  rintro _ w4 ⟨rfl, b4⟩
  have h4 := h3.below b4
  clear b4 h3
  cases cb with
  | false =>
    go_wp2_with fail
    go_ret
    exact ⟨rfl, h4.bel⟩
  | true =>
    obtain ⟨ad, rfl, _, q0⟩ := h4.a i x HX.out
    cases hq : s.toList == x.toList
    case true =>
      go_wp2_with fail
      go_ret
      exact ⟨rfl, h4.bel⟩
    case false =>
      have DT := CT rfl (ne_toList hq)
      have hnP := h4.b.news
      have HNP := Lib.hid hnP
      clear CT hnP
      have k4 := h4.bel.size
      go_wp2_with (at_builtin; refine wpList_app _ rfl _ _ 22 rfl w.heap.size 9 si _ 1 16 Tryd.underlying22 Hsi.out Sz0.out Sz1.out Sz2.out rfl (by decide) _ _ _ rfl (own_nil _ _ _ _) A' P.length c' (P.map sv) rfl (by rw [List.length_map]; omega) HNP.out (sv_one _) (by unfold maxLen; omega) (by omega) k4 ?_)
      intro v5 w5 own5 g5
      obtain ⟨A5, c5, rfl, hc5, hP5, _⟩ := own_texts own5
      have k5 : Below w4.heap.size w4 w5 := (Below.refl _ _).grown g5 (Nat.le_refl _) (by intro k hk; cases hk)
      have h5 : BdL w T P (some ad) A5 w5 := ⟨(h4.below k5).a, hP5, (h4.below k5).tab, (h4.below k5).bel⟩
      clear own5 g5 hP5 k5 h4 HNP
      go_wp2_with fail
      (with_reducible refine ((DT _ _ _ _ _).out h5 hc hc5).mono ?_)
      rintro _ w6 ⟨y, rfl, b6⟩
      go_wp2_with fail
      go_ret
      exact ⟨rfl, (h5.below b6).bel⟩
set_option maxRecDepth 100000 in
theorem Binds_nil (s : ByteArray) (A0 A' : Option Addr) (c0 n0 c' m' : Nat) (k : Int) (w : World) (ht : Tab w) (CF : Calls Tryd.prog 28 #[.slice A0 n0 c0] w (LsEnd w [])) :
    Calls Tryd.prog 7 #[.slice A0 n0 c0, .int .i64 k, .string s, .slice A' m' c'] w (BEnd w true) := by
  have CR := fun W h => Lib.hid (kroots_any W h)
  have CF1 := Lib.hid CF
  have ht1 := Lib.hid ht
  clear CF ht
  unfold LsEnd at CF1
  rw [List.length_nil] at CF1
  go_enter Tryd.func7, Tryd.ntmps7
  go_wp2_with fail
  (with_reducible refine CF1.out.mono ?_)
  rintro _ w1 ⟨A, c, rfl, _, _, b1⟩
  have ht2 := Lib.hid (ht1.out.below b1 ht1.out.1)
  go_wp2_with fail
  (with_reducible refine (CR _ ht2.out).out.mono ?_)
  rintro _ w2 ⟨rfl, b2⟩
  go_wp2_with fail
  go_ret
  exact ⟨rfl, b1.trans (b2.mono b1.size)⟩
theorem MerkleBinds_any (T : List ByteArray) (k : Int) (s : ByteArray) (P : List ByteArray) (A A' : Option Addr) (c c' : Nat) (w : World) (hT : Txs w w.heap.size A T) (hz : ∀ x ∈ T, x.size ≤ 140737488355328) (hl : T.length ≤ 140737488355328) (hc : T.length ≤ c)
    (hss : s.size ≤ 140737488355328) (hP : Txs w w.heap.size A' P) (hzP : ∀ x ∈ P, x.size ≤ 140737488355328) (hmP : P.length * 16 ≤ 140737488355328) (hcP : P.length ≤ c') (ht : Tab w) :
    Calls Tryd.prog 7 #[.slice A T.length c, .int .i64 k, .string s, .slice A' P.length c'] w (BEnd w true) := by
  have CF := few_any T A c w hT hc hl
  by_cases h0 : 0 < (T.take 130).length
  · exact Binds_few (T.take 130) P s (by rw [List.length_take]; omega) h0 (Short.take hz 130) hzP hss hmP A A' c T.length c' hcP k w ht hP CF
  · have e : T.take 130 = [] := List.eq_nil_of_length_eq_zero (by omega)
    rw [e] at CF
    exact Binds_nil s A A' c T.length c' P.length k w ht CF
end Go.Proofs.YtejapjmlofekfaaDoor
