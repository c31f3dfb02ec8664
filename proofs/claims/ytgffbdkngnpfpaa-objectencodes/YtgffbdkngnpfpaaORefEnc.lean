/- ref.Encode: its contract. -/
import Derived.Test.YtgffbdkngnpfpaaORefGood
import Derived.Test.YtgffbdkngnpfpaaOEncB
import Derived.Test.YtgffbdkngnpfpaaWRefTx
import Derived.Deep.RegionHeld3
namespace Go.Proofs.Ytgffbdkngnpfpaa
open Go.RowKit

theorem txt_bs (s : ByteArray) : bs (num s.size) ++ s = bs (txt s) := by
  apply bytes_eq
  rw [append_list, bs_list, bs_list]
  rfl
theorem bs_app (a b : List UInt8) : bs a ++ bs b = bs (a ++ b) := by
  apply bytes_eq
  rw [append_list, bs_list, bs_list, bs_list]
theorem refText_bs (s : ByteArray) (hs : s.size ≤ 281474976710656) (w : World) :
    Calls Try.prog 24 #[.string s] w fun e w' => e = .returned (.string (bs (txt s))) ∧ Below w.heap.size w w' := by
  have q := RefText_any s hs w
  rw [txt_bs] at q
  exact q
theorem enc_R {o : Ob} (hg : good o = 0) (hl : 8192 < (encL o).length) : encS o = ⟨#[]⟩ ∧ encE o = 1 := by
  refine ⟨?_, ?_⟩
  · unfold encS
    rw [if_neg (by simp [hg]), if_pos hl]
  · unfold encE
    rw [if_neg (by simp [hg]), if_pos hl]
theorem enc_Q {o : Ob} (hg : good o = 0) (hl : ¬ 8192 < (encL o).length) : encS o = bs (encL o) ∧ encE o = 0 := by
  refine ⟨?_, ?_⟩
  · unfold encS
    rw [if_neg (by simp [hg]), if_neg hl]
  · unfold encE
    rw [if_neg (by simp [hg]), if_neg hl]
set_option maxRecDepth 100000 in
theorem add_run (a b : ByteArray) (h : a.size + b.size ≤ 9223372036854775807) (W : World) : (binOp .add 9 (.string a) (.string b)).run Try.prog W = .ok (.string (a ++ b)) W := by
  go_simp
theorem Bx.drew {w W : World} {o : Ob} {p : At} (h : Bx w o p W) : Bx w o p W.drew := h.below (Below.refl _ _).drew

set_option maxRecDepth 100000 in
set_option maxHeartbeats 4000000 in
theorem RefEncode_any (o : Ob) (p : At) (w : World) (hO : ObIn w w.heap.size o p) (hnm : ∀ e ∈ o.ents, e.name.size ≤ 281474976710656) :
    Calls Try.prog 9 #[.agg (obArr o p)] w fun e w' => e = .returned (.tuple #[.string (encS o), .int .i64 (encE o)]) ∧ Below w.heap.size w w' := by
  have h1 := Lib.hid (Bx.start hO)
  have CG := fun W h => Lib.hid (GoodObject_any o p W h hnm)
  obtain ⟨S, HS⟩ : ∃ S, Hid (S = encS o) := ⟨_, rfl⟩
  obtain ⟨E, HE⟩ : ∃ E, Hid (E = encE o) := ⟨_, rfl⟩
  rw [← HS.out, ← HE.out]
  clear hO
  generalize hA : obArr o p = arr at *
  have HA := Lib.hid hA
  clear hA
  go_enter Try.func9, Try.ntmps9
  go_upto_region 1 with fail
  refine wp_forget (Bx w o p) h1.out ?_
  clear h1
  intro W hW
  have hA := HA.out
  clear HA
  subst hA
  go_wp2_with (refine wpList_load_row rfl 25 _ rfl w.heap.size rfl 25 _ (0, 0) _ hW.1 Try.underlying25 rfl (obInfo o p) ?_)
  have q := (CG W (hW.2.1.mono hW.2.2.size)).out
  (with_reducible refine q.mono ?_)
  clear q CG
  rintro _ W2 ⟨rfl, b2⟩
  have hW2 := hW.below b2
  clear hW b2
  cases hG : good o != 0
  case true =>
    have hG2 : good o ≠ 0 := by simpa using hG
    have HS2 : Hid (S = ⟨#[]⟩ ∧ E = good o) := by
      show _ ∧ _
      rw [HS.out, HE.out]
      unfold encS encE
      rw [if_pos hG2, if_pos hG2]
      exact ⟨rfl, rfl⟩
    clear HS HE hG2
    generalize good o = G at *
    go_wp2_with fail
    go_ret2
    exact ⟨by rw [HS2.out.1, HS2.out.2]; rfl, hW2.2.2⟩
  have hG0 : good o = 0 := by simpa using hG
  rw [hG0]
  have hF := good_facts hG0
  have HF := Lib.hid hF
  have HEnd : Hid (∀ R : ByteArray, R = bs (encL o) → (8192 < R.size → S = ⟨#[]⟩ ∧ E = 1) ∧ (¬ 8192 < R.size → S = R ∧ E = 0)) := fun R hR => by
    rw [HS.out, HE.out, hR, bs_size]
    exact ⟨fun h => enc_R hG0 h, fun h => enc_Q hG0 h⟩
  clear HS HE hG hG0
  have hk : Hid (o.kind = (o.kind.toNat : Int)) := by show _ = _; have := hF.kind; omega
  have hkn : o.kind.toNat < 128 := by have := hF.kind; omega
  have CN := RefNumber_yes o.kind.toNat (by omega)
  rw [← hk.out] at CN
  have HCN := Lib.hid CN
  have n0 : (bs (num o.kind.toNat)).size ≤ 3 := by rw [bs_size]; exact num_len3 _ (by omega)
  have hkind := hF.kind
  obtain ⟨_, _, hd, hwh, hno, hen, hpa, _, _, _, _, ht0, ht1⟩ := hF
  clear CN
  obtain ⟨c0, c1, c2, c3, c4, c5, c6, c7, c8⟩ := hW2.c
  have HK : Hid (encL o = num o.kind.toNat ++ fieldsL o) := rfl
  obtain ⟨S0, hS0⟩ : ∃ S0, S0 = bs (num o.kind.toNat) := ⟨_, rfl⟩
  rw [← hS0] at HCN n0
  have HS0 := Lib.hid hS0
  clear hS0
  go_wp2_with fail
  have q := HCN.out W2
  (with_reducible refine q.mono ?_)
  clear q HCN
  rintro _ W3 ⟨rfl, b3⟩
  have hW3 := hW2.below b3
  clear hW2 b3 c0 c1 c2 c3 c4 c5 c6 c7 c8
  obtain ⟨c0, c1, c2, c3, c4, c5, c6, c7, c8⟩ := hW3.c
  rcases hkind with hk1 | hk1 | hk1 | hk1
  · rw [hk1] at c0
    have hR : Hid (S0 ++ bs (txt o.data) = bs (encL o)) := by
      show _ = _
      rw [HS0.out, bs_app, HK.out]
      unfold fieldsL
      rw [if_pos hk1]
    have n1 := txt_len o.data hd
    have n2 : (bs (txt o.data)).size ≤ 4099 := by rw [bs_size]; exact n1
    have CT := Lib.hid (refText_bs o.data (by omega))
    generalize bs (txt o.data) = T1 at *
    clear n1 HK HS0 hk
    go_wp2_with fail
    have q := CT.out W3
    (with_reducible refine q.mono ?_)
    clear q CT
    rintro _ W4 ⟨rfl, b4⟩
    have hB := (hW3.below b4).2.2
    clear hW3 b4 c0 c1 c2 c3 c4 c5 c6 c7 c8
    go_upto_region 27 with fail
    generalize S0 ++ T1 = R at *
    obtain ⟨e1, e2⟩ := HEnd.out R hR.out
    clear HEnd hR
    by_cases hl : 8192 < R.size
    · have HX := Lib.hid (e1 hl)
      have hl2 : (8192 : Int) < R.size := by omega
      clear e1 e2
      go_wp2_with fail
      go_ret2
      exact ⟨by rw [HX.out.1, HX.out.2]; rfl, hB⟩
    · have HX := Lib.hid (e2 hl)
      have hl2 : ¬ (8192 : Int) < R.size := by omega
      clear e1 e2
      go_wp2_with fail
      go_ret2
      exact ⟨by rw [HX.out.1, HX.out.2]; rfl, hB⟩
  · rw [hk1] at c0
    have CL := Lib.hid (RefNumber_yes o.ents.length (by omega))
    have hall := Lib.hid (entsB_all _ _ HF.out.each)
    have nl : (bs (num o.ents.length)).size ≤ 3 := by rw [bs_size]; exact num_len3 _ (by omega)
    have HP : Hid (bs (num o.kind.toNat ++ (num o.ents.length ++ entsL o.ents)) = bs (encL o)) := by
      show _ = _
      rw [HK.out]
      unfold fieldsL
      rw [if_neg (by omega), if_pos hk1]
    have HSt : Hid (S0 ++ bs (num o.ents.length) = bs (num o.kind.toNat ++ (num o.ents.length ++ entsL (o.ents.take 0)))) := by
      show _ = _
      rw [HS0.out, bs_app, List.take_zero, entsL, List.append_nil]
    have HSz : Hid (∀ k, k ≤ o.ents.length → (bs (num o.kind.toNat ++ (num o.ents.length ++ entsL (o.ents.take k)))).size ≤ 20000) := fun k hkk => by
      rw [bs_size]
      simp only [List.length_append]
      have a1 := num_len3 o.kind.toNat (by omega)
      have a2 := num_len3 o.ents.length (by omega)
      have a3 := entsL_len (o.ents.take k) (fun e he => hall.out e (List.mem_of_mem_take he))
      rw [List.length_take] at a3
      omega
    generalize bs (num o.ents.length) = N at *
    clear HK HS0 hk
    go_wp2_with fail
    have q := CL.out W3
    (with_reducible refine q.mono ?_)
    clear q CL
    rintro _ W4 ⟨rfl, b4⟩
    have hW4 := hW3.below b4
    clear hW3 b4 c0 c1 c2 c3 c4 c5 c6 c7 c8
    obtain ⟨c0, c1, c2, c3, c4, c5, c6, c7, c8⟩ := hW4.c
    go_wp2_with fail
    clear c0 c1 c2 c3 c4 c5 c6 c7 c8
    go_loopw [5, 51] (fun v i wr => ∃ k : Nat, k ≤ o.ents.length ∧ i = .int .i64 (k : Int) ∧ v = .string (bs (num o.kind.toNat ++ (num o.ents.length ++ entsL (o.ents.take k)))) ∧ Bx w o p wr) (fun _ i _ => o.ents.length - (intOf i).toNat)
    case atStart => exact ⟨0, Nat.zero_le _, rfl, by rw [HSt.out], hW4⟩
    case round =>
      clear hW4 HSt
      obtain ⟨k, hkl, rfl, rfl, hX⟩ := hrel
      have hsz := HSz.out k hkl
      by_cases hlt : k < o.ents.length
      · obtain ⟨ad, hea, hbl, g0, g1, g2⟩ := hX.2.1.ents k o.ents[k] (List.getElem?_eq_getElem hlt)
        have hi : (k : Int) < o.ents.length := by omega
        obtain ⟨m1, m2⟩ := hall.out o.ents[k] (List.getElem_mem hlt)
        have hst : Hid (bs (num o.kind.toNat ++ (num o.ents.length ++ entsL (o.ents.take (k + 1)))) = bs (num o.kind.toNat ++ (num o.ents.length ++ entsL (o.ents.take k))) ++ (bs (txt o.ents[k].name) ++ bs (num (dirN o.ents[k].dir)) ++ o.ents[k].id)) := by
          show _ = _
          rw [List.take_succ_eq_append_getElem hlt, entsL_app]
          unfold entL
          apply bytes_eq
          simp only [append_list, bs_list, List.append_assoc]
        rw [hea]
        clear hea hbl
        generalize o.ents[k] = x at *
        obtain ⟨xn, xd, xi⟩ := x
        simp only at g0 g1 g2 m1 m2 hst
        generalize bs (num o.kind.toNat ++ (num o.ents.length ++ entsL (o.ents.take k))) = V at *
        have hY := Arr.new wr 51 #[.string xn, .bool xd, .string xi]
        have hX1 := hX.below ((Below.refl _ _).alloc (Nat.le_refl _) (.cells #[.string xn, .bool xd, .string xi] 51))
        have CT := Lib.hid (refText_bs xn (by omega))
        have n1 : (bs (txt xn)).size ≤ 4099 := by rw [bs_size]; exact txt_len xn (by omega)
        generalize bs (txt xn) = T1 at *
        have m3 : xi.size ≤ 32 := by omega
        clear hX m2
        cases xd
        · have CD : Hid (∀ W, Calls Try.prog 23 #[.int .i64 0] W fun e w' => e = .returned (.string (bs (num (dirN false)))) ∧ Below W.heap.size W w') := fun W => RefNumber_yes 0 (by decide) W
          have n2 : (bs (num (dirN false))).size ≤ 3 := by rw [bs_size]; exact num_len3 _ (by decide)
          generalize bs (num (dirN false)) = Nd at *
          have e0 := hY.cell 0
          have e1 := hY.cell 1
          have e2 := hY.cell 2
          simp only [List.getElem?_toArray, List.getElem?_cons_zero, List.getElem?_cons_succ] at e0 e1 e2
          go_wp2_with fail
          clear g0 g1 g2
          have k1 : ¬ (9223372036854775807 < T1.size + Nd.size) := by omega
          have k2 : ¬ (9223372036854775807 < T1.size + Nd.size + xi.size) := by omega
          have k3 : ¬ (9223372036854775807 < V.size + (T1.size + Nd.size + xi.size)) := by omega
          go_region_held (fun w' => w'.cell? ⟨wr.heap.size, 0, none⟩ = some (.string xn) ∧ w'.cell? ⟨wr.heap.size, 2, none⟩ = some (.string xi))
            (first | exact ⟨e0, e2⟩ | exact hV1 | exact hV2)
            (first
              | (go_at_call 24
                 (with_reducible refine (CT.out _).mono ?_)
                 rintro _ W5 ⟨rfl, b5⟩
                 have hY5 := hY.drew.below b5 hY.lt
                 have hX5 := hX1.drew.below b5
                 have hV1 := (⟨hY5.cell 0, hY5.cell 2⟩ : W5.cell? ⟨wr.heap.size, 0, none⟩ = some (.string xn) ∧ W5.cell? ⟨wr.heap.size, 2, none⟩ = some (.string xi)))
              | (go_at_call 23
                 (with_reducible refine (CD.out _).mono ?_)
                 rintro _ W6 ⟨rfl, b6⟩
                 have hY6 := hY5.below b6 hY5.lt
                 have hX6 := hX5.below b6
                 have hV2 := (⟨hY6.cell 0, hY6.cell 2⟩ : W6.cell? ⟨wr.heap.size, 0, none⟩ = some (.string xn) ∧ W6.cell? ⟨wr.heap.size, 2, none⟩ = some (.string xi))))
          all_goals
            clear k1 k2 k3 e0 e1 e2 hY hX1 hY5 hX5 hY6 hV1 hV2 b5 b6 CT CD
            go_wp2_with fail
            refine ⟨⟨k + 1, hlt, by go_num, ?_, hX6⟩, by simp [intOf]; omega⟩
            rw [hst.out]
        · have CD : Hid (∀ W, Calls Try.prog 23 #[.int .i64 1] W fun e w' => e = .returned (.string (bs (num (dirN true)))) ∧ Below W.heap.size W w') := fun W => RefNumber_yes 1 (by decide) W
          have n2 : (bs (num (dirN true))).size ≤ 3 := by rw [bs_size]; exact num_len3 _ (by decide)
          generalize bs (num (dirN true)) = Nd at *
          have e0 := hY.cell 0
          have e1 := hY.cell 1
          have e2 := hY.cell 2
          simp only [List.getElem?_toArray, List.getElem?_cons_zero, List.getElem?_cons_succ] at e0 e1 e2
          go_wp2_with fail
          clear g0 g1 g2
          have k1 : ¬ (9223372036854775807 < T1.size + Nd.size) := by omega
          have k2 : ¬ (9223372036854775807 < T1.size + Nd.size + xi.size) := by omega
          have k3 : ¬ (9223372036854775807 < V.size + (T1.size + Nd.size + xi.size)) := by omega
          go_region_held (fun w' => w'.cell? ⟨wr.heap.size, 0, none⟩ = some (.string xn) ∧ w'.cell? ⟨wr.heap.size, 2, none⟩ = some (.string xi))
            (first | exact ⟨e0, e2⟩ | exact hV1 | exact hV2)
            (first
              | (go_at_call 24
                 (with_reducible refine (CT.out _).mono ?_)
                 rintro _ W5 ⟨rfl, b5⟩
                 have hY5 := hY.drew.below b5 hY.lt
                 have hX5 := hX1.drew.below b5
                 have hV1 := (⟨hY5.cell 0, hY5.cell 2⟩ : W5.cell? ⟨wr.heap.size, 0, none⟩ = some (.string xn) ∧ W5.cell? ⟨wr.heap.size, 2, none⟩ = some (.string xi)))
              | (go_at_call 23
                 (with_reducible refine (CD.out _).mono ?_)
                 rintro _ W6 ⟨rfl, b6⟩
                 have hY6 := hY5.below b6 hY5.lt
                 have hX6 := hX5.below b6
                 have hV2 := (⟨hY6.cell 0, hY6.cell 2⟩ : W6.cell? ⟨wr.heap.size, 0, none⟩ = some (.string xn) ∧ W6.cell? ⟨wr.heap.size, 2, none⟩ = some (.string xi))))
          all_goals
            clear k1 k2 k3 e0 e1 e2 hY hX1 hY5 hX5 hY6 hV1 hV2 b5 b6 CT CD
            go_wp2_with fail
            refine ⟨⟨k + 1, hlt, by go_num, ?_, hX6⟩, by simp [intOf]; omega⟩
            rw [hst.out]
      obtain rfl : k = o.ents.length := by omega
      rw [List.take_length] at hsz ⊢
      have hi : ¬ (o.ents.length : Int) < o.ents.length := by omega
      have hB := hX.2.2
      clear hX
      have hR := HP
      generalize bs (num o.kind.toNat ++ (num o.ents.length ++ entsL o.ents)) = R at *
      go_upto_region 27 with fail
      obtain ⟨e1, e2⟩ := HEnd.out R hR.out
      clear HEnd hR
      by_cases hl : 8192 < R.size
      · have HX := Lib.hid (e1 hl)
        have hl2 : (8192 : Int) < R.size := by omega
        clear e1 e2
        go_wp2_with fail
        go_ret2
        exact ⟨by rw [HX.out.1, HX.out.2]; rfl, hB⟩
      · have HX := Lib.hid (e2 hl)
        have hl2 : ¬ (8192 : Int) < R.size := by omega
        clear e1 e2
        go_wp2_with fail
        go_ret2
        exact ⟨by rw [HX.out.1, HX.out.2]; rfl, hB⟩
  · rw [hk1] at c0
    have CL := Lib.hid (RefNumber_yes o.pars.length (by omega))
    have hall := Lib.hid (parsE_all _ _ HF.out.ids)
    have hts := HF.out.tree hk1
    have htr : o.tree.size ≤ 32 := by omega
    have nl : (bs (num o.pars.length)).size ≤ 3 := by rw [bs_size]; exact num_len3 _ (by omega)
    have HP : Hid (bs (num o.kind.toNat ++ (o.tree.data.toList ++ (num o.pars.length ++ parsL o.pars))) ++ (bs (txt o.who) ++ bs (num o.time.toNat) ++ bs (txt o.note)) = bs (encL o)) := by
      show _ = _
      rw [HK.out]
      unfold fieldsL
      rw [if_neg (by omega), if_neg (by omega), if_pos hk1]
      apply bytes_eq
      simp only [append_list, bs_list, List.append_assoc]
    have HSt : Hid (S0 ++ (o.tree ++ bs (num o.pars.length)) = bs (num o.kind.toNat ++ (o.tree.data.toList ++ (num o.pars.length ++ parsL (o.pars.take 0))))) := by
      show _ = _
      rw [HS0.out, List.take_zero, parsL, List.append_nil]
      apply bytes_eq
      simp only [append_list, bs_list]
    have HSz : Hid (∀ k, k ≤ o.pars.length → (bs (num o.kind.toNat ++ (o.tree.data.toList ++ (num o.pars.length ++ parsL (o.pars.take k))))).size ≤ 20000) := fun k hkk => by
      rw [bs_size]
      simp only [List.length_append]
      have a1 := num_len3 o.kind.toNat (by omega)
      have a2 := num_len3 o.pars.length (by omega)
      have a3 := parsL_len (o.pars.take k) (fun e he => hall.out e (List.mem_of_mem_take he))
      have a4 : o.tree.data.toList.length = o.tree.size := rfl
      rw [List.length_take] at a3
      omega
    generalize bs (num o.pars.length) = N at *
    clear HK HS0 hts
    go_wp2_with fail
    have k1 : ¬ (9223372036854775807 < o.tree.size + N.size) := by omega
    have k2 : ¬ (9223372036854775807 < S0.size + (o.tree.size + N.size)) := by omega
    go_region_held (fun w' => w'.cell? ⟨w.heap.size, 3, none⟩ = some (.string o.tree) ∧ w'.cell? ⟨w.heap.size, 4, none⟩ = some (.slice p.pa o.pars.length p.pc))
      (first | exact ⟨c3, c4⟩ | exact hV1)
      (first
        | (go_at_call 23
           (with_reducible refine (CL.out _).mono ?_)
           rintro _ W4 ⟨rfl, b4⟩
           have hW4 := hW3.drew.below b4
           have hV1 := (⟨hW4.1.cell 3, hW4.1.cell 4⟩ : W4.cell? ⟨w.heap.size, 3, none⟩ = some (.string o.tree) ∧ W4.cell? ⟨w.heap.size, 4, none⟩ = some (.slice p.pa o.pars.length p.pc)))
        | fail)
    all_goals
      clear k1 k2 hV1 CL hW3 b4 c0 c1 c2 c3 c4 c5 c6 c7 c8
      obtain ⟨c0, c1, c2, c3, c4, c5, c6, c7, c8⟩ := hW4.c
      go_wp2_with fail
      clear c0 c1 c2 c3 c4 c5 c6 c7 c8
      go_loopw [5, 83] (fun v i wr => ∃ k : Nat, k ≤ o.pars.length ∧ i = .int .i64 (k : Int) ∧ v = .string (bs (num o.kind.toNat ++ (o.tree.data.toList ++ (num o.pars.length ++ parsL (o.pars.take k))))) ∧ Bx w o p wr) (fun _ i _ => o.pars.length - (intOf i).toNat)
      case atStart => exact ⟨0, Nat.zero_le _, rfl, by rw [HSt.out], hW4⟩
      case round =>
        clear hW4 HSt
        obtain ⟨k, hkl, rfl, rfl, hX⟩ := hrel
        have hsz := HSz.out k hkl
        by_cases hlt : k < o.pars.length
        · obtain ⟨ad, hea, hbl, g0⟩ := hX.2.1.pars k o.pars[k] (List.getElem?_eq_getElem hlt)
          have hi : (k : Int) < o.pars.length := by omega
          have m1 := hall.out o.pars[k] (List.getElem_mem hlt)
          have m2 : o.pars[k].size ≤ 32 := by omega
          have hst : Hid (bs (num o.kind.toNat ++ (o.tree.data.toList ++ (num o.pars.length ++ parsL (o.pars.take (k + 1))))) = bs (num o.kind.toNat ++ (o.tree.data.toList ++ (num o.pars.length ++ parsL (o.pars.take k)))) ++ o.pars[k]) := by
            show _ = _
            rw [List.take_succ_eq_append_getElem hlt, parsL_app]
            apply bytes_eq
            simp only [append_list, bs_list, List.append_assoc]
          rw [hea]
          clear hea hbl m1
          generalize o.pars[k] = x at *
          generalize bs (num o.kind.toNat ++ (o.tree.data.toList ++ (num o.pars.length ++ parsL (o.pars.take k)))) = V at *
          go_wp2_with fail
          refine ⟨⟨k + 1, hlt, by go_num, ?_, hX⟩, by simp [intOf]; omega⟩
          rw [hst.out]
        obtain rfl : k = o.pars.length := by omega
        rw [List.take_length] at hsz ⊢
        have hi : ¬ (o.pars.length : Int) < o.pars.length := by omega
        have hR := HP
        generalize bs (num o.kind.toNat ++ (o.tree.data.toList ++ (num o.pars.length ++ parsL o.pars))) = V at *
        have n1 : (bs (txt o.who)).size ≤ 4099 := by rw [bs_size]; exact txt_len o.who hwh
        have n2 : (bs (txt o.note)).size ≤ 4099 := by rw [bs_size]; exact txt_len o.note hno
        have n3 : (bs (num o.time.toNat)).size ≤ 9 := by rw [bs_size]; exact num_len9 _ (by omega)
        have CW := Lib.hid (refText_bs o.who (by omega))
        have CO := Lib.hid (refText_bs o.note (by omega))
        have ctm := RefNumber_yes o.time.toNat (by omega)
        rw [show ((o.time.toNat : Nat) : Int) = o.time from by omega] at ctm
        have CM := Lib.hid ctm
        clear ctm
        generalize bs (txt o.who) = T1 at *
        generalize bs (txt o.note) = T2 at *
        generalize bs (num o.time.toNat) = T3 at *
        obtain ⟨c0, c1, c2, c3, c4, c5, c6, c7, c8⟩ := hX.c
        go_wp2_with fail
        have k1 : ¬ (9223372036854775807 < T1.size + T3.size) := by omega
        have k2 : ¬ (9223372036854775807 < T1.size + T3.size + T2.size) := by omega
        have k3 : ¬ (9223372036854775807 < V.size + (T1.size + T3.size + T2.size)) := by omega
        go_region_held (fun w' => w'.cell? ⟨w.heap.size, 5, none⟩ = some (.string o.who) ∧ w'.cell? ⟨w.heap.size, 7, none⟩ = some (.int .i64 o.time) ∧ w'.cell? ⟨w.heap.size, 6, none⟩ = some (.string o.note))
          (first | exact ⟨c5, c7, c6⟩ | exact hV1 | exact hV2 | exact hV3)
          (first
            | (go_at_call 24
               (with_reducible refine (CW.out _).mono ?_)
               rintro _ W5 ⟨rfl, b5⟩
               have hX5 := hX.drew.below b5
               have hV1 := (⟨hX5.1.cell 5, hX5.1.cell 7, hX5.1.cell 6⟩ : W5.cell? ⟨w.heap.size, 5, none⟩ = some (.string o.who) ∧ W5.cell? ⟨w.heap.size, 7, none⟩ = some (.int .i64 o.time) ∧ W5.cell? ⟨w.heap.size, 6, none⟩ = some (.string o.note)))
            | (go_at_call 23
               (with_reducible refine (CM.out _).mono ?_)
               rintro _ W6 ⟨rfl, b6⟩
               have hX6 := hX5.below b6
               have hV2 := (⟨hX6.1.cell 5, hX6.1.cell 7, hX6.1.cell 6⟩ : W6.cell? ⟨w.heap.size, 5, none⟩ = some (.string o.who) ∧ W6.cell? ⟨w.heap.size, 7, none⟩ = some (.int .i64 o.time) ∧ W6.cell? ⟨w.heap.size, 6, none⟩ = some (.string o.note)))
            | (go_at_call 24
               (with_reducible refine (CO.out _).mono ?_)
               rintro _ W7 ⟨rfl, b7⟩
               have hX7 := hX6.below b7
               have hV3 := (⟨hX7.1.cell 5, hX7.1.cell 7, hX7.1.cell 6⟩ : W7.cell? ⟨w.heap.size, 5, none⟩ = some (.string o.who) ∧ W7.cell? ⟨w.heap.size, 7, none⟩ = some (.int .i64 o.time) ∧ W7.cell? ⟨w.heap.size, 6, none⟩ = some (.string o.note))))
        all_goals
          have hB := hX7.2.2
          clear k1 k2 k3 c0 c1 c2 c3 c4 c5 c6 c7 c8 hX hX5 hX6 hX7 hV1 hV2 hV3 b5 b6 b7
          go_upto_region 27 with fail
          generalize V ++ (T1 ++ T3 ++ T2) = R at *
          obtain ⟨e1, e2⟩ := HEnd.out R hR.out
          clear HEnd hR
          by_cases hl : 8192 < R.size
          · have HX := Lib.hid (e1 hl)
            have hl2 : (8192 : Int) < R.size := by omega
            clear e1 e2
            go_wp2_with fail
            go_ret2
            exact ⟨by rw [HX.out.1, HX.out.2]; rfl, hB⟩
          · have HX := Lib.hid (e2 hl)
            have hl2 : ¬ (8192 : Int) < R.size := by omega
            clear e1 e2
            go_wp2_with fail
            go_ret2
            exact ⟨by rw [HX.out.1, HX.out.2]; rfl, hB⟩
  · rw [hk1] at c0
    have n1 := txt_len o.who hwh
    have n2 := txt_len o.note hno
    have hts := HF.out.target hk1
    have hR : Hid (S0 ++ (o.target ++ bs (txt o.who) ++ bs (txt o.note)) = bs (encL o)) := by
      show _ = _
      rw [HS0.out, HK.out]
      unfold fieldsL
      rw [if_neg (by omega), if_neg (by omega), if_neg (by omega)]
      apply bytes_eq
      simp only [append_list, bs_list, List.append_assoc]
    have n3 : (bs (txt o.who)).size ≤ 4099 := by rw [bs_size]; exact n1
    have n4 : (bs (txt o.note)).size ≤ 4099 := by rw [bs_size]; exact n2
    have CW := Lib.hid (refText_bs o.who (by omega))
    have CO := Lib.hid (refText_bs o.note (by omega))
    generalize bs (txt o.who) = T1 at *
    generalize bs (txt o.note) = T2 at *
    have hts2 : o.target.size ≤ 32 := by omega
    clear n1 n2 HK HS0 hk hts
    go_wp2_with fail
    have k1 : ¬ (9223372036854775807 < o.target.size + T1.size) := by omega
    have k2 : ¬ (9223372036854775807 < o.target.size + T1.size + T2.size) := by omega
    have k3 : ¬ (9223372036854775807 < S0.size + (o.target.size + T1.size + T2.size)) := by omega
    go_region_held (fun w' => w'.cell? ⟨w.heap.size, 8, none⟩ = some (.string o.target) ∧ w'.cell? ⟨w.heap.size, 5, none⟩ = some (.string o.who) ∧ w'.cell? ⟨w.heap.size, 6, none⟩ = some (.string o.note))
      (first | exact ⟨c8, c5, c6⟩ | exact hV1 | exact hV2)
      (first
        | (go_at_call 24
           (with_reducible refine (CW.out _).mono ?_)
           rintro _ W4 ⟨rfl, b4⟩
           have hW4 := hW3.drew.below b4
           have hV1 := (⟨hW4.1.cell 8, hW4.1.cell 5, hW4.1.cell 6⟩ : W4.cell? ⟨w.heap.size, 8, none⟩ = some (.string o.target) ∧ W4.cell? ⟨w.heap.size, 5, none⟩ = some (.string o.who) ∧ W4.cell? ⟨w.heap.size, 6, none⟩ = some (.string o.note)))
        | (go_at_call 24
           (with_reducible refine (CO.out _).mono ?_)
           rintro _ W5 ⟨rfl, b5⟩
           have hW5 := hW4.below b5
           have hV2 := (⟨hW5.1.cell 8, hW5.1.cell 5, hW5.1.cell 6⟩ : W5.cell? ⟨w.heap.size, 8, none⟩ = some (.string o.target) ∧ W5.cell? ⟨w.heap.size, 5, none⟩ = some (.string o.who) ∧ W5.cell? ⟨w.heap.size, 6, none⟩ = some (.string o.note))))
    all_goals
      have hB := hW5.2.2
      clear k1 k2 k3 c0 c1 c2 c3 c4 c5 c6 c7 c8 hW3 hW4 hW5 hV1 hV2 b4 b5
      go_upto_region 27 with fail
      generalize S0 ++ (o.target ++ T1 ++ T2) = R at *
      obtain ⟨e1, e2⟩ := HEnd.out R hR.out
      clear HEnd hR
      by_cases hl : 8192 < R.size
      · have HX := Lib.hid (e1 hl)
        have hl2 : (8192 : Int) < R.size := by omega
        clear e1 e2
        go_wp2_with fail
        go_ret2
        exact ⟨by rw [HX.out.1, HX.out.2]; rfl, hB⟩
      · have HX := Lib.hid (e2 hl)
        have hl2 : ¬ (8192 : Int) < R.size := by omega
        clear e1 e2
        go_wp2_with fail
        go_ret2
        exact ⟨by rw [HX.out.1, HX.out.2]; rfl, hB⟩
end Go.Proofs.Ytgffbdkngnpfpaa
