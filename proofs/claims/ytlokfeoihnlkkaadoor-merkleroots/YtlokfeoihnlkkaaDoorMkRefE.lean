/- ref.Root: its contract. -/
import Derived.Test.YtlokfeoihnlkkaaDoorMkTree
import Derived.Deep.RegionLaw
import Derived.Deep.QuietTactic
namespace Go.Proofs.YtlokfeoihnlkkaaDoor
open Go.RowKit

theorem Dec.pow {L : List (List ByteArray)} (h : Dec L) : ∀ c ∈ L, ∃ e, c.length = 2 ^ e := by
  induction L with
  | nil => intro c hc; cases hc
  | cons x L ih =>
    intro c hc
    rcases List.mem_cons.1 hc with rfl | hc
    · exact h.1
    · exact ih h.2.2 c hc
/-- two trees of one size make one -/
theorem join_ok {L : List (List ByteArray)} {d ch : List ByteArray} (hD : Dec (L ++ [d])) (h : d.length = ch.length) :
    (∃ e, (d ++ ch).length = 2 ^ e) ∧ (∀ x ∈ L, (d ++ ch).length ≤ x.length) ∧ rootL (d ++ ch) = nodeD (rootL d) (rootL ch) := by
  obtain ⟨pD, ⟨e, he⟩, pl⟩ := Dec.pop L d hD
  have hp := Nat.two_pow_pos e
  refine ⟨⟨e + 1, by rw [List.length_append, ← h, he, Nat.pow_succ]; omega⟩, fun x hx => ?_, root_join he (by omega) (by omega)⟩
  obtain ⟨e', he'⟩ := pD.pow x hx
  have hlt := pl x hx
  have := pow_two (a := e) (b := e') (by omega)
  rw [List.length_append]
  omega
/-- where the end of the document's Root stands -/
def FdRel (L : List (List ByteArray)) (base : Nat) (v : Value) (w : World) (r i : Value) (wr : World) : Prop :=
  ∃ j : Nat, r = .string (rootL ((L.drop j).flatten)) ∧ i = .int .i64 ((j : Int) - 1) ∧ j + 1 ≤ L.length ∧ TrRow wr base v L ∧ Below w.heap.size w wr
/-- where the document's Root stands: k texts are taken in -/
def RtRel (T : List ByteArray) (w : World) (v i : Value) (wr : World) : Prop :=
  ∃ (k : Nat) (v0 : Value) (L : List (List ByteArray)), v0 = v ∧ i = .int .i64 (k : Int) ∧ k ≤ T.length ∧ Dec L ∧ L.flatten = T.take k ∧ TrRow wr w.heap.size v0 L ∧ Below w.heap.size w wr
/-- where the putting together stands -/
def RuRel (T : List ByteArray) (k gt base : Nat) (w : World) (v : Value) (wr : World) : Prop :=
  ∃ (v0 : Value) (L : List (List ByteArray)) (c : List ByteArray), v0 = v ∧ Dec L ∧ L.flatten ++ c = T.take (k + 1) ∧ (∃ e, c.length = 2 ^ e) ∧ (∀ d ∈ L, c.length ≤ d.length) ∧ TrRow wr base v0 L ∧ v0.ownBlock ≠ some gt ∧ Arr wr gt 34 (trArr c) ∧ gt < wr.heap.size ∧ Below w.heap.size w wr
def slLen : Value → Nat
  | .slice _ n _ => n
  | _ => 0
set_option maxRecDepth 100000 in
set_option maxHeartbeats 4000000 in
theorem refRoot_any (T : List ByteArray) (hl : T.length ≤ 1000) (hs : Short T) (A : Option Addr) (c : Nat) (w : World) (hT : Txs w w.heap.size A T) :
    Calls Tryd.prog 7 #[.slice A T.length c] w (TEnd w (rootL T)) := by
  obtain ⟨si, hsi, sz0, sz1, sz2⟩ := info_parts info_tree
  have Hsi := Lib.hid hsi
  have Sz0 := Lib.hid sz0
  have Sz1 := Lib.hid sz1
  have Sz2 := Lib.hid sz2
  clear hsi sz0 sz1 sz2
  have h1 : Hid (RtRel T w (.slice none 0 0) (.int .i64 0) w) := ⟨0, _, [], rfl, rfl, Nat.zero_le _, trivial, rfl, TrRow.nil _ _, Below.refl _ _⟩
  go_enter Tryd.func7, Tryd.ntmps7
  go_wp2_with fail
  go_loopw [3, 12] (fun v i wr => RtRel T w v i wr) (fun _ i _ => T.length - (intOf i).toNat)
  case atStart => exact h1.out
  case round =>
    clear h1
    obtain ⟨k, v, L, rfl, rfl, hk, hD, hF, hR, hB⟩ := hrel
    by_cases hlt : k < T.length
    · have hk2 : (k : Int) < T.length := by omega
      have hx : T[k]? = some T[k] := List.getElem?_eq_getElem hlt
      obtain ⟨ad, rfl, hbl, h0⟩ := hT _ _ hx
      have g0 := (hB.cell hbl).trans h0
      have hxs := hs _ (List.getElem_mem hlt)
      have HTk : Hid (T.take (k + 1) = T.take k ++ [T[k]]) := List.take_succ_eq_append_getElem hlt
      clear hx h0
      generalize T[k] = x at *
      have CL := Lib.hid (refLeaf_any x (by omega) wr)
      rw [← rootL_one] at CL
      go_wp2_with fail
      (with_reducible refine CL.out.mono ?_)
      rintro _ w2 ⟨rfl, b2⟩
      go_upto_region 6 with fail
      have hB2 := hB.trans (b2.mono hB.size)
      have hR2 := hR.up b2
      have AG : Arr (w2.alloc (.cells (trArr [x]) 34)) w2.heap.size 34 (trArr [x]) := Arr.new _ _ _
      have hE : Hid (RuRel T k w2.heap.size w.heap.size w v (w2.alloc (.cells (trArr [x]) 34))) :=
        ⟨v, L, [x], rfl, hD, by rw [hF]; exact HTk.out.symm, ⟨0, rfl⟩, fun d hd => hD.pos d hd, hR2.up ((Below.refl _ _).alloc (Nat.le_refl _) _), hR2.block, AG, AG.lt, hB2.alloc hB2.size _⟩
      have hgt : w.heap.size ≤ w2.heap.size := hB2.size
      have hT2 : Hid (Txs w w.heap.size (some ad) T) := hT
      clear hR hR2 hB hB2 b2 g0 hbl AG hT
      change Hid (RuRel T k w2.heap.size w.heap.size w v (w2.alloc (.cells #[.int .i64 1, .string (rootL [x])] 34))) at hE
      generalize w2.alloc (.cells #[.int .i64 1, .string (rootL [x])] 34) = w3 at *
      generalize hgq : w2.heap.size = gt at *
      clear hgq
      generalize rootL [x] = lf at *
      go_loopw [3] (fun v' wr' => RuRel T k gt w.heap.size w v' wr') (fun v' _ => slLen v')
      case atStart => exact hE.out
      case round =>
        clear hE
        obtain ⟨v, M, ch, rfl, dD, dF, dP, dL, dR, dN, dA, dlt, dB⟩ := hrel
        rcases List.eq_nil_or_concat M with rfl | ⟨L', d, hM⟩
        · obtain ⟨A1, c1, rfl, hc1, _⟩ := dR.form
          rw [List.length_nil]
          have hn1000 : ch.length ≤ 100000 := by
            have e := congrArg List.length dF
            rw [List.length_append, List.length_take] at e
            omega
          go_wp2_with fail
          go_quiet (fail)
          go_upto_region 10 with fail
          refine wp_forget (fun V => TrRow V w.heap.size (.slice A1 0 c1) [] ∧ Arr V gt 34 (trArr ch) ∧ Below w.heap.size w V) (by exact ⟨dR, dA, below_drewN dB _⟩) ?_
          rintro V ⟨eR, eA, eB⟩
          have t0 : V.cell? ⟨gt, 0, none⟩ = some (.int .i64 (ch.length : Int)) := eA.cell 0
          have t1 : V.cell? ⟨gt, 1, none⟩ = some (.string (rootL ch)) := eA.cell 1
          have NB : Below V.heap.size V (V.alloc (.cells (trArr ch) 34)) := (Below.refl _ _).alloc (Nat.le_refl _) _
          have eR1 := eR.up NB
          have b1 := eB.trans (NB.mono eB.size)
          have hnews : News (V.alloc (.cells (trArr ch) 34)) (some ⟨V.heap.size, 0, none⟩) 1 (trArr ch).toList := ⟨(fun e => by cases e), fun ad2 e j u hu => by cases e; exact new_cells V (trArr ch).toList _ j u hu⟩
          have HN := Lib.hid hnews
          have ER := Lib.hid eR1
          have hones : ∀ u ∈ (trArr ch).toList, u.oneCell' = true := fun u hu => by
            simp [trArr] at hu
            rcases hu with rfl | rfl <;> rfl
          have hb1 := b1.size
          have HP := Lib.hid (Dec.push [] ch dD dP (fun x hx => by cases hx))
          clear hnews eR1 NB dR dA dB
          unfold trArr at HN ER b1 hones hb1
          go_wp2_with (at_builtin; refine wpList_app _ rfl _ _ 32 rfl w.heap.size 34 si _ 2 24 Tryd.underlying32 Hsi.out Sz0.out Sz1.out Sz2.out rfl (by decide) _ 0 (trCells []) rfl (show World.ownsRow _ w.heap.size 34 2 (.slice A1 0 c1) 0 (trCells []) from ER.out) (some ⟨V.heap.size, 0, none⟩) 1 1 [.int .i64 (ch.length : Int), .string (rootL ch)] rfl rfl HN.out hones (by unfold maxLen; omega) (by omega) hb1 ?_)
          intro v5 w5 own5 g5
          have hfin : RtRel T w v5 (.int .i64 ((k : Int) + 1)) w5 := by
            refine ⟨k + 1, v5, [] ++ [ch], rfl, rfl, by omega, HP.out, by rw [List.flatten_append, ← dF]; simp, ?_, b1.grown g5 hb1 (fun q hq => own_row_ge eR q hq)⟩
            unfold TrRow
            rw [List.length_append, trCells_app]
            exact own5
          have HF := Lib.hid hfin
          clear own5 g5 HN ER HP hones hfin eR eA eB
          go_wp2_with fail
          refine ⟨HF.out, by simp [intOf]; omega⟩
        · rw [List.concat_eq_append] at hM
          subst hM
          obtain ⟨pD, pe, pl⟩ := Dec.pop L' d dD
          obtain ⟨A1, c1, rfl, hc1, hA1⟩ := dR.form
          obtain ⟨g, rfl, hg1, hg2⟩ := hA1 (by simp)
          have hgne : g ≠ gt := fun e => dN (by rw [e]; rfl)
          obtain ⟨q0, q1⟩ := dR.cells (k := L'.length) (c := d) (by simp)
          have t0 : wr.cell? ⟨gt, 0, none⟩ = some (.int .i64 (ch.length : Int)) := dA.cell 0
          have t1 : wr.cell? ⟨gt, 1, none⟩ = some (.string (rootL ch)) := dA.cell 1
          have hlen : (L' ++ [d]).length = L'.length + 1 := by simp
          rw [hlen] at hc1 dR ⊢
          have hn1 : (0 : Int) < (L'.length : Int) + 1 := by omega
          have hdc := dL d (by simp)
          have hMl := dD.len
          have hn1000 : L'.length ≤ 1000 := by
            have e := congrArg List.length dF
            rw [List.length_append, List.length_take] at e
            rw [hlen] at hMl
            omega
          have HW : Hid (IntKind.i64.wrap ((L'.length : Nat) : Int) = ((L'.length : Nat) : Int)) := IntWalk.i64_in _ (by omega)
          by_cases heq : d.length = ch.length
          · have hb : ((d.length : Int) == ch.length) = true := by rw [beq_iff_eq]; omega
            have hcut := dR.cut
            generalize L'.length = n' at *
            go_wp2_with fail
            have HW2 := HW.out
            go_quiet (fail)
            go_upto_region 7 with fail
            refine wp_forget (fun V => TrRow V w.heap.size (.slice (some ⟨g, 0, none⟩) n' c1) L' ∧ V.cell? ⟨g, n' * 2, none⟩ = some (.int .i64 (d.length : Int)) ∧ V.cell? ⟨g, n' * 2 + 1, none⟩ = some (.string (rootL d)) ∧ Arr V gt 34 (trArr ch) ∧ gt < V.heap.size ∧ g < V.heap.size ∧ Below w.heap.size w V) (by exact ⟨hcut, q0, q1, dA, dlt, hg2, below_drewN dB _⟩) ?_
            rintro V ⟨eR, e0, e1, eA, eg1, eg2, eB⟩
            clear dR dA dB dlt hcut q0 q1 t0 t1
            have t0 : V.cell? ⟨gt, 0, none⟩ = some (.int .i64 (ch.length : Int)) := eA.cell 0
            have t1 : V.cell? ⟨gt, 1, none⟩ = some (.string (rootL ch)) := eA.cell 1
            go_upto_region 9 with fail
            have NB : Below V.heap.size V (V.alloc (.cells #[.int .i64 (ch.length : Int), .string (rootL d)] 34)) := (Below.refl _ _).alloc (Nat.le_refl _) _
            have NA : Arr (V.alloc (.cells #[.int .i64 (ch.length : Int), .string (rootL d)] 34)) V.heap.size 34 #[.int .i64 (ch.length : Int), .string (rootL d)] := Arr.new _ _ _
            refine wp_forget (fun V2 => TrRow V2 w.heap.size (.slice (some ⟨g, 0, none⟩) n' c1) L' ∧ V2.cell? ⟨V.heap.size, 1, none⟩ = some (.string (rootL d)) ∧ Arr V2 gt 34 (trArr ch) ∧ gt < V2.heap.size ∧ Below w.heap.size w V2) (by exact ⟨eR.up NB, NA.cell 1, eA.below NB eg1, Nat.lt_of_lt_of_le eg1 NB.size, eB.trans (NB.mono eB.size)⟩) ?_
            generalize V.heap.size = q at *
            rintro V2 ⟨eR2, u1, eA2, eg3, eB2⟩
            clear NB NA eR e0 e1 eA eg1 eg2 eB t0 t1
            obtain ⟨j1, j2, j3⟩ := join_ok dD heq
            have HJ := Lib.hid j3
            have CT := Lib.hid (refTwo_any (rootL d) (rootL ch) (by rw [rootL_size]; decide) (by rw [rootL_size]; decide) V2.drew)
            rw [← j3] at CT
            have d0 : V2.drew.cell? ⟨q, 1, none⟩ = some (.string (rootL d)) := u1
            have d1 : V2.drew.cell? ⟨gt, 0, none⟩ = some (.int .i64 (ch.length : Int)) := eA2.cell 0
            have d2 : V2.drew.cell? ⟨gt, 1, none⟩ = some (.string (rootL ch)) := eA2.cell 1
            have eA2d : Arr V2.drew gt 34 (trArr ch) := eA2
            have eR2d : TrRow V2.drew w.heap.size (.slice (some ⟨g, 0, none⟩) n' c1) L' := eR2
            have eB2d : Below w.heap.size w V2.drew := below_drewN eB2 1
            have hch : ch.length ≤ 1000 := by
              have e := congrArg List.length dF
              rw [List.length_append, List.length_take] at e
              omega
            have HW3 : IntKind.i64.wrap (2 * (ch.length : Int)) = 2 * (ch.length : Int) := IntWalk.i64_in _ (by omega)
            have hjl : Hid (((d ++ ch).length : Int) = 2 * (ch.length : Int)) := by show _ = _; rw [List.length_append]; omega
            have hfl : Hid (L'.flatten ++ (d ++ ch) = T.take (k + 1)) := by show _ = _; rw [← dF, List.flatten_append]; simp
            have pD2 := pD
            clear dF dP dL dN dD j3 pe pl eA2 eR2 eB2
            generalize hjc : d ++ ch = jc at *
            clear hjc
            go_region_law (first
              | (go_simp; go_at_call 19; (with_reducible refine CT.out.mono ?_); rintro _ W ⟨rfl, b5⟩
                 have eA3 := eA2d.below b5 eg3
                 have eR3 := eR2d.up b5
                 have eB3 := eB2d.trans (b5.mono eB2d.size)
                 have f0 : W.cell? ⟨gt, 0, none⟩ = some (.int .i64 (ch.length : Int)) := eA3.cell 0
                 have x0 := eA3.free 0
                 have AG := eA3.put 0 (.int .i64 (2 * (ch.length : Int)))
                 have x2 : (W.setCell ⟨gt, 0, none⟩ (.int .i64 (2 * (ch.length : Int)))).cell? ⟨gt, 1, none⟩ = some (.string (rootL ch)) := AG.cell 1
                 have x3 := AG.free 1))
            all_goals
              have A2 : Arr ((W.setCell ⟨gt, 0, none⟩ (.int .i64 (2 * (ch.length : Int)))).setCell ⟨gt, 1, none⟩ (.string (rootL jc))) gt 34 (trArr jc) := by
                have := AG.put 1 (.string (rootL jc))
                unfold trArr
                rw [hjl.out]
                exact this
              have hne : (Value.slice (some ⟨g, 0, none⟩) n' c1).ownBlock ≠ some gt := fun e => hgne (Option.some.inj e)
              have hRf := (eR3.set hne 0 (.int .i64 (2 * (ch.length : Int)))).set hne 1 (.string (rootL jc))
              have bs1 : Below w.heap.size w (W.setCell ⟨gt, 0, none⟩ (.int .i64 (2 * (ch.length : Int)))) := eB3.grown (gb_set (w := W) gt 0 _) eB3.size (fun q hq => by cases hq; exact hgt)
              have hBf : Below w.heap.size w ((W.setCell ⟨gt, 0, none⟩ (.int .i64 (2 * (ch.length : Int)))).setCell ⟨gt, 1, none⟩ (.string (rootL jc))) := bs1.grown (gb_set gt 1 _) bs1.size (fun q hq => by cases hq; exact hgt)
              have hR := Lib.hid (show RuRel T k gt w.heap.size w (.slice (some ⟨g, 0, none⟩) n' c1) ((W.setCell ⟨gt, 0, none⟩ (.int .i64 (2 * (ch.length : Int)))).setCell ⟨gt, 1, none⟩ (.string (rootL jc))) from ⟨_, L', jc, rfl, pD2, hfl.out, j1, j2, hRf, hne, A2, A2.lt, hBf⟩)
              clear A2 hne hRf bs1 hBf
              go_wp2_with fail
              exact ⟨hR.out, by simp [slLen]⟩
          · have hb : ((d.length : Int) == ch.length) = false := by rw [beq_eq_false_iff_ne]; omega
            have DLT2 : ∀ x ∈ L' ++ [d], ch.length < x.length := fun x hx => by
              rcases List.mem_append.1 hx with q | q
              · have := pl x q; omega
              · rw [List.mem_singleton.1 q]; omega
            generalize hn' : L'.length = n' at *
            have Hn := Lib.hid hn'
            clear hn'
            go_wp2_with fail
            have HW2 := HW.out
            go_quiet (fail)
            go_upto_region 10 with fail
            refine wp_forget (fun V => TrRow V w.heap.size (.slice (some ⟨g, 0, none⟩) (n' + 1) c1) (L' ++ [d]) ∧ Arr V gt 34 (trArr ch) ∧ Below w.heap.size w V) (by exact ⟨dR, dA, below_drewN dB _⟩) ?_
            rintro V ⟨eR, eA, eB⟩
            have t0 : V.cell? ⟨gt, 0, none⟩ = some (.int .i64 (ch.length : Int)) := eA.cell 0
            have t1 : V.cell? ⟨gt, 1, none⟩ = some (.string (rootL ch)) := eA.cell 1
            have NB : Below V.heap.size V (V.alloc (.cells (trArr ch) 34)) := (Below.refl _ _).alloc (Nat.le_refl _) _
            have eR1 := eR.up NB
            have b1 := eB.trans (NB.mono eB.size)
            have hnews : News (V.alloc (.cells (trArr ch) 34)) (some ⟨V.heap.size, 0, none⟩) 1 (trArr ch).toList := ⟨(fun e => by cases e), fun ad2 e j u hu => by cases e; exact new_cells V (trArr ch).toList _ j u hu⟩
            have HN := Lib.hid hnews
            have ER := Lib.hid eR1
            have hones : ∀ u ∈ (trArr ch).toList, u.oneCell' = true := fun u hu => by
              simp [trArr] at hu
              rcases hu with rfl | rfl <;> rfl
            have hb1 := b1.size
            have HP := Lib.hid (Dec.push (L' ++ [d]) ch dD dP DLT2)
            clear hnews eR1 NB dR dA dB
            unfold trArr at HN ER b1 hones hb1
            go_wp2_with (at_builtin; refine wpList_app _ rfl _ _ 32 rfl w.heap.size 34 si _ 2 24 Tryd.underlying32 Hsi.out Sz0.out Sz1.out Sz2.out rfl (by decide) _ (n' + 1) (trCells (L' ++ [d])) rfl (show World.ownsRow _ w.heap.size 34 2 (.slice (some ⟨g, 0, none⟩) (n' + 1) c1) (n' + 1) (trCells (L' ++ [d])) from by have q := ER.out; unfold TrRow at q; rw [List.length_append, List.length_singleton, Hn.out] at q; exact q) (some ⟨V.heap.size, 0, none⟩) 1 1 [.int .i64 (ch.length : Int), .string (rootL ch)] rfl rfl HN.out hones (by unfold maxLen; omega) (by omega) hb1 ?_)
            intro v5 w5 own5 g5
            have hfin : RtRel T w v5 (.int .i64 ((k : Int) + 1)) w5 := by
              refine ⟨k + 1, v5, (L' ++ [d]) ++ [ch], rfl, rfl, by omega, HP.out, by rw [List.flatten_append, ← dF]; simp, ?_, b1.grown g5 hb1 (fun q hq => own_row_ge eR q hq)⟩
              unfold TrRow
              rw [List.length_append, trCells_app]
              rw [List.length_append, List.length_singleton, Hn.out]; exact own5
            have HF := Lib.hid hfin
            clear own5 g5 HN ER HP hones hfin eR eA eB
            go_wp2_with fail
            refine ⟨HF.out, by simp [intOf]; omega⟩
    · have hkT : k = T.length := by omega
      have hk2 : ¬ ((k : Int) < T.length) := by omega
      have hFT : Hid (L.flatten = T) := by show _ = _; rw [hF, hkT, List.take_length]
      clear hF hkT hT
      rcases List.eq_nil_or_concat L with rfl | ⟨L', d, hM⟩
      · have hT0 : T = [] := hFT.out.symm
        have CS : Hid (Calls Tryd.prog 13 #[.string ⟨#[]⟩] wr (TEnd wr (rootL T))) := by
          rw [hT0, rootL_nil]
          exact RefSum_any ⟨#[]⟩ (by decide) wr
        obtain ⟨A1, c1, rfl, _, _⟩ := hR.form
        rw [List.length_nil]
        clear hT0 hR hFT
        generalize rootL T = r at *
        go_wp2_with fail
        (with_reducible refine CS.out.mono ?_)
        rintro _ w2 ⟨rfl, b2⟩
        go_wp2_with fail
        go_ret
        exact ⟨rfl, hB.trans (b2.mono hB.size)⟩
      · rw [List.concat_eq_append] at hM
        subst hM
        obtain ⟨A1, c1, rfl, hc1, hA1⟩ := hR.form
        obtain ⟨g, rfl, hg1, hg2⟩ := hA1 (by simp)
        obtain ⟨q0, q1⟩ := hR.cells (k := L'.length) (c := d) (by simp)
        have hlen : (L' ++ [d]).length = L'.length + 1 := by simp
        have hMl := hD.len
        rw [hFT.out, hlen] at hMl
        have hne : (((L'.length : Nat) : Int) + 1 == 0) = false := by rw [beq_eq_false_iff_ne]; omega
        have hs0 : ∀ W, Below w.heap.size w W → TrRow W w.heap.size (.slice (some ⟨g, 0, none⟩) (L' ++ [d]).length c1) (L' ++ [d]) → Hid (FdRel (L' ++ [d]) w.heap.size (.slice (some ⟨g, 0, none⟩) (L' ++ [d]).length c1) w (.string (rootL d)) (.int .i64 (((L'.length : Nat) : Int) - 1)) W) := fun W b r => ⟨L'.length, by rw [Dec.last], rfl, by rw [hlen]; exact Nat.le_refl _, r, b⟩
        have HS := hs0 wr hB hR
        rw [hlen] at HS hc1 ⊢
        have hfin : Hid (rootL ((L' ++ [d]).drop 0).flatten = rootL T) := by show _ = _; rw [List.drop_zero, hFT.out]
        clear hs0 hR hA1 hFT
        generalize hn' : L'.length = n' at *
        have Hn := Lib.hid hlen
        clear hn' hlen
        go_wp2_with fail
        go_loopw [8, 9] (fun r i wr => FdRel (L' ++ [d]) w.heap.size (.slice (some ⟨g, 0, none⟩) (n' + 1) c1) w r i wr) (fun _ i _ => (intOf i + 1).toNat)
        case atStart =>
          first
          | exact HS.out
          | (rw [show ((n' : Int) + 1 - 2) = (n' : Int) - 1 from by omega]; exact HS.out)
          | (rw [show wrap64 ((n' : Int) + 1 - 2) = (n' : Int) - 1 from by rw [IntWalk.wrap64_in _ (by omega)]; omega]; exact HS.out)
        case round =>
          clear HS
          obtain ⟨j, rfl, rfl, hj, eR, eB⟩ := hrel
          rw [Hn.out] at hj
          by_cases hj0 : 0 < j
          · obtain ⟨j', rfl⟩ : ∃ j', j = j' + 1 := ⟨j - 1, by omega⟩
            have hjl : j' + 1 < (L' ++ [d]).length := by rw [Hn.out]; omega
            obtain ⟨e0, e1⟩ := eR.cells (k := j') (c := (L' ++ [d])[j']) (List.getElem?_eq_getElem (by omega))
            have CT := Lib.hid (refTwo_any (rootL (L' ++ [d])[j']) (rootL (((L' ++ [d]).drop (j' + 1)).flatten)) (by rw [rootL_size]; decide) (by rw [rootL_size]; decide) wr)
            rw [← hD.step hjl] at CT
            have hji : (((j' + 1 : Nat) : Int) - 1) = (j' : Int) := by omega
            rw [hji]
            have hnn : (0 : Int) ≤ j' := by omega
            have hjn : (j' : Int) < (n' : Int) + 1 := by omega
            clear hji hj0 e0 q0 q1
            generalize rootL (L' ++ [d])[j'] = ra at *
            generalize rootL (((L' ++ [d]).drop (j' + 1)).flatten) = rb at *
            have hst : Hid (∀ W, Below wr.heap.size wr W → FdRel (L' ++ [d]) w.heap.size (.slice (some ⟨g, 0, none⟩) (n' + 1) c1) w (.string (rootL (((L' ++ [d]).drop j').flatten))) (.int .i64 ((j' : Int) - 1)) W) := fun W b => ⟨j', rfl, rfl, by rw [Hn.out]; omega, eR.up b, eB.trans (b.mono eB.size)⟩
            generalize rootL (((L' ++ [d]).drop j').flatten) = rc at *
            clear eR eB
            go_wp2_with fail
            (with_reducible refine CT.out.mono ?_)
            rintro _ w2 ⟨rfl, b2⟩
            go_wp2_with fail
            exact ⟨hst.out _ b2, by simp [intOf]⟩
          · obtain rfl : j = 0 := by omega
            rw [hfin.out]
            have hji : (((0 : Nat) : Int) - 1) = -1 := by omega
            rw [hji]
            clear hji
            go_wp2_with fail
            go_ret
            exact ⟨rfl, eB⟩
end Go.Proofs.YtlokfeoihnlkkaaDoor
