/- Texts in one: StOnwL, StPut, StBackP, StStoL, PStrings. -/
import Derived.Test.YtmikfmcgddmplaaGreatDoorUnhexW
import Derived.Test.YtmikfmcgddmplaaGreatDoorORefSame
import Derived.Test.YtmikfmcgddmplaaGreatDoorORefDec
import Derived.Test.YtmikfmcgddmplaaGreatDoorRefMath
import Derived.Test.YtmikfmcgddmplaaGreatDoorDkSave
import Derived.Test.YtmikfmcgddmplaaGreatDoorStOnP
import Derived.Test.YtmikfmcgddmplaaGreatDoorOPick
import Derived.Test.YtmikfmcgddmplaaGreatDoorOApp
/- ref.Onward at law.tells$1: its contract. -/
namespace Go.Proofs.YtmikfmcgddmplaaGreatDoor
open Go.RowKit

def lenV : Value → Nat
  | .slice _ n _ => n
  | _ => 0
theorem pars_kind (x : ByteArray × Int) : (loadR x).1.kind ≠ 3 → (loadR x).1.pars = [] := fun h => by
  unfold loadR at h ⊢
  split
  · rfl
  · split
    · rfl
    · rename_i h1 h2
      rw [if_neg h1, if_neg h2] at h
      have hg := (good_facts (dec_only (Classical.not_not.1 h2)).2.1).stray
      unfold strayB at hg
      cases hp : (decO x.1.data.toList).1.pars with
      | nil => rfl
      | cons y l =>
        rw [hp] at hg
        have hk : ((decO x.1.data.toList).1.kind != 3) = true := by rw [bne_iff_ne]; exact h
        simp [hk] at hg
/-- where the document's Onward stands -/
def OwRel (G : ByteArray → ByteArray × Int) (to : ByteArray) (ans : Bool) (w : World) (hv wv : Value) (wr : World) : Prop :=
  ∃ (n : Nat) (work had : List ByteArray) (h0 w0 : Value), h0 = hv ∧ w0 = wv ∧ QRow wr w.heap.size h0 had ∧ QRow wr w.heap.size w0 work ∧ w0.ownBlock ≠ h0.ownBlock ∧ had.length ≤ 400 ∧ work.length ≤ 1 + 4 * had.length ∧ onwGo G to n work had = ans ∧
    work.length + 5 * (400 - had.length) + 1 ≤ n ∧ Below w.heap.size w wr
set_option maxRecDepth 100000 in
set_option maxHeartbeats 4000000 in
theorem Onward_te (M : List KT) (id to : ByteArray) (gm q : Nat) (w : World) (hq : Arr w q 58 #[.map (some gm)]) (hM : MapX w gm (tx M)) :
    Calls Tryz.prog 11 #[.func (.func 26) #[] #[.pointer (some ⟨q, 0, none⟩)], .string id, .string to] w fun e w' => e = .returned (.bool (desc (tellT M) id to)) ∧ Below w.heap.size w w' := by
  have hans := onward_desc (tellT M) id to 2002 (Nat.le_refl _)
  have CG : ∀ W, Below w.heap.size w W → ∀ x, Hid (Calls Tryz.prog 26 #[.string x, .pointer (some ⟨q, 0, none⟩)] W fun e w' => e = .returned (.tuple #[.string (tellT M x).1, .int .i64 (tellT M x).2]) ∧ Below W.heap.size W w') := fun W b x =>
    getter_te M x gm q W (hq.below b hq.lt) (hM.below b hM.lt)
  generalize tellT M = G at *
  generalize desc G id to = ans at *
  have b1 : Below w.heap.size w (w.alloc (.cells #[] 9)) := (Below.refl _ _).alloc (Nat.le_refl _) _
  have A1 : Arr (w.alloc (.cells #[] 9)) w.heap.size 9 #[] := Arr.new _ _ _
  have hR : Hid (OwRel G to ans w (.slice (some ⟨w.heap.size, 0, none⟩) 0 0) (.slice (some ⟨(w.alloc (.cells #[] 9)).heap.size, 0, none⟩) 1 1) ((w.alloc (.cells #[] 9)).alloc (.cells #[.string id] 9))) := by
    have q1 := (QRow.empty _ w.heap.size (Nat.le_refl _) A1).below ((Below.refl _ (w.alloc (.cells #[] 9))).alloc (Nat.le_refl _) (.cells #[.string id] 9))
    have q2 := QRow.one (w.alloc (.cells #[] 9)) id
    obtain ⟨g, off, cap, C, e, h1, h2⟩ := q2
    refine ⟨2002, [id], [], _, _, rfl, rfl, q1, ⟨g, off, cap, C, e, Nat.le_trans b1.size h1, h2⟩, fun e => ?_, by simp, by simp, hans, by simp, b1.alloc b1.size _⟩
    have e2 : (w.alloc (.cells #[] 9)).heap.size = w.heap.size := Option.some.inj e
    rw [World.size_alloc] at e2
    omega
  clear hans b1 A1 hq hM
  go_enter Tryz.func11, Tryz.ntmps11
  go_wp2_with fail
  go_loopw [7, 8] (fun hv wv wr => OwRel G to ans w hv wv wr) (fun hv wv _ => lenV wv + 5 * (400 - lenV hv))
  case atStart =>
    have hR2 := hR.out
    rw [World.size_alloc] at hR2
    exact hR2
  case round =>
    clear hR
    obtain ⟨n, work, had, h0, w0, rfl, rfl, hQ, wQ, hne, hl, wl, hgo, hn, hB⟩ := hrel
    obtain ⟨HA, hc, rfl, hhc⟩ := hQ.form
    cases work with
    | nil =>
      obtain ⟨WA, wc, rfl, hwc⟩ := wQ.form
      have hF : Hid (ans = false) := by
        show _ = _
        rw [← hgo]
        cases n <;> rfl
      rw [List.length_nil]
      clear hQ wQ hgo
      go_wp2_with fail
      go_ret
      exact ⟨by rw [hF.out]; rfl, hB⟩
    | cons x work =>
      obtain ⟨ad, cap, rfl, c0, hcap, hblk, hbase, tQ⟩ := wQ.first
      obtain ⟨n', rfl⟩ : ∃ n', n = n' + 1 := ⟨n - 1, by omega⟩
      rw [List.length_cons] at wl hn
      rw [onwGo] at hgo
      have hw0 : (0 : Int) < (work.length : Int) + 1 := by omega
      by_cases hf : 400 ≤ had.length
      · have hfi : ¬ (had.length : Int) < 400 := by omega
        rw [if_pos hf] at hgo
        have hF : Hid (ans = false) := hgo.symm
        clear hQ wQ hgo hne tQ
        go_wp2_with fail
        go_ret
        exact ⟨by rw [hF.out]; rfl, hB⟩
      have hfi : (had.length : Int) < 400 := by omega
      rw [if_neg hf] at hgo
      cases hq : x.toList == to.toList
      case true =>
        rw [if_pos ((eqB_iff x to).1 hq)] at hgo
        have hF : Hid (ans = true) := hgo.symm
        clear hQ wQ hgo hne tQ
        by_cases hc1 : cap = 1
        all_goals
          go_wp2_with fail
          go_ret
          exact ⟨by rw [hF.out]; rfl, hB⟩
      case false =>
      have hxt : x ≠ to := fun e => by rw [e] at hq; simp at hq
      rw [if_neg hxt] at hgo
      obtain ⟨HA', hc', he', hHT⟩ := hQ.txs
      cases he'
      have CI := Lib.hid (refin_any had x (by omega) HA hc wr hHT)
      have hnb : some ad.block ≠ (Value.slice HA had.length hc).ownBlock := hne
      have HNE := Lib.hid hnb
      have HQ := Lib.hid hQ
      have HG := Lib.hid hgo
      clear hHT wQ hne hnb hQ hgo hxt
      by_cases hc1 : cap = 1
      case pos =>
        rw [if_pos hc1] at tQ
        subst hc1
        have hwl : work.length = 0 := by omega
        rw [hwl, Nat.sub_self] at tQ
        have TQ := Lib.hid tQ
        clear tQ
        cases hm : memB x had
        case true =>
          rw [hm] at CI
          have HG2 : Hid (onwGo G to n' work had = ans) := by have h := HG.out; rw [hm, if_pos rfl] at h; exact h
          clear HG hm
          go_wp2_with fail
          (with_reducible refine CI.out.mono ?_)
          rintro _ w2 ⟨rfl, b2⟩
          have hfin : OwRel G to ans w (.slice HA had.length hc) _ w2 := ⟨n', work, had, _, _, rfl, rfl, HQ.out.below b2, TQ.out.below b2, HNE.out, hl, by omega, HG2.out, by omega, hB.trans (b2.mono hB.size)⟩
          have HF := Lib.hid hfin
          clear hfin HQ TQ HG2 c0
          go_wp2_with fail
          exact ⟨HF.out, by simp [lenV]⟩
        case false =>
          rw [hm] at CI
          have HG2 : Hid (onwGo G to n' (work ++ (loadR (G x)).1.pars) (had ++ [x]) = ans) := by have h := HG.out; rw [hm, if_neg (by decide)] at h; exact h
          clear HG hm
          go_wp2_with fail
          (with_reducible refine CI.out.mono ?_)
          rintro _ w2 ⟨rfl, b2⟩
          have nb : Below w2.heap.size w2 (w2.alloc (.cells #[.string x] 9)) := (Below.refl _ _).alloc (Nat.le_refl _) _
          have hQ2 := (HQ.out.below b2).below nb
          have tQ2 := (TQ.out.below b2).below nb
          have B2 := hB.trans (b2.mono hB.size)
          have B3 := Lib.hid (B2.trans (nb.mono B2.size))
          have HN := Lib.hid (show News (w2.alloc (.cells #[.string x] 9)) (some ⟨w2.heap.size, 0, none⟩) [x].length ([x].map sv) from ⟨(fun e => by cases e), fun ad2 e j u hu => by cases e; exact new_cells w2 [.string x] _ j u hu⟩)
          have hadlt : ad.block < (w2.alloc (.cells #[.string x] 9)).heap.size := Nat.lt_of_lt_of_le hblk (Nat.le_trans b2.size nb.size)
          have TQ2 := Lib.hid tQ2
          clear HQ TQ c0 b2 nb B2 tQ2 CI
          go_wp2_with (at_builtin; refine wpList_app_q rfl _ _ rfl w.heap.size _ had [x] rfl hQ2 (some ⟨w2.heap.size, 0, none⟩) 1 rfl HN.out (by simp; omega) B3.out.size ?_)
          intro v3 w3 Q3 g3 at3
          have hne3 : some ad.block ≠ v3.ownBlock := by
            rcases at3 with e | e
            · rw [e]; exact HNE.out
            · rw [e]
              intro e2
              have h9 := Option.some.inj e2
              rw [World.size_alloc] at hadlt
              omega
          have tQ3 := TQ2.out.kept g3 HNE.out
          have B4 := B3.out.grown g3 B3.out.size (fun q hq => (hQ2.block q hq).1)
          have CGx := CG w3 B4 x
          generalize hGx : G x = gx at *
          obtain ⟨s, e⟩ := gx
          have HNE3 := Lib.hid hne3
          have TQ3 := Lib.hid tQ3
          have HQ3 := Lib.hid Q3
          have HB4 := Lib.hid B4
          clear at3 hne3 tQ3 Q3 B4 g3 HN hQ2 TQ2 B3 hGx hadlt
          simp only at CGx
          go_wp2_with fail
          (with_reducible refine CGx.out.mono ?_)
          rintro _ w4 ⟨rfl, b4⟩
          have HQ4 := Lib.hid (HQ3.out.below b4)
          have TQ4 := Lib.hid (TQ3.out.below b4)
          have HB5 := Lib.hid (HB4.out.trans (b4.mono HB4.out.size))
          clear HQ3 TQ3 HB4 b4 CGx
          by_cases he : e = 0
          case neg =>
            have heb : (e != 0) = true := by rw [bne_iff_ne]; exact he
            have hp0 : (loadR (s, e)).1.pars = [] := by unfold loadR; rw [if_pos he]; rfl
            have HG3 : Hid (onwGo G to n' work (had ++ [x]) = ans) := by have h := HG2.out; rw [hp0, List.append_nil] at h; exact h
            clear HG2 hp0 he
            have hfin : OwRel G to ans w v3 _ w4 := ⟨n', work, had ++ [x], _, _, rfl, rfl, HQ4.out, TQ4.out, HNE3.out, by rw [List.length_append, List.length_singleton]; omega, by rw [List.length_append, List.length_singleton]; omega, HG3.out, by rw [List.length_append, List.length_singleton]; omega, HB5.out⟩
            obtain ⟨H3, c3, hv3, _⟩ := HQ4.out.form
            have HV3 := Lib.hid hv3
            have HF := Lib.hid hfin
            clear hfin HQ4 TQ4 HB5 HG3 hv3
            go_wp2_with fail
            refine ⟨HF.out, ?_⟩
            rw [HV3.out]
            simp [lenV]
            omega
          case pos =>
            subst he
            have CD := Lib.hid (RefDecode_any s w4)
            have HL : Hid ((loadR (s, (0 : Int))).1 = if (decO s.data.toList).2 ≠ 0 then Ob.none else (decO s.data.toList).1) := by
              show _ = _
              unfold loadR
              rw [if_neg (fun h => h rfl)]
              split <;> rfl
            have HPk := Lib.hid (pars_kind (s, (0 : Int)))
            have hp4 := loadR_pars (s, (0 : Int))
            rw [HL.out] at HG2 HPk hp4
            clear HL
            generalize decO s.data.toList = R at *
            obtain ⟨o, e2⟩ := R
            simp only at CD HG2 HPk hp4
            unfold DEnd at CD
            go_wp2_with fail
            (with_reducible refine CD.out.mono ?_)
            rintro _ w5 ⟨p, hx5, oin, b5⟩
            unfold obArr at hx5
            subst hx5
            have HQ5 := Lib.hid (HQ4.out.below b5)
            have TQ5 := Lib.hid (TQ4.out.below b5)
            have HB6 := Lib.hid (HB5.out.trans (b5.mono HB5.out.size))
            clear HQ4 TQ4 HB5 b5 CD
            go_upto_region 13 with fail
            have NB : Below w5.heap.size w5 (w5.alloc (.cells (obArr o p) 53)) := (Below.refl _ _).alloc (Nat.le_refl _) _
            have A5 : Arr (w5.alloc (.cells (obArr o p) 53)) w5.heap.size 53 (obArr o p) := Arr.new _ _ _
            refine wp_forget (fun V => QRow V w.heap.size v3 (had ++ [x]) ∧ QRow V w.heap.size (.slice (some ad) 0 0) work ∧ Below w.heap.size w V ∧ V.cell? ⟨w5.heap.size, 0, none⟩ = some (.int .i64 o.kind) ∧ V.cell? ⟨w5.heap.size, 4, none⟩ = some (.slice p.pa o.pars.length p.pc) ∧ News V p.pa o.pars.length (o.pars.map sv))
              (by exact ⟨HQ5.out.below NB, TQ5.out.below NB, HB6.out.trans (NB.mono HB6.out.size), A5.cell 0, A5.cell 4, (oin.pars.below NB).news⟩) ?_
            generalize w5.heap.size = q5 at *
            rintro V ⟨y1, y2, y3, y4, y5, y6⟩
            have Y1 := Lib.hid y1
            have Y2 := Lib.hid y2
            have Y3 := Lib.hid y3
            have Y6 := Lib.hid y6
            clear NB A5 HQ5 TQ5 HB6 oin y1 y2 y3 y6
            obtain ⟨H3, c3, hv3, _⟩ := Y1.out.form
            have HV3 := Lib.hid hv3
            clear hv3
            have hfin0 : Hid (onwGo G to n' work (had ++ [x]) = ans → OwRel G to ans w v3 (.slice (some ad) 0 0) V) := fun h => ⟨n', work, had ++ [x], _, _, rfl, rfl, Y1.out, Y2.out, HNE3.out, by rw [List.length_append, List.length_singleton]; omega, by rw [List.length_append, List.length_singleton]; omega, h, by rw [List.length_append, List.length_singleton]; omega, Y3.out⟩
            by_cases hd : e2 = 0
            case neg =>
              have heb : (e2 == 0) = false := by rw [beq_eq_false_iff_ne]; exact hd
              rw [if_pos hd] at HG2
              have HF := Lib.hid (hfin0.out (by have h := HG2.out; rw [show Ob.none.pars = [] from rfl, List.append_nil] at h; exact h))
              clear HG2 hfin0 HPk hp4 hd Y1 Y2 Y3 Y6 y4 y5
              go_wp2_with fail
              refine ⟨HF.out, ?_⟩
              rw [HV3.out]
              simp [lenV]
              omega
            case pos =>
              have heb : (e2 == 0) = true := by rw [beq_iff_eq]; exact hd
              rw [if_neg (fun h => h hd)] at HG2 HPk hp4
              clear hd
              by_cases hk : o.kind = 3
              case neg =>
                have hkb : (o.kind == 3) = false := by rw [beq_eq_false_iff_ne]; exact hk
                have hp0 := HPk.out hk
                have HF := Lib.hid (hfin0.out (by have h := HG2.out; rw [hp0, List.append_nil] at h; exact h))
                clear HG2 hfin0 HPk hp4 hk hp0 Y1 Y2 Y3 Y6 y5
                go_wp2_with fail
                refine ⟨HF.out, ?_⟩
                rw [HV3.out]
                simp [lenV]
                omega
              case pos =>
                have hkb : (o.kind == 3) = true := by rw [beq_iff_eq]; exact hk
                clear hk HPk hfin0
                go_wp2_with (at_builtin; refine wpList_app_q rfl _ _ rfl w.heap.size _ work o.pars rfl Y2.out p.pa p.pc rfl Y6.out (by omega) Y3.out.size ?_)
                intro v6 w6 Q6 g6 at6
                have R6 := Y1.out.kept g6 (fun e => HNE3.out e.symm)
                have hb3 := Y1.out.block
                have hne6 : v6.ownBlock ≠ v3.ownBlock := by
                  rcases at6 with e | e
                  · rw [e]; exact HNE3.out
                  · intro e9
                    rw [e] at e9
                    have := (hb3 _ e9.symm).2
                    omega
                have B6 := Y3.out.grown g6 Y3.out.size (fun q hq => (Y2.out.block q hq).1)
                have hfin : OwRel G to ans w v3 v6 w6 := ⟨n', work ++ o.pars, had ++ [x], _, _, rfl, rfl, R6, Q6, hne6, by rw [List.length_append, List.length_singleton]; omega, by rw [List.length_append, List.length_append, List.length_singleton]; omega, HG2.out, by rw [List.length_append, List.length_append, List.length_singleton]; omega, B6⟩
                obtain ⟨H6, c6, hv6, _⟩ := Q6.form
                have HV6 := Lib.hid hv6
                have HF := Lib.hid hfin
                clear at6 R6 hb3 hne6 B6 hfin hv6 Q6 g6 Y1 Y2 Y3 Y6 HG2
                go_wp2_with fail
                refine ⟨HF.out, ?_⟩
                rw [HV3.out, HV6.out]
                simp [lenV]
                omega
      case neg =>
        rw [if_neg hc1] at tQ
        have TQ := Lib.hid tQ
        clear tQ
        cases hm : memB x had
        case true =>
          rw [hm] at CI
          have HG2 : Hid (onwGo G to n' work had = ans) := by have h := HG.out; rw [hm, if_pos rfl] at h; exact h
          clear HG hm
          go_wp2_with fail
          (with_reducible refine CI.out.mono ?_)
          rintro _ w2 ⟨rfl, b2⟩
          have hfin : OwRel G to ans w (.slice HA had.length hc) _ w2 := ⟨n', work, had, _, _, rfl, rfl, HQ.out.below b2, TQ.out.below b2, HNE.out, hl, by omega, HG2.out, by omega, hB.trans (b2.mono hB.size)⟩
          have HF := Lib.hid hfin
          clear hfin HQ TQ HG2 c0
          go_wp2_with fail
          exact ⟨HF.out, by simp [lenV]⟩
        case false =>
          rw [hm] at CI
          have HG2 : Hid (onwGo G to n' (work ++ (loadR (G x)).1.pars) (had ++ [x]) = ans) := by have h := HG.out; rw [hm, if_neg (by decide)] at h; exact h
          clear HG hm
          go_wp2_with fail
          (with_reducible refine CI.out.mono ?_)
          rintro _ w2 ⟨rfl, b2⟩
          have nb : Below w2.heap.size w2 (w2.alloc (.cells #[.string x] 9)) := (Below.refl _ _).alloc (Nat.le_refl _) _
          have hQ2 := (HQ.out.below b2).below nb
          have tQ2 := (TQ.out.below b2).below nb
          have B2 := hB.trans (b2.mono hB.size)
          have B3 := Lib.hid (B2.trans (nb.mono B2.size))
          have HN := Lib.hid (show News (w2.alloc (.cells #[.string x] 9)) (some ⟨w2.heap.size, 0, none⟩) [x].length ([x].map sv) from ⟨(fun e => by cases e), fun ad2 e j u hu => by cases e; exact new_cells w2 [.string x] _ j u hu⟩)
          have hadlt : ad.block < (w2.alloc (.cells #[.string x] 9)).heap.size := Nat.lt_of_lt_of_le hblk (Nat.le_trans b2.size nb.size)
          have TQ2 := Lib.hid tQ2
          clear HQ TQ c0 b2 nb B2 tQ2 CI
          go_wp2_with (at_builtin; refine wpList_app_q rfl _ _ rfl w.heap.size _ had [x] rfl hQ2 (some ⟨w2.heap.size, 0, none⟩) 1 rfl HN.out (by simp; omega) B3.out.size ?_)
          intro v3 w3 Q3 g3 at3
          have hne3 : some ad.block ≠ v3.ownBlock := by
            rcases at3 with e | e
            · rw [e]; exact HNE.out
            · rw [e]
              intro e2
              have h9 := Option.some.inj e2
              rw [World.size_alloc] at hadlt
              omega
          have tQ3 := TQ2.out.kept g3 HNE.out
          have B4 := B3.out.grown g3 B3.out.size (fun q hq => (hQ2.block q hq).1)
          have CGx := CG w3 B4 x
          generalize hGx : G x = gx at *
          obtain ⟨s, e⟩ := gx
          have HNE3 := Lib.hid hne3
          have TQ3 := Lib.hid tQ3
          have HQ3 := Lib.hid Q3
          have HB4 := Lib.hid B4
          clear at3 hne3 tQ3 Q3 B4 g3 HN hQ2 TQ2 B3 hGx hadlt
          simp only at CGx
          go_wp2_with fail
          (with_reducible refine CGx.out.mono ?_)
          rintro _ w4 ⟨rfl, b4⟩
          have HQ4 := Lib.hid (HQ3.out.below b4)
          have TQ4 := Lib.hid (TQ3.out.below b4)
          have HB5 := Lib.hid (HB4.out.trans (b4.mono HB4.out.size))
          clear HQ3 TQ3 HB4 b4 CGx
          by_cases he : e = 0
          case neg =>
            have heb : (e != 0) = true := by rw [bne_iff_ne]; exact he
            have hp0 : (loadR (s, e)).1.pars = [] := by unfold loadR; rw [if_pos he]; rfl
            have HG3 : Hid (onwGo G to n' work (had ++ [x]) = ans) := by have h := HG2.out; rw [hp0, List.append_nil] at h; exact h
            clear HG2 hp0 he
            have hfin : OwRel G to ans w v3 _ w4 := ⟨n', work, had ++ [x], _, _, rfl, rfl, HQ4.out, TQ4.out, HNE3.out, by rw [List.length_append, List.length_singleton]; omega, by rw [List.length_append, List.length_singleton]; omega, HG3.out, by rw [List.length_append, List.length_singleton]; omega, HB5.out⟩
            obtain ⟨H3, c3, hv3, _⟩ := HQ4.out.form
            have HV3 := Lib.hid hv3
            have HF := Lib.hid hfin
            clear hfin HQ4 TQ4 HB5 HG3 hv3
            go_wp2_with fail
            refine ⟨HF.out, ?_⟩
            rw [HV3.out]
            simp [lenV]
            omega
          case pos =>
            subst he
            have CD := Lib.hid (RefDecode_any s w4)
            have HL : Hid ((loadR (s, (0 : Int))).1 = if (decO s.data.toList).2 ≠ 0 then Ob.none else (decO s.data.toList).1) := by
              show _ = _
              unfold loadR
              rw [if_neg (fun h => h rfl)]
              split <;> rfl
            have HPk := Lib.hid (pars_kind (s, (0 : Int)))
            have hp4 := loadR_pars (s, (0 : Int))
            rw [HL.out] at HG2 HPk hp4
            clear HL
            generalize decO s.data.toList = R at *
            obtain ⟨o, e2⟩ := R
            simp only at CD HG2 HPk hp4
            unfold DEnd at CD
            go_wp2_with fail
            (with_reducible refine CD.out.mono ?_)
            rintro _ w5 ⟨p, hx5, oin, b5⟩
            unfold obArr at hx5
            subst hx5
            have HQ5 := Lib.hid (HQ4.out.below b5)
            have TQ5 := Lib.hid (TQ4.out.below b5)
            have HB6 := Lib.hid (HB5.out.trans (b5.mono HB5.out.size))
            clear HQ4 TQ4 HB5 b5 CD
            go_upto_region 13 with fail
            have NB : Below w5.heap.size w5 (w5.alloc (.cells (obArr o p) 53)) := (Below.refl _ _).alloc (Nat.le_refl _) _
            have A5 : Arr (w5.alloc (.cells (obArr o p) 53)) w5.heap.size 53 (obArr o p) := Arr.new _ _ _
            refine wp_forget (fun V => QRow V w.heap.size v3 (had ++ [x]) ∧ QRow V w.heap.size (.slice (some (ad.add 1)) work.length (cap - 1)) work ∧ Below w.heap.size w V ∧ V.cell? ⟨w5.heap.size, 0, none⟩ = some (.int .i64 o.kind) ∧ V.cell? ⟨w5.heap.size, 4, none⟩ = some (.slice p.pa o.pars.length p.pc) ∧ News V p.pa o.pars.length (o.pars.map sv))
              (by exact ⟨HQ5.out.below NB, TQ5.out.below NB, HB6.out.trans (NB.mono HB6.out.size), A5.cell 0, A5.cell 4, (oin.pars.below NB).news⟩) ?_
            generalize w5.heap.size = q5 at *
            rintro V ⟨y1, y2, y3, y4, y5, y6⟩
            have Y1 := Lib.hid y1
            have Y2 := Lib.hid y2
            have Y3 := Lib.hid y3
            have Y6 := Lib.hid y6
            clear NB A5 HQ5 TQ5 HB6 oin y1 y2 y3 y6
            obtain ⟨H3, c3, hv3, _⟩ := Y1.out.form
            have HV3 := Lib.hid hv3
            clear hv3
            have hfin0 : Hid (onwGo G to n' work (had ++ [x]) = ans → OwRel G to ans w v3 (.slice (some (ad.add 1)) work.length (cap - 1)) V) := fun h => ⟨n', work, had ++ [x], _, _, rfl, rfl, Y1.out, Y2.out, HNE3.out, by rw [List.length_append, List.length_singleton]; omega, by rw [List.length_append, List.length_singleton]; omega, h, by rw [List.length_append, List.length_singleton]; omega, Y3.out⟩
            by_cases hd : e2 = 0
            case neg =>
              have heb : (e2 == 0) = false := by rw [beq_eq_false_iff_ne]; exact hd
              rw [if_pos hd] at HG2
              have HF := Lib.hid (hfin0.out (by have h := HG2.out; rw [show Ob.none.pars = [] from rfl, List.append_nil] at h; exact h))
              clear HG2 hfin0 HPk hp4 hd Y1 Y2 Y3 Y6 y4 y5
              go_wp2_with fail
              refine ⟨HF.out, ?_⟩
              rw [HV3.out]
              simp [lenV]
              omega
            case pos =>
              have heb : (e2 == 0) = true := by rw [beq_iff_eq]; exact hd
              rw [if_neg (fun h => h hd)] at HG2 HPk hp4
              clear hd
              by_cases hk : o.kind = 3
              case neg =>
                have hkb : (o.kind == 3) = false := by rw [beq_eq_false_iff_ne]; exact hk
                have hp0 := HPk.out hk
                have HF := Lib.hid (hfin0.out (by have h := HG2.out; rw [hp0, List.append_nil] at h; exact h))
                clear HG2 hfin0 HPk hp4 hk hp0 Y1 Y2 Y3 Y6 y5
                go_wp2_with fail
                refine ⟨HF.out, ?_⟩
                rw [HV3.out]
                simp [lenV]
                omega
              case pos =>
                have hkb : (o.kind == 3) = true := by rw [beq_iff_eq]; exact hk
                clear hk HPk hfin0
                go_wp2_with (at_builtin; refine wpList_app_q rfl _ _ rfl w.heap.size _ work o.pars rfl Y2.out p.pa p.pc rfl Y6.out (by omega) Y3.out.size ?_)
                intro v6 w6 Q6 g6 at6
                have R6 := Y1.out.kept g6 (fun e => HNE3.out e.symm)
                have hb3 := Y1.out.block
                have hne6 : v6.ownBlock ≠ v3.ownBlock := by
                  rcases at6 with e | e
                  · rw [e]; exact HNE3.out
                  · intro e9
                    rw [e] at e9
                    have := (hb3 _ e9.symm).2
                    omega
                have B6 := Y3.out.grown g6 Y3.out.size (fun q hq => (Y2.out.block q hq).1)
                have hfin : OwRel G to ans w v3 v6 w6 := ⟨n', work ++ o.pars, had ++ [x], _, _, rfl, rfl, R6, Q6, hne6, by rw [List.length_append, List.length_singleton]; omega, by rw [List.length_append, List.length_append, List.length_singleton]; omega, HG2.out, by rw [List.length_append, List.length_append, List.length_singleton]; omega, B6⟩
                obtain ⟨H6, c6, hv6, _⟩ := Q6.form
                have HV6 := Lib.hid hv6
                have HF := Lib.hid hfin
                clear at6 R6 hb3 hne6 B6 hfin hv6 Q6 g6 Y1 Y2 Y3 Y6 HG2
                go_wp2_with fail
                refine ⟨HF.out, ?_⟩
                rw [HV3.out, HV6.out]
                simp [lenV]
                omega
end Go.Proofs.YtmikfmcgddmplaaGreatDoor

/- store.Put: its contract. -/
namespace Go.Proofs.YtmikfmcgddmplaaGreatDoor
open Go.RowKit

theorem results_cell_tmp_tmp {fn : Func} {p u v : Tmp} {ty : TypeId} (h : fn.results = #[.cell p ty, .tmp u, .tmp v]) (tmps : Array Value) (P : Program) (w : World) :
    (results fn tmps).run P w =
      ((asAddr (tmps.getD p undef)).run P w).andThen fun a w₁ => ((loadVar ty a).run P w₁).andThen fun x w₂ => .ok (.tuple #[x, tmps.getD u undef, tmps.getD v undef]) w₂ := by
  simp only [results, h]
  simp [Sem.run_bind, Result.andThen]
def PutEnd (w : World) (r : Dk × ByteArray × Int) (x : Ending) (w' : World) : Prop :=
  ∃ A c, x = .returned (.tuple #[.agg (dkArr r.1.files A c r.1.fuse), .string r.2.1, .int .i64 r.2.2]) ∧ Fls w' w'.heap.size A r.1.files ∧ r.1.files.length ≤ c ∧ Below w.heap.size w w'
theorem fileN_size {id : ByteArray} (h : id.size = 32) : (fileN id).size = 65 := by
  unfold fileN
  rw [ByteArray.size_append, bs_size, hexOf_length]
  show 1 + 2 * id.size = 65
  omega
/-- behind Save: what was saved in its block, the result's block still empty -/
def Xv (w : World) (M : List Fl) (Ab : Option Addr) (cb : Nat) (y : Int) (q : Nat) (W : World) : Prop :=
  Arr W q 37 (dkArr M Ab cb y) ∧ Arr W (w.heap.size + 1) 37 dkZero ∧ Fls W W.heap.size Ab M ∧ Below w.heap.size w W
theorem put_late {w V : World} {L M : List Fl} {A Ab : Option Addr} {c cb : Nat} {z y : Int} (hS : Sv w L A c z V) (hF : Fls V V.heap.size Ab M) (W' : World) (e : W' = V.alloc (.cells #[.slice Ab M.length cb, .int .i64 y] 37)) : Xv w M Ab cb y V.heap.size W' := by
  subst e
  have b1 : Below V.heap.size V (V.alloc (.cells #[.slice Ab M.length cb, .int .i64 y] 37)) := (Below.refl _ _).alloc (Nat.le_refl _) _
  exact ⟨Arr.new _ _ _, hS.2.1.alloc _, hF.up b1, hS.2.2.2.trans (b1.mono hS.2.2.2.size)⟩
theorem put_early {w V : World} {L M : List Fl} {A Ab : Option Addr} {c cb : Nat} {z y : Int} {q : Nat} (hS : Sv w L A c z V) (hF : Fls V V.heap.size Ab M) (hA : Arr V q 37 dkZero) (hq : w.heap.size + 1 < q) (W' : World) (e : W' = (V.setCell ⟨q, 0, none⟩ (.slice Ab M.length cb)).setCell ⟨q, 1, none⟩ (.int .i64 y)) : Xv w M Ab cb y q W' := by
  subst e
  have k : V.grownBy ((V.setCell ⟨q, 0, none⟩ (.slice Ab M.length cb)).setCell ⟨q, 1, none⟩ (.int .i64 y)) (some q) := gb_trans (gb_set _ _ _) (gb_set _ _ _)
  refine ⟨(hA.put 0 (.slice Ab M.length cb)).put 1 (.int .i64 y), hS.2.1.kept k (fun e => by cases e; omega), fun k' x hx => ?_, below_gb hS.2.2.2 k (by omega) hS.2.2.2.size⟩
  obtain ⟨ad, e, hbk, h0, h1, h2⟩ := hF k' x hx
  have hn : ¬ some (ad.add (k' * 3)).block = some q := fun e => by
    rw [Option.some.inj e, hA.cell] at h1
    exact dkZero_no _ _ h1
  exact ⟨ad, e, Nat.lt_of_lt_of_le hbk k.size, k.cell h0 hn, k.cell h1 hn, k.cell h2 hn⟩
set_option maxRecDepth 100000 in
set_option maxHeartbeats 2000000 in
theorem Put_st (L : List Fl) (s : ByteArray) (hs : s.size ≤ 140737488355328) (A : Option Addr) (c : Nat) (z : Int) (w : World) (hP : Fls w w.heap.size A L) (hz : Sized L) (hl : L.length ≤ 140737488355328) (hc : L.length ≤ c) (hzf : z ≤ 9223372036854775807) (ht : Tab w) :
    Calls Tryz.prog 30 #[.agg #[.slice A L.length c, .int .i64 z], .string s] w (PutEnd w (putO ⟨L, z⟩ s)) := by
  have b0 : Below w.heap.size w ((w.alloc (.cells (dkArr L A c z) 37)).alloc (.cells dkZero 37)) := ((Below.refl _ _).alloc (Nat.le_refl _) _).alloc (by simp) _
  have h0 : Hid (Sv w L A c z ((w.alloc (.cells (dkArr L A c z) 37)).alloc (.cells dkZero 37))) := ⟨(Arr.new _ _ _).alloc _, Arr.new_at _ _ _ (by simp), hP.up b0, b0⟩
  have HRet : Hid (∀ (W : World) (a : Act) (d : Dk) (A' : Option Addr) (c' : Nat) (i : ByteArray) (e : Int), Arr W (w.heap.size + 1) 37 (dkArr d.files A' c' d.fuse) → Below w.heap.size w W → Fls W W.heap.size A' d.files → d.files.length ≤ c' → a.tmps[4]? = some (.pointer (some ⟨w.heap.size + 1, 0, none⟩)) → a.tmps[5]? = some (.string i) → a.tmps[6]? = some (.int .i64 e) → a.defers = [] → bodyPost Tryz.prog Tryz.f30 (PutEnd w (d, i, e)) .ret a W) := fun W a d A' c' i e h1 h2 h3 h4 h5 h6 h8 h7 => by
    refine bodyPost_ret (v := .tuple #[.agg (dkArr d.files A' c' d.fuse), .string i, .int .i64 e]) ?_ h7 ⟨A', c', rfl, h3, h4, h2⟩
    rw [results_cell_tmp_tmp Tryz.results30]
    have hld := run_loadVar_row (P := Tryz.prog) _ _ _ 37 _ _ _ h1 Tryz.underlying37 rfl (dkInfo _ _ _ _)
    simp [Array.getD_eq_getD_getElem?, h5, h6, h8, asAddr, hld, Result.andThen]
  have HQ0 : Hid (putO ⟨L, z⟩ s = if (decO s.data.toList).2 ≠ 0 then (⟨L, z⟩, ⟨#[]⟩, (decO s.data.toList).2) else if hasO ⟨L, z⟩ (sumB s) = true then (⟨L, z⟩, sumB s, 0) else
    if (saveD ⟨L, z⟩ (fileN (sumB s)) s).2 ≠ 0 then ((saveD ⟨L, z⟩ (fileN (sumB s)) s).1, ⟨#[]⟩, (saveD ⟨L, z⟩ (fileN (sumB s)) s).2) else ((saveD ⟨L, z⟩ (fileN (sumB s)) s).1, sumB s, 0)) := rfl
  have CD := fun V => Lib.hid (Decode_any s V)
  have CI : ∀ V, Tab V → Hid (Calls Tryz.prog 52 #[.string s] V fun x w' => x = .returned (.string (sumB s)) ∧ Below V.heap.size V w') := fun V h => Id_any s (by omega) V h
  have CH := fun V a b => Lib.hid (has_st L (sumB s) A c z V a hz hl b)
  have CN := fun V => Lib.hid (fileName_st (sumB s) (sumB_size s) V)
  have CX := fun V h => Lib.hid (Save_any L (fileN (sumB s)) s (by rw [fileN_size (sumB_size s)]; omega) hs A c z V h hz hl hc hzf)
  generalize putO ⟨L, z⟩ s = Q at *
  generalize fileN (sumB s) = F at *
  generalize hasO ⟨L, z⟩ (sumB s) = H at *
  generalize saveD ⟨L, z⟩ F s = R at *
  generalize sumB s = I at *
  obtain ⟨⟨M, y⟩, g⟩ := R
  generalize decO s.data.toList = D at *
  obtain ⟨o, e⟩ := D
  have HQ : Hid (Q = if e ≠ 0 then (⟨L, z⟩, ⟨#[]⟩, e) else if H = true then (⟨L, z⟩, I, 0) else if g ≠ 0 then (⟨M, y⟩, ⟨#[]⟩, g) else (⟨M, y⟩, I, 0)) := HQ0
  clear HQ0
  go_enter Tryz.func30, Tryz.ntmps30
  go_upto_region 1 with fail
  refine wp_forget (Sv w L A c z) (by exact h0.out) ?_
  clear h0 b0
  intro V S
  have C1 : Hid (Calls Tryz.prog 41 #[.string s] V (DEnd V o e)) := CD V
  clear CD
  go_wp2_with fail
  (with_reducible refine C1.out.mono ?_)
  clear C1
  rintro _ V2 ⟨p, rfl, hO, b2⟩
  replace S := S.below b2
  clear b2 hO
  have S2 : Sv w L A c z ((V2.alloc (.cells zeroO 53)).setRow V2.heap.size (obArr o p)) := S.below (below_setRow ((Below.refl _ _).alloc (Nat.le_refl _) _) (Nat.le_refl _) _)
  go_upto_region 2 with (refine wpList_store_row rfl 53 _ _ rfl V2.heap.size (obArr o p) rfl rfl 53 zeroO (Arr.new V2 _ _) (obInfo _ _) rfl (obArr_one _ _) ?_)
  refine wp_forget (Sv w L A c z) (by exact S2) ?_
  clear S2 S V
  generalize V2.heap.size = qo
  clear V2
  intro V S
  have c0 : V.cell? ⟨w.heap.size, 0, none⟩ = some (.slice A L.length c) := S.1.cell 0
  have c1 : V.cell? ⟨w.heap.size, 1, none⟩ = some (.int .i64 z) := S.1.cell 1
  by_cases he : e = 0
  case neg =>
    have hb : (e != 0) = true := by rw [bne_iff_ne]; exact he
    have HR : Hid (Q = (⟨L, z⟩, ⟨#[]⟩, e)) := by show _ = _; rw [HQ.out, if_pos he]
    clear HQ he
    go_wp2_with (refine wpList_store_row rfl 37 _ _ rfl (w.heap.size + 1) (dkArr L A c z) rfl rfl 37 dkZero S.2.1 (dkInfo _ _ _ _) rfl (dkArr_one _ _ _ _) ?_)
    rw [HR.out]
    exact HRet.out _ _ ⟨L, z⟩ A c ⟨#[]⟩ e (S.2.1.row _) (below_setRow S.2.2.2 (by omega) _) (S.2.2.1.row S.2.1 _) hc rfl rfl rfl rfl
  subst he
  replace HQ : Hid (Q = if H = true then (⟨L, z⟩, I, 0) else if g ≠ 0 then (⟨M, y⟩, ⟨#[]⟩, g) else (⟨M, y⟩, I, 0)) := by show _ = _; rw [HQ.out, if_neg (fun h => h rfl)]
  have C1 := CI V (ht.below S.2.2.2 ht.1)
  clear CI c0 c1
  go_wp2_with fail
  (with_reducible refine C1.out.mono ?_)
  clear C1
  rintro _ V2 ⟨rfl, b2⟩
  replace S := S.below b2
  clear b2
  have c0 : V2.cell? ⟨w.heap.size, 0, none⟩ = some (.slice A L.length c) := S.1.cell 0
  have c1 : V2.cell? ⟨w.heap.size, 1, none⟩ = some (.int .i64 z) := S.1.cell 1
  have C1 := CH V2 S.2.2.1 (ht.below S.2.2.2 ht.1)
  clear CH
  go_wp2_with fail
  (with_reducible refine C1.out.mono ?_)
  clear C1 c0 c1
  rintro _ V3 ⟨rfl, b2⟩
  replace S := S.below b2
  clear b2 V V2
  have c0 : V3.cell? ⟨w.heap.size, 0, none⟩ = some (.slice A L.length c) := S.1.cell 0
  have c1 : V3.cell? ⟨w.heap.size, 1, none⟩ = some (.int .i64 z) := S.1.cell 1
  cases H with
  | true =>
    have HR : Hid (Q = (⟨L, z⟩, I, 0)) := by show _ = _; rw [HQ.out, if_pos rfl]
    clear HQ
    go_wp2_with (refine wpList_store_row rfl 37 _ _ rfl (w.heap.size + 1) (dkArr L A c z) rfl rfl 37 dkZero S.2.1 (dkInfo _ _ _ _) rfl (dkArr_one _ _ _ _) ?_)
    rw [HR.out]
    exact HRet.out _ _ ⟨L, z⟩ A c I 0 (S.2.1.row _) (below_setRow S.2.2.2 (by omega) _) (S.2.2.1.row S.2.1 _) hc rfl rfl rfl rfl
  | false =>
  replace HQ : Hid (Q = if g ≠ 0 then (⟨M, y⟩, ⟨#[]⟩, g) else (⟨M, y⟩, I, 0)) := by show _ = _; rw [HQ.out, if_neg (by simp)]
  have hq3 : w.heap.size + 1 < V3.heap.size := S.2.1.lt
  have Sd : Sv w L A c z V3.drew := S.below (below_drewN (Below.refl _ _) 1)
  have be : Below V3.heap.size V3 (V3.alloc (.cells dkZero 37)).drew := ((Below.refl _ V3).alloc (Nat.le_refl _) _).drew
  have Se : Sv w L A c z (V3.alloc (.cells dkZero 37)).drew := S.below be
  have AE : Arr (V3.alloc (.cells dkZero 37)).drew V3.heap.size 37 dkZero := (Arr.new _ _ _).drew
  have CNd := CN V3.drew
  have CNe := CN (V3.alloc (.cells dkZero 37)).drew
  replace CX : ∀ V, Fls V V.heap.size A L → Hid (Calls Tryz.prog 54 #[.agg #[.slice A L.length c, .int .i64 z], .string F, .string s] V (StEnd V (⟨M, y⟩, g))) := CX
  have d0 : V3.drew.cell? ⟨w.heap.size, 0, none⟩ = some (.slice A L.length c) := Sd.1.cell 0
  have d1 : V3.drew.cell? ⟨w.heap.size, 1, none⟩ = some (.int .i64 z) := Sd.1.cell 1
  have e0 : (V3.alloc (.cells dkZero 37)).drew.cell? ⟨w.heap.size, 0, none⟩ = some (.slice A L.length c) := Se.1.cell 0
  have e1 : (V3.alloc (.cells dkZero 37)).drew.cell? ⟨w.heap.size, 1, none⟩ = some (.int .i64 z) := Se.1.cell 1
  unfold dkZero at CNe e0 e1
  clear c0 c1 CN be
  go_upto_region 7 with fail
  go_region_law (first
    | (go_simp; go_at_call 55; (with_reducible refine CNd.out.mono ?_); rintro _ V4 ⟨rfl, b4⟩
       have S4 := Sd.below b4
       have x0 : V4.cell? ⟨w.heap.size, 0, none⟩ = some (.slice A L.length c) := S4.1.cell 0
       have x1 : V4.cell? ⟨w.heap.size, 1, none⟩ = some (.int .i64 z) := S4.1.cell 1
       have CX4 := CX V4 S4.2.2.1
       have Sf : Sv w L A c z (V4.alloc (.cells dkZero 37)) := S4.below ((Below.refl _ _).alloc (Nat.le_refl _) _)
       have AF : Arr (V4.alloc (.cells dkZero 37)) V4.heap.size 37 dkZero := Arr.new _ _ _
       have y0 : (V4.alloc (.cells dkZero 37)).cell? ⟨w.heap.size, 0, none⟩ = some (.slice A L.length c) := Sf.1.cell 0
       have y1 : (V4.alloc (.cells dkZero 37)).cell? ⟨w.heap.size, 1, none⟩ = some (.int .i64 z) := Sf.1.cell 1
       have CXf := CX (V4.alloc (.cells dkZero 37)) Sf.2.2.1
       have hq4 : w.heap.size + 1 < V4.heap.size := S4.2.1.lt
       unfold dkZero at y0 y1 CXf)
    | (go_simp; go_at_call 55; (with_reducible refine CNe.out.mono ?_); rintro _ V5 ⟨rfl, b5⟩
       have S5 := Se.below b5
       have AE5 := AE.below b5 AE.lt
       have x0 : V5.cell? ⟨w.heap.size, 0, none⟩ = some (.slice A L.length c) := S5.1.cell 0
       have x1 : V5.cell? ⟨w.heap.size, 1, none⟩ = some (.int .i64 z) := S5.1.cell 1
       have CX5 := CX V5 S5.2.2.1)
    | (go_simp; go_at_call 54; (with_reducible refine CX4.out.mono ?_); rintro _ V6 ⟨Ab, cb, rfl, hFb, hcb, b6⟩
       have HF : Hid (∀ W', W' = V6.alloc (.cells #[.slice Ab M.length cb, .int .i64 y] 37) → Xv w M Ab cb y V6.heap.size W') := put_late (S4.below b6) hFb
       simp only [dkArr])
    | (go_simp; go_at_call 54; (with_reducible refine CXf.out.mono ?_); rintro _ V6 ⟨Ab, cb, rfl, hFb, hcb, b6⟩
       have AF6 := AF.below b6 AF.lt
       have HF : Hid (∀ W', W' = (V6.setCell ⟨V4.heap.size, 0, none⟩ (.slice Ab M.length cb)).setCell ⟨V4.heap.size, 1, none⟩ (.int .i64 y) → Xv w M Ab cb y V4.heap.size W') := put_early (Sf.below b6) hFb AF6 hq4
       have z0 : V6.cell? ⟨V4.heap.size, 0, none⟩ = some (.slice none 0 0) := AF6.cell 0
       have z1 := AF6.free 0
       have AG := AF6.put 0 (.slice Ab M.length cb)
       have z2 : (V6.setCell ⟨V4.heap.size, 0, none⟩ (.slice Ab M.length cb)).cell? ⟨V4.heap.size, 1, none⟩ = some (.int .i64 0) := AG.cell 1
       have z3 := AG.free 1
       simp only [dkArr])
    | (go_simp; go_at_call 54; (with_reducible refine CX5.out.mono ?_); rintro _ V6 ⟨Ab, cb, rfl, hFb, hcb, b6⟩
       have AE6 := AE5.below b6 AE5.lt
       have HF : Hid (∀ W', W' = (V6.setCell ⟨V3.heap.size, 0, none⟩ (.slice Ab M.length cb)).setCell ⟨V3.heap.size, 1, none⟩ (.int .i64 y) → Xv w M Ab cb y V3.heap.size W') := put_early (S5.below b6) hFb AE6 hq3
       have z0 : V6.cell? ⟨V3.heap.size, 0, none⟩ = some (.slice none 0 0) := AE6.cell 0
       have z1 := AE6.free 0
       have AG := AE6.put 0 (.slice Ab M.length cb)
       have z2 : (V6.setCell ⟨V3.heap.size, 0, none⟩ (.slice Ab M.length cb)).cell? ⟨V3.heap.size, 1, none⟩ = some (.int .i64 0) := AG.cell 1
       have z3 := AG.free 1
       simp only [dkArr]))
  all_goals
    go_upto_region 8 with fail
    first
      | (refine wp_forget (Xv w M Ab cb y V6.heap.size) (by exact HF.out _ rfl) ?_
         generalize V6.heap.size = qb)
      | (refine wp_forget (Xv w M Ab cb y V4.heap.size) (by exact HF.out _ rfl) ?_
         generalize V4.heap.size = qb)
      | (refine wp_forget (Xv w M Ab cb y V3.heap.size) (by exact HF.out _ rfl) ?_
         generalize V3.heap.size = qb)
    intro V8 hX
    have g0 : V8.cell? ⟨qb, 0, none⟩ = some (.slice Ab M.length cb) := hX.1.cell 0
    have g1 : V8.cell? ⟨qb, 1, none⟩ = some (.int .i64 y) := hX.1.cell 1
    by_cases hg : g = 0
    · have HR : Hid (Q = (⟨M, y⟩, I, 0)) := by show _ = _; rw [HQ.out, if_neg (fun h => h hg)]
      subst hg
      go_wp2_with (refine wpList_store_row rfl 37 _ _ rfl (w.heap.size + 1) (dkArr M Ab cb y) rfl rfl 37 dkZero hX.2.1 (dkInfo _ _ _ _) rfl (dkArr_one _ _ _ _) ?_)
      rw [HR.out]
      exact HRet.out _ _ ⟨M, y⟩ Ab cb I 0 (hX.2.1.row _) (below_setRow hX.2.2.2 (by omega) _) (hX.2.2.1.row hX.2.1 _) hcb rfl rfl rfl rfl
    · have HR : Hid (Q = (⟨M, y⟩, ⟨#[]⟩, g)) := by show _ = _; rw [HQ.out, if_pos hg]
      have hgb : (g != 0) = true := by rw [bne_iff_ne]; exact hg
      go_wp2_with (refine wpList_store_row rfl 37 _ _ rfl (w.heap.size + 1) (dkArr M Ab cb y) rfl rfl 37 dkZero hX.2.1 (dkInfo _ _ _ _) rfl (dkArr_one _ _ _ _) ?_)
      rw [HR.out]
      exact HRet.out _ _ ⟨M, y⟩ Ab cb ⟨#[]⟩ g (hX.2.1.row _) (below_setRow hX.2.2.2 (by omega) _) (hX.2.2.1.row hX.2.1 _) hcb rfl rfl rfl rfl
end Go.Proofs.YtmikfmcgddmplaaGreatDoor

/- Put and Get, again and behind a crash: plain mathematics. -/
namespace Go.Proofs.YtmikfmcgddmplaaGreatDoor
open Go.RowKit

/-- a save that says yes: the file lies there, all of it safe -/
theorem save_yes {L : List Fl} {n s : ByteArray} {z : Int} (h : (saveD ⟨L, z⟩ n s).2 = 0) : goodD (saveD ⟨L, z⟩ n s).1.files = true ∧ getF n (saveD ⟨L, z⟩ n s).1.files = some ⟨n, s, ⟨#[]⟩⟩ := by
  have hnf : n ≠ newN n := fun e => new_ne n e.symm
  have hG : goodD L = true := by
    cases hG : goodD L with
    | true => rfl
    | false => unfold saveD at h; rw [hG] at h; simp at h
  unfold saveD at h ⊢
  simp only [hG, Bool.not_true, Bool.false_eq_true, if_false] at h ⊢
  by_cases hN : (!named n || !named (newN n)) = true
  · rw [if_pos hN] at h; simp at h
  rw [if_neg hN] at h ⊢
  obtain ⟨r0, hr0⟩ : ∃ r0, r0 = (if (getF (newN n) L).isSome = true then stepP ⟨L, z⟩ (rmP L (newN n)) else (⟨L, z⟩, 0)) := ⟨_, rfl⟩
  rw [← hr0] at h ⊢
  have K0 : Keep n ⟨L, z⟩ r0.1 := by
    rw [hr0]
    split
    · exact rm_keep hG hnf
    · exact keep_refl hG
  by_cases e0 : r0.2 = 0
  case neg => rw [then_err e0, then_err e0, then_err e0] at h; exact absurd h e0
  have N0 : getF (newN n) r0.1.files = none := by
    rw [hr0] at e0 ⊢
    split
    · rename_i hs
      rw [if_pos hs] at e0
      obtain ⟨_, _, L1, h1, h2⟩ := step_yes rm_err e0
      rw [h2]
      obtain ⟨rfl, _⟩ := rm_ok hG h1
      rw [getF_del, if_pos rfl]
    · rename_i hs
      cases hg : getF (newN n) L with
      | none => rfl
      | some f => rw [hg] at hs; simp at hs
  rw [then_ok e0] at h ⊢
  obtain ⟨d0, _⟩ := r0
  simp only at K0 N0 h ⊢
  clear hr0 e0
  obtain ⟨r1, hr1⟩ : ∃ r1, r1 = stepP d0 (wrP d0.files (newN n) s) := ⟨_, rfl⟩
  rw [← hr1] at h ⊢
  have K1 : Keep n ⟨L, z⟩ r1.1 := by rw [hr1]; exact keep_trans K0 (wr_keep K0.1 hnf)
  by_cases e1 : r1.2 = 0
  case neg => rw [then_err e1, then_err e1] at h; exact absurd h e1
  have N1 : getF (newN n) r1.1.files = some ⟨newN n, ⟨#[]⟩, s⟩ := by
    rw [hr1] at e1 ⊢
    obtain ⟨_, _, L1, h1, h2⟩ := step_yes wr_err e1
    rw [h2]
    obtain ⟨_, ⟨f, hf, rfl⟩, _⟩ := wr_ok K0.1 h1
    rcases hf with hf | ⟨_, rfl⟩
    · rw [N0] at hf; cases hf
    · rw [getF_put _ _ _ _ ((goodD_iff _).1 K0.1).2.1, if_pos rfl, empty_append]
  rw [then_ok e1] at h ⊢
  obtain ⟨d1, _⟩ := r1
  simp only at K1 N1 h ⊢
  clear hr1 e1
  obtain ⟨r2, hr2⟩ : ∃ r2, r2 = stepP d1 (syP d1.files (newN n)) := ⟨_, rfl⟩
  rw [← hr2] at h ⊢
  have K2 : Keep n ⟨L, z⟩ r2.1 := by rw [hr2]; exact keep_trans K1 (sy_keep K1.1 hnf)
  by_cases e2 : r2.2 = 0
  case neg => rw [then_err e2] at h; exact absurd h e2
  have N2 : getF (newN n) r2.1.files = some ⟨newN n, s, ⟨#[]⟩⟩ := by
    rw [hr2] at e2 ⊢
    obtain ⟨_, _, L1, h1, h2⟩ := step_yes sy_err e2
    rw [h2]
    obtain ⟨f, hf, rfl, _⟩ := sy_ok K1.1 h1
    rw [N1] at hf
    cases hf
    rw [getF_put _ _ _ _ ((goodD_iff _).1 K1.1).2.1, if_pos rfl]
    show some (⟨newN n, (⟨#[]⟩ : ByteArray) ++ s, ⟨#[]⟩⟩ : Fl) = _
    rw [empty_append]
  rw [then_ok e2] at h ⊢
  obtain ⟨d2, _⟩ := r2
  simp only at K2 N2 h ⊢
  clear hr2 e2
  obtain ⟨_, _, L3, h1, h2⟩ := step_yes rn_err h
  obtain ⟨f, k1, k2, _, k4⟩ := rn_ok K2.1 h1
  rw [N2] at k1
  cases k1
  rw [h2]
  exact ⟨k4, k2⟩
theorem step_fuse {d : Dk} {r : Except Int (List Fl)} : (stepP d r).1.fuse ≤ d.fuse := by
  unfold stepP burnt
  split
  · exact Int.le_refl _
  · split
    · exact Int.le_refl _
    · cases r with
      | error e => exact Int.le_refl _
      | ok L =>
        show (if 0 < d.fuse then d.fuse - 1 else d.fuse) ≤ d.fuse
        split <;> omega
theorem then_fuse {d : Dk} {r : Dk × Int} {f : Dk → Dk × Int} (h : r.1.fuse ≤ d.fuse) (k : ∀ x : Dk, (f x).1.fuse ≤ x.fuse) : (thenD r f).1.fuse ≤ d.fuse := by
  unfold thenD
  split
  · exact h
  · exact Int.le_trans (k _) h
theorem save_fuse {d : Dk} {n s : ByteArray} : (saveD d n s).1.fuse ≤ d.fuse := by
  unfold saveD
  split
  · exact Int.le_refl _
  · split
    · exact Int.le_refl _
    · refine then_fuse (then_fuse (then_fuse ?_ fun _ => step_fuse) fun _ => step_fuse) fun _ => step_fuse
      split
      · exact step_fuse
      · exact Int.le_refl _
theorem put_fuse {d : Dk} {s : ByteArray} : (putO d s).1.fuse ≤ d.fuse := by
  unfold putO
  split
  · exact Int.le_refl _
  · split
    · exact Int.le_refl _
    · split <;> exact save_fuse
theorem putO_no {d : Dk} {s : ByteArray} (h : (putO d s).2.2 ≠ 0) : (putO d s).2.1 = ⟨#[]⟩ := by
  unfold putO at h ⊢
  split
  · rfl
  · rename_i h1
    rw [if_neg h1] at h
    split
    · rename_i h2
      rw [if_pos h2] at h
      exact absurd rfl h
    · rename_i h2
      rw [if_neg h2] at h
      split
      · rfl
      · rename_i h3
        rw [if_neg h3] at h
        exact absurd rfl h
theorem getO_size (d : Dk) (id : ByteArray) : (getO d id).1.size ≤ 1048576 := by
  unfold getO tellR
  have := readD_size d (fileN id)
  split
  · exact Nat.zero_le _
  · split
    · exact Nat.zero_le _
    · split
      · exact Nat.zero_le _
      · exact this
/-- what Get tells of a disk on which the file lies -/
theorem getO_at {d : Dk} {id t : ByteArray} (hi : id.size = 32) (hr : readD d (fileN id) = (t, 0)) (hs : sumB t = id) : getO d id = (t, 0) := by
  unfold getO tellR
  rw [if_neg (fun h => h hi), hr]
  simp [hs]
theorem getO_ok {d : Dk} {id : ByteArray} (h : (getO d id).2 = 0) : id.size = 32 ∧ readD d (fileN id) = ((getO d id).1, 0) ∧ sumB (getO d id).1 = id := by
  unfold getO tellR at h ⊢
  by_cases h1 : id.size = 32
  case neg => rw [if_pos h1] at h; simp at h
  rw [if_neg (fun q => q h1)] at h ⊢
  by_cases h2 : (readD d (fileN id)).2 = 0
  case neg => rw [if_pos h2] at h; exact absurd h h2
  rw [if_neg (fun q => q h2)] at h ⊢
  by_cases h3 : sumB (readD d (fileN id)).1 = id
  case neg => rw [if_pos h3] at h; simp at h
  rw [if_neg (fun q => q h3)]
  exact ⟨h1, Prod.ext rfl h2, h3⟩
theorem readD_good {d : Dk} {n : ByteArray} (h : (readD d n).2 = 0) : goodD d.files = true := by
  cases hG : goodD d.files with
  | true => rfl
  | false => unfold readD at h; rw [hG] at h; simp at h
theorem hasO_ok {d : Dk} {id : ByteArray} (h : hasO d id = true) : (getO d id).2 = 0 ∧ (decO (getO d id).1.data.toList).2 = 0 := by
  unfold hasO loadR at h
  have h := of_decide_eq_true h
  by_cases h1 : (getO d id).2 = 0
  case neg => rw [if_pos h1] at h; simp at h
  rw [if_neg (fun q => q h1)] at h
  by_cases h2 : (decO (getO d id).1.data.toList).2 = 0
  case neg => rw [if_pos h2] at h; simp at h
  exact ⟨h1, h2⟩
theorem hasO_of {d : Dk} {id t : ByteArray} (h : getO d id = (t, 0)) (hd : (decO t.data.toList).2 = 0) : hasO d id = true := by
  unfold hasO loadR
  rw [h]
  simp [hd]
/-- a Put that says yes -/
theorem putO_yes {d : Dk} {s : ByteArray} (h : (putO d s).2.2 = 0) : (decO s.data.toList).2 = 0 ∧ (putO d s).2.1 = sumB s ∧ goodD (putO d s).1.files = true ∧
    ((hasO d (sumB s) = true ∧ (putO d s).1 = d) ∨ (getF (fileN (sumB s)) (putO d s).1.files = some ⟨fileN (sumB s), s, ⟨#[]⟩⟩)) := by
  unfold putO at h ⊢
  by_cases h1 : (decO s.data.toList).2 = 0
  case neg => rw [if_pos h1] at h; exact absurd h h1
  rw [if_neg (fun q => q h1)] at h ⊢
  by_cases h2 : hasO d (sumB s) = true
  · rw [if_pos h2] at h ⊢
    have hr := (getO_ok (hasO_ok h2).1).2.1
    exact ⟨h1, rfl, readD_good (n := fileN (sumB s)) (by rw [hr]), .inl ⟨h2, rfl⟩⟩
  rw [if_neg h2] at h ⊢
  by_cases h3 : (saveD d (fileN (sumB s)) s).2 = 0
  case neg => rw [if_pos h3] at h; exact absurd h h3
  rw [if_neg (fun q => q h3)]
  obtain ⟨L, z⟩ := d
  obtain ⟨k1, k2⟩ := save_yes h3
  exact ⟨h1, rfl, k1, .inr k2⟩
/-- what a Put that says yes has left -/
theorem put_back {d : Dk} {s : ByteArray} (k : Nat) (h : (putO d s).2.2 = 0) :
    putO (putO d s).1 s = ((putO d s).1, sumB s, 0) ∧ (getO (putO d s).1 (sumB s)).2 = 0 ∧ sumB (getO (putO d s).1 (sumB s)).1 = sumB s ∧
    ((getO (putO d s).1 (sumB s)).1 ≠ s → (getO d (sumB s)).2 = 0) ∧
    ((getO d (sumB s)).2 = 0 ∨ getO ⟨(putO d s).1.files.map (crashF k), -1⟩ (sumB s) = (s, 0)) := by
  obtain ⟨h1, _, hG, h2⟩ := putO_yes h
  generalize (putO d s).1 = a at *
  have again : hasO a (sumB s) = true → putO a s = (a, sumB s, 0) := fun hh => by
    unfold putO
    rw [if_neg (fun q => q h1), if_pos hh]
  rcases h2 with ⟨h2, rfl⟩ | h2
  · obtain ⟨k1, _⟩ := hasO_ok h2
    exact ⟨again h2, k1, (getO_ok k1).2.2, fun _ => k1, .inl k1⟩
  · have hr : readD a (fileN (sumB s)) = (s, 0) := by
      unfold readD
      rw [hG, h2]
      simp only [Bool.not_true, Bool.false_eq_true, if_false]
      rw [app_none]
    have hg : getO a (sumB s) = (s, 0) := getO_at (sumB_size s) hr rfl
    have hb : readD ⟨a.files.map (crashF k), -1⟩ (fileN (sumB s)) = (s, 0) := by
      unfold readD
      simp only [good_crash hG k, get_crash, h2, Option.map_some]
      rw [crash_still (f := ⟨fileN (sumB s), s, ⟨#[]⟩⟩) rfl k]
      simp only [Bool.not_true, Bool.false_eq_true, if_false]
      rw [app_none]
    refine ⟨again (hasO_of hg h1), by rw [hg], by rw [hg], fun q => absurd (by rw [hg]) q, .inr (getO_at (sumB_size s) hb rfl)⟩
def aaT : ByteArray := ⟨#[1, 1, 97]⟩
theorem stores_put : putO ⟨[], -1⟩ aaT = (⟨[⟨fileN (sumB aaT), aaT, ⟨#[]⟩⟩], -1⟩, sumB aaT, 0) := by decide +kernel
theorem stores_get : getO ⟨[⟨fileN (sumB aaT), aaT, ⟨#[]⟩⟩], -1⟩ (sumB aaT) = (aaT, 0) := by decide +kernel
end Go.Proofs.YtmikfmcgddmplaaGreatDoor

/- law.stores: the walk. Made by gensto.py out of StBack's text. -/
namespace Go.Proofs.YtmikfmcgddmplaaGreatDoor
open Go.RowKit

set_option maxRecDepth 100000 in
set_option maxHeartbeats 1000000 in
theorem stores_law (w : World) (ht : Tab w) : Calls Tryz.prog 12 #[] w fun e w' => e = .returned (.bool true) ∧ Below w.heap.size w w' := by
  have C1 : Hid (Calls Tryz.prog 30 #[.agg #[.slice none 0 0, .int .i64 (-1)], .string ⟨#[1, 1, 97]⟩] w (PutEnd w (⟨[⟨fileN (sumB aaT), aaT, ⟨#[]⟩⟩], -1⟩, sumB aaT, 0))) := by
    have := Put_st [] aaT (by decide) none 0 (-1) w (Fls.nil _ _ _) (fun f hf => by cases hf) (by simp) (by simp) (by decide) ht
    rw [stores_put] at this
    exact this
  have hG : goodD [⟨fileN (sumB aaT), aaT, ⟨#[]⟩⟩] = true := readD_good (d := ⟨[⟨fileN (sumB aaT), aaT, ⟨#[]⟩⟩], -1⟩) (n := fileN (sumB aaT)) (by have := (getO_ok (d := ⟨[⟨fileN (sumB aaT), aaT, ⟨#[]⟩⟩], -1⟩) (id := sumB aaT) (by rw [stores_get])).2.1; rw [this])
  have C2 : ∀ (V : World) (A : Option Addr) (c : Nat), Fls V V.heap.size A [⟨fileN (sumB aaT), aaT, ⟨#[]⟩⟩] → Tab V → Hid (Calls Tryz.prog 31 #[.agg #[.slice A 1 c, .int .i64 (-1)], .string (sumB aaT)] V fun e w' => e = .returned (.tuple #[.string ⟨#[1, 1, 97]⟩, .int .i64 0]) ∧ Below V.heap.size V w') := fun V A c h t => by
    have := Get_st [⟨fileN (sumB aaT), aaT, ⟨#[]⟩⟩] (sumB aaT) A c (-1) V h (good_sized hG).1 (by simp) t
    rw [stores_get] at this
    exact this
  clear hG
  generalize hLL : [(⟨fileN (sumB aaT), aaT, ⟨#[]⟩⟩ : Fl)] = LL at *
  have hl1 : LL.length = 1 := by rw [← hLL]; rfl
  have HL1 := Lib.hid hl1
  clear hLL hl1
  generalize sumB aaT = I at *
  go_enter Tryz.func12, Tryz.ntmps12
  go_wp2_with fail
  (with_reducible refine C1.out.mono ?_)
  clear C1
  rintro _ V ⟨A, c, rfl, hF, _, b1⟩
  simp only at hF ⊢
  have b2 : Below w.heap.size w ((V.alloc (.cells dkZero 37)).setRow V.heap.size (dkArr LL A c (-1))) := b1.trans ((below_setRow ((Below.refl _ _).alloc (Nat.le_refl _) _) (Nat.le_refl _) _).mono b1.size)
  have bb : Below V.heap.size V ((V.alloc (.cells dkZero 37)).setRow V.heap.size (dkArr LL A c (-1))) := below_setRow ((Below.refl _ _).alloc (Nat.le_refl _) _) (Nat.le_refl _) _
  have AX : Arr ((V.alloc (.cells dkZero 37)).setRow V.heap.size (dkArr LL A c (-1))) V.heap.size 37 (dkArr LL A c (-1)) := (Arr.new _ _ _).row _
  go_upto_region 2 with (refine wpList_store_row rfl 37 _ _ rfl V.heap.size (dkArr LL A c (-1)) rfl rfl 37 dkZero (Arr.new V _ _) (dkInfo _ _ _ _) rfl (dkArr_one _ _ _ _) ?_)
  refine wp_forget (fun W => Arr W V.heap.size 37 (dkArr LL A c (-1)) ∧ Fls W W.heap.size A LL ∧ Below w.heap.size w W) (by exact ⟨AX, hF.up bb, b2⟩) ?_
  clear AX b2 b1 bb hF
  generalize V.heap.size = q
  rintro W ⟨AX, hF, b2⟩
  have c0 : W.cell? ⟨q, 0, none⟩ = some (.slice A 1 c) := by have := AX.cell 0; rw [this]; show some (Value.slice A LL.length c) = _; rw [HL1.out]
  have c1 : W.cell? ⟨q, 1, none⟩ = some (.int .i64 (-1)) := AX.cell 1
  have C3 := C2 W A c hF (ht.below b2 ht.1)
  clear C2
  go_wp2_with fail
  (with_reducible refine C3.out.mono ?_)
  rintro _ W1 ⟨rfl, b3⟩
  go_wp2_with fail
  go_ret
  exact ⟨rfl, b2.trans (b3.mono b2.size)⟩
end Go.Proofs.YtmikfmcgddmplaaGreatDoor

/- law.strings: its contract. -/
namespace Go.Proofs.YtmikfmcgddmplaaGreatDoor
open Go.RowKit

/-- a copy of a list of texts -/
def CpEnd (w : World) (T : List ByteArray) (x : Ending) (w' : World) : Prop := ∃ A c, x = .returned (.slice A T.length c) ∧ Txs w' w'.heap.size A T ∧ Below w.heap.size w w'
set_option maxRecDepth 100000 in
theorem strings_law (T : List ByteArray) (A : Option Addr) (c : Nat) (w : World) (hT : Txs w w.heap.size A T) (hl : T.length * 16 ≤ 140737488355328) :
    Calls Tryz.prog 7 #[.slice A T.length c] w (CpEnd w T) := by
  obtain ⟨si, hsi, sz0, sz1, sz2⟩ := info_parts info_str
  have Hsi := Lib.hid hsi
  have Sz0 := Lib.hid sz0
  have Sz1 := Lib.hid sz1
  have Sz2 := Lib.hid sz2
  clear hsi sz0 sz1 sz2
  go_enter Tryz.func7, Tryz.ntmps7
  go_wp2_with (at_builtin; refine wpList_app _ rfl _ _ 22 rfl w.heap.size 9 si _ 1 16 Tryz.underlying22 Hsi.out Sz0.out Sz1.out Sz2.out rfl (by decide) _ _ _ rfl (own_nil _ _ _ _) A T.length c (T.map sv) rfl (by rw [List.length_map]; omega) hT.news (sv_one _) (by unfold maxLen; omega) (by omega) (Nat.le_refl _) ?_)
  intro v1 w1 hown hgrow
  obtain ⟨A1, c1, rfl, _, hx, _⟩ := own_texts hown
  go_wp2_with fail
  go_ret
  exact ⟨A1, c1, rfl, hx, (Below.refl _ _).grown hgrow (Nat.le_refl _) (by intro k hk; cases hk)⟩
end Go.Proofs.YtmikfmcgddmplaaGreatDoor
