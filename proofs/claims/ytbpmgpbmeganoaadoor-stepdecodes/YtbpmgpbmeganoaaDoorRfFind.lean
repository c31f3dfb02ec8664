/- Texts in one: SpRdr, DkFind, RfFind. -/
import Derived.Test.YtbpmgpbmeganoaaDoorDSpec
import Derived.Test.YtbpmgpbmeganoaaDoorSpMem
import Derived.Test.YtbpmgpbmeganoaaDoorPRd
import Derived.Test.YtbpmgpbmeganoaaDoorDkMem
import Derived.Test.YtbpmgpbmeganoaaDoorDkGood
import Derived.Lib.Bytealg
import Derived.Laws.Externs
import Derived.Test.YtbpmgpbmeganoaaDoorRfMem
/- A reader by its states, whatever went wrong and of any length; step.readSeals: its contract. -/
namespace Go.Proofs.YtbpmgpbmeganoaaDoor
open Go.RowKit

def RG (w : World) (g : Nat) : St → Prop
  | some l => Rd w g (bs l) 0 ∧ l.length ≤ 140737488355328
  | none => ∃ s e, (e != 0) = true ∧ Rd w g s e
theorem RG.lt {w : World} {g : Nat} {st : St} (h : RG w g st) : g < w.heap.size := by
  cases st with
  | none => obtain ⟨s, e, _, h⟩ := h; exact Arr.lt h
  | some l => exact Arr.lt h.1
theorem RG.kept {w w' : World} {g : Nat} {st : St} {r : Option Nat} (h : RG w g st) (k : w.grownBy w' r) (hr : some g ≠ r) : RG w' g st := by
  cases st with
  | none => obtain ⟨s, e, he, h⟩ := h; exact ⟨s, e, he, Arr.kept h k hr⟩
  | some l => exact ⟨Arr.kept h.1 k hr, h.2⟩
theorem RG.below {w w' : World} {g : Nat} {st : St} (h : RG w g st) (b : Below w.heap.size w w') : RG w' g st := h.kept (r := none) (gb_below b) (fun e => by cases e)
def Rge (w : World) (g : Nat) (v : Value) (st : St) (x : Ending) (w' : World) : Prop := x = .returned v ∧ RG w' g st ∧ w.grownBy w' (some g)
theorem rg_num (g : Nat) (st : St) (w : World) (h : RG w g st) : Calls Tryd.prog 76 #[.pointer (some ⟨g, 0, none⟩)] w (Rge w g (.int .i64 ((stNum st).1 : Int)) (stNum st).2) := by
  cases st with
  | none =>
    obtain ⟨s, e, he, h⟩ := h
    exact (Number_bad g s e he w h).mono fun x w' ⟨h1, h2, h3⟩ => ⟨h1, ⟨s, e, he, h2⟩, h3⟩
  | some l =>
    obtain ⟨h, hl⟩ := h
    have hs : (bs l).size ≤ 281474976710656 := by rw [bs_size]; omega
    cases hg : got l with
    | none =>
      rw [show stNum (some l) = (0, none) from by simp [stNum, rdNum, hg]]
      exact (Number_go g (bs l) 0 0 2 (getIs_none _ hs (by rw [bs_list]; exact hg)) (by omega) w h).mono fun x w' ⟨h1, h2, h3⟩ => ⟨h1, ⟨_, 2, by decide, h2⟩, h3⟩
    | some y =>
      obtain ⟨n, k⟩ := y
      have hk := got_some _ _ _ hg
      rw [show stNum (some l) = (n, some (l.drop k)) from by simp [stNum, rdNum, hg]]
      refine (Number_go g (bs l) n k 0 (getIs_some _ hs n k (by rw [bs_list]; exact hg)) (by rw [bs_size]; exact hk.2.2.2.2) w h).mono fun x w' ⟨h1, h2, h3⟩ => ⟨h1, ⟨?_, by rw [List.length_drop]; omega⟩, h3⟩
      rw [bs_drop] at h2
      exact h2
theorem rg_id (g : Nat) (st : St) (w : World) (h : RG w g st) : Calls Tryd.prog 77 #[.pointer (some ⟨g, 0, none⟩), .int .i64 32] w (Rge w g (.string (stId st).1) (stId st).2) := by
  cases st with
  | none =>
    obtain ⟨s, e, he, h⟩ := h
    exact (Bytes_bad g s 32 e he w h).mono fun x w' ⟨h1, h2, h3⟩ => ⟨h1, ⟨s, e, he, h2⟩, h3⟩
  | some l =>
    obtain ⟨h, hl⟩ := h
    by_cases h5 : 32 ≤ l.length
    · rw [show stId (some l) = (bs (l.take 32), some (l.drop 32)) from by simp only [stId, rdId]; rw [if_pos h5]]
      refine (Bytes_go g (bs l) 32 (by rw [bs_size]; exact h5) w h).mono fun x w' ⟨h1, h2, h3⟩ => ⟨?_, ⟨?_, ?_⟩, h3⟩
      · rw [h1, bs_head]
      · rw [bs_drop] at h2; exact h2
      · rw [List.length_drop]; omega
    · rw [show stId (some l) = (⟨#[]⟩, none) from by simp only [stId, rdId]; rw [if_neg h5]]
      exact (Bytes_no g (bs l) 32 (.inr (by rw [bs_size]; omega)) w h).mono fun x w' ⟨h1, h2, h3⟩ => ⟨h1, ⟨_, 2, by decide, h2⟩, h3⟩
theorem rg_txt (g : Nat) (st : St) (w : World) (h : RG w g st) : Calls Tryd.prog 49 #[.pointer (some ⟨g, 0, none⟩)] w (Rge w g (.string (stTxt st).1) (stTxt st).2) := by
  cases st with
  | none =>
    obtain ⟨s, e, he, h⟩ := h
    exact (Text_bad g s e he w h).mono fun x w' ⟨h1, h2, h3⟩ => ⟨h1, ⟨s, e, he, h2⟩, h3⟩
  | some l =>
    obtain ⟨h, hl⟩ := h
    refine (rl_txt g l w ⟨h, by omega⟩).mono ?_
    rintro x w' ⟨h1, h2, h3⟩
    refine ⟨h1, ?_, h3⟩
    cases hq : (stTxt (some l)).2 with
    | none => rw [hq] at h2; exact h2
    | some r =>
      rw [hq] at h2
      refine ⟨h2.1, ?_⟩
      cases hr : rdText l with
      | none => rw [show stTxt (some l) = (⟨#[]⟩, none) from by simp [stTxt, hr]] at hq; cases hq
      | some y =>
        obtain ⟨t, r2⟩ := y
        rw [show stTxt (some l) = (t, some r2) from by simp [stTxt, hr]] at hq
        cases hq
        have := rdText_less hr
        omega
theorem rg_bad (g : Nat) (st : St) (w : World) (h : RG w g st) : Calls Tryd.prog 51 #[.pointer (some ⟨g, 0, none⟩)] w fun x w' => (∃ e : Int, x = .returned (.int .i64 e) ∧ (e != 0) = st.isNone) ∧ w = w' := by
  cases st with
  | none =>
    obtain ⟨s, e, he, h⟩ := h
    exact (Bad_any g s e w h).mono fun x w' ⟨h1, h2⟩ => ⟨⟨e, h1, he⟩, h2⟩
  | some l => exact (Bad_any g (bs l) 0 w h.1).mono fun x w' ⟨h1, h2⟩ => ⟨⟨0, h1, rfl⟩, h2⟩
theorem rg_left (g : Nat) (l : List UInt8) (w : World) (h : RG w g (some l)) : Calls Tryd.prog 52 #[.pointer (some ⟨g, 0, none⟩)] w fun x w' => x = .returned (.int .i64 (l.length : Int)) ∧ w = w' := by
  have q := Left_any g (bs l) 0 w h.1
  rw [bs_size] at q
  exact q
/-- the seals, by a reader's states -/
def stSgs : St → List Sg × St
  | none => ([], none)
  | some l => match rdNum l with
    | none => ([], none)
    | some (n, r) => match rdSgs n r with
      | none => ([], none)
      | some (L, r2) => (L, some r2)
def SsEnd (w : World) (g : Nat) (R : List Sg × St) (x : Ending) (w' : World) : Prop :=
  ∃ v v2, x = .returned (.tuple #[v, v2]) ∧ w'.ownsRow w.heap.size 3 1 v (R.1.map Prod.fst).length ((R.1.map Prod.fst).map iv) ∧ w'.ownsRow w.heap.size 9 1 v2 (R.1.map Prod.snd).length ((R.1.map Prod.snd).map sv) ∧ RG w' g R.2 ∧ w.grownBy w' (some g)
def RsRel (n : Nat) (l0 : List UInt8) (g : Nat) (w : World) (v v2 i : Value) (wr : World) : Prop :=
  ∃ (L : List Sg) (lc : List UInt8), L.length ≤ n ∧ i = .int .i64 (L.length : Int) ∧ RG wr g (some lc) ∧ wr.ownsRow w.heap.size 3 1 v (L.map Prod.fst).length ((L.map Prod.fst).map iv) ∧
    wr.ownsRow w.heap.size 9 1 v2 (L.map Prod.snd).length ((L.map Prod.snd).map sv) ∧ w.grownBy wr (some g) ∧ 33 * L.length + lc.length ≤ l0.length ∧
    rdSgs n l0 = (rdSgs (n - L.length) lc).map (fun y => (L ++ y.1, y.2))
section
variable {n : Nat} {l0 lc r r2 : List UInt8} {L : List Sg} {x : Nat} {t : ByteArray}
theorem sgs_bad (h : rdSgs n l0 = (rdSgs (n - L.length) lc).map (fun y => (L ++ y.1, y.2))) (hlt : L.length < n) (hr : rdNum lc = none) : rdSgs n l0 = none := by
  rw [h, show n - L.length = (n - L.length - 1) + 1 from by omega, rdSgs, hr]
  rfl
theorem sgs_bad2 (h : rdSgs n l0 = (rdSgs (n - L.length) lc).map (fun y => (L ++ y.1, y.2))) (hlt : L.length < n) (hr : rdNum lc = some (x, r)) (hr2 : rdId r = none) : rdSgs n l0 = none := by
  rw [h, show n - L.length = (n - L.length - 1) + 1 from by omega, rdSgs, hr]
  simp only
  rw [hr2]
  rfl
theorem sgs_more (h : rdSgs n l0 = (rdSgs (n - L.length) lc).map (fun y => (L ++ y.1, y.2))) (hlt : L.length < n) (hr : rdNum lc = some (x, r)) (hr2 : rdId r = some (t, r2)) :
    rdSgs n l0 = (rdSgs (n - (L ++ [((x : Int), t)]).length) r2).map (fun y => ((L ++ [((x : Int), t)]) ++ y.1, y.2)) := by
  rw [h, show n - L.length = (n - (L ++ [((x : Int), t)]).length) + 1 from by rw [List.length_append, List.length_singleton]; omega, rdSgs, hr]
  simp only
  rw [hr2]
  simp only
  cases rdSgs (n - (L ++ [((x : Int), t)]).length) r2 with
  | none => rfl
  | some y => simp
theorem sgs_done (h : rdSgs n l0 = (rdSgs (n - L.length) lc).map (fun y => (L ++ y.1, y.2))) (hn : ¬ L.length < n) (hle : L.length ≤ n) : rdSgs n l0 = some (L, lc) := by
  rw [h, show n - L.length = 0 from by omega, rdSgs]
  simp
end
theorem news_int (W : World) (x : Int) : News (W.alloc (.cells #[.int .i64 x] 3)) (some ⟨W.heap.size, 0, none⟩) 1 [.int .i64 x] :=
  ⟨(fun e => by cases e), fun ad e j u hu => by cases e; exact new_cells W [.int .i64 x] _ j u hu⟩
theorem news_str (W : World) (x : ByteArray) : News (W.alloc (.cells #[.string x] 9)) (some ⟨W.heap.size, 0, none⟩) 1 [.string x] :=
  ⟨(fun e => by cases e), fun ad e j u hu => by cases e; exact new_cells W [.string x] _ j u hu⟩
set_option maxRecDepth 100000 in
set_option maxHeartbeats 2000000 in
theorem readSeals_any (g : Nat) (st : St) (w : World) (h : RG w g st) : Calls Tryd.prog 50 #[.pointer (some ⟨g, 0, none⟩)] w (SsEnd w g (stSgs st)) := by
  obtain ⟨si, hsi, sz0, sz1, sz2⟩ := info_parts info_str
  have Hsi := Lib.hid hsi
  have Sz0 := Lib.hid sz0
  have Sz1 := Lib.hid sz1
  have Sz2 := Lib.hid sz2
  obtain ⟨ii, hii, iz0, iz1, iz2⟩ := info_parts info_int
  have Hii := Lib.hid hii
  have Iz0 := Lib.hid iz0
  have Iz1 := Lib.hid iz1
  have Iz2 := Lib.hid iz2
  clear hsi sz0 sz1 sz2 hii iz0 iz1 iz2
  have hlt := h.lt
  have q0 := rg_num g st w h
  obtain ⟨R, HR⟩ : ∃ R, Hid (R = stSgs st) := ⟨_, rfl⟩
  rw [← HR.out]
  have hbad : ∀ W, RG W g none → w.grownBy W (some g) → R = ([], none) → SsEnd w g R (.returned (.tuple #[.slice none 0 0, .slice none 0 0])) W := fun W h1 h2 e => by
    rw [e]
    exact ⟨_, _, rfl, own_nil _ _ _ _, own_nil _ _ _ _, h1, h2⟩
  have HBad := Lib.hid hbad
  clear hbad
  have hnone : ∀ W, RG W g none → w.grownBy W (some g) → R = ([], none) → ∀ n : Nat, n = 0 → True := fun _ _ _ _ _ _ => trivial
  clear hnone
  cases st with
  | none =>
    rw [show stNum none = (0, none) from rfl] at q0
    have hR : R = ([], none) := HR.out
    clear h HR
    go_enter Tryd.func50, Tryd.ntmps50
    go_wp2_with fail
    (with_reducible refine q0.mono ?_)
    clear q0
    rintro _ w1 ⟨rfl, h1, k1⟩
    go_wp2_with fail
    go_loopw [4, 5, 10] (fun v v2 i wr => v = .slice none 0 0 ∧ v2 = .slice none 0 0 ∧ i = .int .i64 0 ∧ wr = w1) (fun _ _ _ _ => 0)
    case atStart => exact ⟨rfl, rfl, rfl, rfl⟩
    case round =>
      obtain ⟨rfl, rfl, rfl, rfl⟩ := hrel
      go_wp2_with fail
      go_ret2
      exact HBad.out _ h1 k1 hR
  | some l =>
    cases hnum : rdNum l with
    | none =>
      rw [show stNum (some l) = (0, none) from by simp [stNum, hnum]] at q0
      have hR : R = ([], none) := by rw [HR.out]; simp [stSgs, hnum]
      clear h HR hnum
      go_enter Tryd.func50, Tryd.ntmps50
      go_wp2_with fail
      (with_reducible refine q0.mono ?_)
      clear q0
      rintro _ w1 ⟨rfl, h1, k1⟩
      go_wp2_with fail
      go_loopw [4, 5, 10] (fun v v2 i wr => v = .slice none 0 0 ∧ v2 = .slice none 0 0 ∧ i = .int .i64 0 ∧ wr = w1) (fun _ _ _ _ => 0)
      case atStart => exact ⟨rfl, rfl, rfl, rfl⟩
      case round =>
        obtain ⟨rfl, rfl, rfl, rfl⟩ := hrel
        go_wp2_with fail
        go_ret2
        exact HBad.out _ h1 k1 hR
    | some y =>
      obtain ⟨n, l0⟩ := y
      rw [show stNum (some l) = (n, some l0) from by simp [stNum, hnum]] at q0
      have hR : R = match rdSgs n l0 with | none => ([], none) | some (L, r2) => (L, some r2) := by rw [HR.out]; simp only [stSgs, hnum]
      have hn62 := rdNum_lt hnum
      have hl0 : l0.length ≤ 140737488355328 := by have := rdNum_less hnum; have := h.2; omega
      have HR2 := Lib.hid hR
      clear h HR hnum hR
      go_enter Tryd.func50, Tryd.ntmps50
      go_wp2_with fail
      (with_reducible refine q0.mono ?_)
      clear q0
      rintro _ w1 ⟨rfl, h1, k1⟩
      go_wp2_with fail
      go_loopw [4, 5, 10] (fun v v2 i wr => RsRel n l0 g w v v2 i wr) (fun _ _ i _ => n - (intOf i).toNat)
      case atStart => exact ⟨[], l0, Nat.zero_le _, rfl, h1, own_nil _ _ _ _, own_nil _ _ _ _, k1, by simp, by rw [List.length_nil, Nat.sub_zero]; cases rdSgs n l0 <;> rfl⟩
      case round =>
        clear h1 k1 w1
        obtain ⟨L, lc, hk, rfl, hRG, hO, hO2, hK, hm, he⟩ := hrel
        have HE := Lib.hid he
        clear he
        by_cases hlt2 : L.length < n
        · have hi : (L.length : Int) < n := by omega
          have q := rg_num g _ wr hRG
          cases hr : rdNum lc with
          | none =>
            rw [show stNum (some lc) = (0, none) from by simp [stNum, hr]] at q
            have hbad : R = ([], none) := by rw [HR2.out, sgs_bad HE.out hlt2 hr]
            clear hRG HE hr hO hO2
            go_wp2_with fail
            (with_reducible refine q.mono ?_)
            clear q
            rintro _ w2 ⟨rfl, h2, k2⟩
            have hK2 := gb_trans hK k2
            clear hK k2
            go_wp2_with fail
            (with_reducible refine (rg_id g none w2 h2).mono ?_)
            rintro _ w3 ⟨rfl, h3, k3⟩
            have hK3 := gb_trans hK2 k3
            clear hK2 k3
            have h3 : RG w3 g none := h3
            go_wp2_with fail
            (with_reducible refine (rg_bad g none w3 h3).mono ?_)
            rintro _ _ ⟨⟨e, rfl, he⟩, rfl⟩
            rw [Option.isNone_none] at he
            go_wp2_with fail
            go_ret2
            exact HBad.out _ h3 hK3 hbad
          | some y =>
            obtain ⟨x, r⟩ := y
            rw [show stNum (some lc) = (x, some r) from by simp [stNum, hr]] at q
            have hx62 := rdNum_lt hr
            have hless := rdNum_less hr
            cases hr2 : rdId r with
            | none =>
              have hbad : R = ([], none) := by rw [HR2.out, sgs_bad2 HE.out hlt2 hr hr2]
              have e1 : stId (some r) = (⟨#[]⟩, none) := by simp [stId, hr2]
              clear hRG HE hr hr2 hO hO2
              go_wp2_with fail
              (with_reducible refine q.mono ?_)
              clear q
              rintro _ w2 ⟨rfl, h2, k2⟩
              have hK2 := gb_trans hK k2
              clear hK k2
              have q3 := rg_id g (some r) w2 h2
              rw [e1] at q3
              clear e1
              go_wp2_with fail
              (with_reducible refine q3.mono ?_)
              clear q3
              rintro _ w3 ⟨rfl, h3, k3⟩
              have hK3 := gb_trans hK2 k3
              clear hK2 k3
              go_wp2_with fail
              (with_reducible refine (rg_bad g none w3 h3).mono ?_)
              rintro _ _ ⟨⟨e, rfl, he⟩, rfl⟩
              rw [Option.isNone_none] at he
              go_wp2_with fail
              go_ret2
              exact HBad.out _ h3 hK3 hbad
            | some y2 =>
              obtain ⟨t, r2⟩ := y2
              have hmore := Lib.hid (sgs_more HE.out hlt2 hr hr2)
              have e1 : stId (some r) = (t, some r2) := by simp [stId, hr2]
              have hidl := rdId_len hr2
              clear hRG HE hr hr2
              go_wp2_with fail
              (with_reducible refine q.mono ?_)
              clear q
              rintro _ w2 ⟨rfl, h2, k2⟩
              have hK2 := gb_trans hK k2
              have oI2 := own_kp hO (Kp.gb k2) (fun k hk e => by have := own_row_ge hO k hk; cases e; omega)
              have oT2 := own_kp hO2 (Kp.gb k2) (fun k hk e => by have := own_row_ge hO2 k hk; cases e; omega)
              clear hK k2 hO hO2
              have q3 := rg_id g (some r) w2 h2
              rw [e1] at q3
              clear e1
              go_wp2_with fail
              (with_reducible refine q3.mono ?_)
              clear q3
              rintro _ w3 ⟨rfl, h3, k3⟩
              have hK3 := gb_trans hK2 k3
              have oI3 := own_kp oI2 (Kp.gb k3) (fun k hk e => by have := own_row_ge oI2 k hk; cases e; omega)
              have oT3 := own_kp oT2 (Kp.gb k3) (fun k hk e => by have := own_row_ge oT2 k hk; cases e; omega)
              clear hK2 k3 oI2 oT2
              go_wp2_with fail
              (with_reducible refine (rg_bad g (some r2) w3 h3).mono ?_)
              rintro _ _ ⟨⟨e, rfl, he⟩, rfl⟩
              rw [Option.isNone_some] at he
              have hsz := hK3.size
              have hl1 : (L.map Prod.fst).length = L.length := List.length_map _
              have hl2 : (L.map Prod.snd).length = L.length := List.length_map _
              have oI4 := own_kp oI3 (Kp.bel (X := fun _ => False) ((Below.refl _ _).alloc (Nat.le_refl _) (.cells #[.int .i64 (x : Int)] 3))) (fun _ _ q => q)
              have oT4 := own_kp oT3 (Kp.bel (X := fun _ => False) ((Below.refl _ _).alloc (Nat.le_refl _) (.cells #[.int .i64 (x : Int)] 3))) (fun _ _ q => q)
              have h4 := h3.below ((Below.refl _ _).alloc (Nat.le_refl _) (.cells #[.int .i64 (x : Int)] 3))
              have N4 := news_int w3 x
              have K4 := gb_trans hK3 (gb_alloc (w := w3) (r := some g) (.cells #[.int .i64 (x : Int)] 3))
              go_wp2_with (at_builtin; refine wpList_app _ rfl _ _ 22 rfl w.heap.size 3 ii _ 1 8 Tryd.underlying22 Hii.out Iz0.out Iz1.out Iz2.out rfl (by decide) _ _ _ rfl oI4 (some ⟨w3.heap.size, 0, none⟩) 1 1 [.int .i64 (x : Int)] rfl rfl N4 (by intro u hu; simp at hu; subst hu; rfl) (by unfold maxLen; omega) (by omega) K4.size ?_)
              intro v4 w4 o4 g4
              have hge : ∀ q, u4.ownBlock = some q → w.heap.size ≤ q := fun q e1 => own_row_ge oI4 q e1
              have oT5 := own_kp oT4 (Kp.gb g4) (own_row oT4 oI4 (by decide))
              have h5 : RG w4 g (some r2) := h4.kept g4 (fun e1 => by have := hge g e1.symm; omega)
              have K5 := gb_own K4 g4 hge
              clear N4 h4 K4 g4 oT4 oI4 hge h3 hK3 oI3 oT3
              have oI6 := own_kp o4 (Kp.bel (X := fun _ => False) ((Below.refl _ _).alloc (Nat.le_refl _) (.cells #[.string t] 9))) (fun _ _ q => q)
              have oT6 := own_kp oT5 (Kp.bel (X := fun _ => False) ((Below.refl _ _).alloc (Nat.le_refl _) (.cells #[.string t] 9))) (fun _ _ q => q)
              have h6 := h5.below ((Below.refl _ _).alloc (Nat.le_refl _) (.cells #[.string t] 9))
              have N6 := news_str w4 t
              have K6 := gb_trans K5 (gb_alloc (w := w4) (r := some g) (.cells #[.string t] 9))
              go_wp2_with (at_builtin; refine wpList_app _ rfl _ _ 23 rfl w.heap.size 9 si _ 1 16 Tryd.underlying23 Hsi.out Sz0.out Sz1.out Sz2.out rfl (by decide) _ _ _ rfl oT6 (some ⟨w4.heap.size, 0, none⟩) 1 1 [.string t] rfl rfl N6 (by intro u hu; simp at hu; subst hu; rfl) (by unfold maxLen; omega) (by omega) K6.size ?_)
              intro v5 w5 o5 g5
              have hge : ∀ q, u5.ownBlock = some q → w.heap.size ≤ q := fun q e1 => own_row_ge oT6 q e1
              have oI7 := own_kp oI6 (Kp.gb g5) (own_row oI6 oT6 (by decide))
              have h7 : RG w5 g (some r2) := h6.kept g5 (fun e1 => by have := hge g e1.symm; omega)
              have K7 := gb_own K6 g5 hge
              clear N6 h6 K6 g5 oT6 oI6 hge h5 K5 o4 oT5
              go_wp2_with fail
              refine ⟨⟨L ++ [((x : Int), t)], r2, by rw [List.length_append]; simp; omega, by rw [List.length_append]; simp, h7, ?_, ?_, K7, ?_, hmore.out⟩, by simp [intOf]; omega⟩
              · rw [List.map_append, List.length_append, List.map_append, List.map_map, List.length_map]; exact oI7
              · rw [List.map_append, List.length_append, List.map_append, List.map_map, List.length_map]; exact o5
              · rw [List.length_append]; simp; omega
        · have hi : ¬ (L.length : Int) < n := by omega
          have hdone : R = (L, some lc) := by rw [HR2.out, sgs_done HE.out hlt2 hk]
          have HDone := Lib.hid hdone
          clear HE HR2 hdone
          go_wp2_with fail
          go_ret2
          rw [HDone.out]
          exact ⟨_, _, rfl, hO, hO2, hRG, hK⟩
end Go.Proofs.YtbpmgpbmeganoaaDoor

/- disk.find and what it calls: contracts. -/
namespace Go.Proofs.YtbpmgpbmeganoaaDoor
open Go.RowKit

theorem cmp_less : ∀ a b : List UInt8, Lib.compareBytes a b < 0 ↔ Op.bytesLess a b = true
  | [], [] => by simp [Lib.compareBytes, Op.bytesLess]
  | [], _ :: _ => by simp [Lib.compareBytes, Op.bytesLess]
  | _ :: _, [] => by simp [Lib.compareBytes, Op.bytesLess]
  | a :: x, b :: y => by
    have ih := cmp_less x y
    simp only [Lib.compareBytes, Op.bytesLess, Bool.or_eq_true, Bool.and_eq_true, decide_eq_true_eq, beq_iff_eq]
    by_cases h : a < b
    · simp [h]
    · by_cases h2 : b < a
      · have : ¬ a = b := fun e => by rw [e] at h2; exact absurd h2 (by rw [UInt8.lt_iff_toNat_lt]; omega)
        simp [h, h2, this]
      · have e : a = b := UInt8.toNat_inj.1 (by rw [UInt8.lt_iff_toNat_lt] at h h2; omega)
        subst e
        simp [h, ih]
theorem cmp_zero : ∀ a b : List UInt8, Lib.compareBytes a b = 0 ↔ a = b
  | [], [] => by simp [Lib.compareBytes]
  | [], _ :: _ => by simp [Lib.compareBytes]
  | _ :: _, [] => by simp [Lib.compareBytes]
  | a :: x, b :: y => by
    have ih := cmp_zero x y
    simp only [Lib.compareBytes, List.cons.injEq]
    by_cases h : a < b
    · have : ¬ a = b := fun e => by rw [e] at h; exact absurd h (by rw [UInt8.lt_iff_toNat_lt]; omega)
      simp [h, this]
    · by_cases h2 : b < a
      · have : ¬ a = b := fun e => by rw [e] at h2; exact absurd h2 (by rw [UInt8.lt_iff_toNat_lt]; omega)
        simp [h, h2, this]
      · have e : a = b := UInt8.toNat_inj.1 (by rw [UInt8.lt_iff_toNat_lt] at h h2; omega)
        subst e
        simp [h, ih]
def cmpB (a b : ByteArray) : Int := Lib.compareBytes a.data.toList b.data.toList
theorem cmpB_less (a b : ByteArray) : cmpB a b < 0 ↔ ltB a b = true := by
  unfold cmpB ltB
  rw [toList_data, toList_data]
  exact cmp_less _ _
theorem cmpB_zero (a b : ByteArray) : cmpB a b = 0 ↔ a = b := by
  unfold cmpB
  rw [cmp_zero]
  exact ⟨bytes_eq, fun h => by rw [h]⟩
theorem run_cmp (a b : ByteArray) (w : World) : (callFunc 124 #[.string a, .string b]).run Tryd.prog w = .ok (.value (.int .i64 (cmpB a b))) w := by
  rw [run_callFunc_extern Tryd.func124 (by kernel_rfl) (by kernel_rfl) (by kernel_rfl) (e := Extern.BytealgCompare.compare) (by kernel_rfl), Lib.run_compareString]
  rfl
set_option maxRecDepth 100000 in
theorem CompareString_any (a b : ByteArray) (w : World) : Calls Tryd.prog 122 #[.string a, .string b] w fun e w' => e = .returned (.int .i64 (cmpB a b)) ∧ w' = w := by
  have h := run_cmp a b
  go_enter Tryd.func122, Tryd.ntmps122
  go_wp2_with (simp only [h])
  go_ret
  exact ⟨rfl, rfl⟩
set_option maxRecDepth 100000 in
theorem Compare_any (a b : ByteArray) (w : World) : Calls Tryd.prog 119 #[.string a, .string b] w fun e w' => e = .returned (.int .i64 (cmpB a b)) ∧ w' = w := by
  have C := Lib.hid (CompareString_any a b w)
  go_enter Tryd.func119, Tryd.ntmps119
  go_wp2_with fail
  (with_reducible refine C.out.mono ?_)
  rintro _ _ ⟨rfl, rfl⟩
  go_wp2_with fail
  go_ret
  exact ⟨rfl, rfl⟩
/-- where the search stands -/
def DkBsRel (L : List Fl) (n : ByteArray) (w : World) (i j : Value) (wr : World) : Prop :=
  ∃ a b : Nat, i = .int .i64 (a : Int) ∧ j = .int .i64 (b : Int) ∧ a ≤ low n L ∧ low n L ≤ b ∧ b ≤ L.length ∧ Below w.heap.size w wr
def hasN (n : ByteArray) (L : List Fl) : Bool := (getF n L).isSome
end Go.Proofs.YtbpmgpbmeganoaaDoor

/- refs.find and what it calls: contracts (out of DkFind). -/
namespace Go.Proofs.YtbpmgpbmeganoaaDoor
open Go.RowKit

set_option maxRecDepth 100000 in
theorem rfName_any (f : Rf) (n : ByteArray) (w : World) : Calls Tryd.prog 118 #[.agg #[.string f.name, .string f.id], .string n] w fun e w' => e = .returned (.int .i64 (cmpB f.name n)) ∧ Below w.heap.size w w' := by
  have A0 : Arr (w.alloc (.cells (rfArr f) 89)) w.heap.size 89 (rfArr f) := Arr.new _ _ _
  have b0 : Below w.heap.size w (w.alloc (.cells (rfArr f) 89)) := (Below.refl _ _).alloc (Nat.le_refl _) _
  go_enter Tryd.func118, Tryd.ntmps118
  go_upto_region 1 with fail
  refine wp_forget (fun V => Arr V w.heap.size 89 (rfArr f) ∧ Below w.heap.size w V) (by exact ⟨A0, b0⟩) ?_
  clear A0 b0
  rintro V ⟨A0, b0⟩
  have c0 : V.cell? ⟨w.heap.size, 0, none⟩ = some (.string f.name) := A0.cell 0
  have C := Lib.hid (Compare_any f.name n V)
  go_wp2_with fail
  (with_reducible refine C.out.mono ?_)
  rintro _ _ ⟨rfl, rfl⟩
  go_wp2_with fail
  go_ret
  exact ⟨rfl, b0⟩
/-- where the search stands -/
def RfBsRel (L : List Rf) (n : ByteArray) (w : World) (i j : Value) (wr : World) : Prop :=
  ∃ a b : Nat, i = .int .i64 (a : Int) ∧ j = .int .i64 (b : Int) ∧ a ≤ rlow n L ∧ rlow n L ≤ b ∧ b ≤ L.length ∧ Below w.heap.size w wr
def hasR (n : ByteArray) (L : List Rf) : Bool := (getRf n L).isSome
set_option maxRecDepth 100000 in
set_option maxHeartbeats 1000000 in
theorem rsearch_any (L : List Rf) (n : ByteArray) (A : Option Addr) (c : Nat) (w : World) (hP : Rfs w w.heap.size A L) (hl : L.length ≤ 100000) (hr : rrs ⟨#[]⟩ L) :
    Calls Tryd.prog 117 #[.slice A L.length c, .string n, .func (.func 118) #[] #[]] w fun e w' => e = .returned (.tuple #[.int .i64 (rlow n L : Int), .bool (hasR n L)]) ∧ Below w.heap.size w w' := by
  have hle := rlow_le n L
  have HG := Lib.hid (getR_low n L _ hr)
  have HS := Lib.hid (rlow_split n L _ hr)
  have h1 : Hid (RfBsRel L n w (.int .i64 0) (.int .i64 (L.length : Int)) w) := ⟨0, L.length, rfl, rfl, Nat.zero_le _, hle, Nat.le_refl _, Below.refl _ _⟩
  have hlw : rlow n L ≤ 100000 := by omega
  go_enter Tryd.func117, Tryd.ntmps117
  go_wp2_with fail
  go_loopw [9, 10] (fun i j wr => RfBsRel L n w i j wr) (fun i j _ => (intOf j - intOf i).toNat)
  case atStart => exact h1.out
  case round =>
    clear h1
    obtain ⟨a, b, rfl, rfl, ha, hb, hbl, bel⟩ := hrel
    by_cases hlt : a < b
    · have hj : (a : Int) < b := by omega
      have hml : (a + b) / 2 < L.length := by omega
      have hmi : ((a : Int) + b) / 2 < L.length := by omega
      have hx : L[(a + b) / 2]? = some L[(a + b) / 2] := List.getElem?_eq_getElem hml
      obtain ⟨ad, rfl, hbk, h0, h1⟩ := hP _ _ hx
      have g0 := (bel.cell hbk).trans h0
      have g1 := (bel.cell (p := ⟨(ad.add ((a + b) / 2 * 2)).block, (ad.add ((a + b) / 2 * 2)).off + 1, none⟩) hbk).trans h1
      have hsx := HS.out _ _ hx
      clear h0 h1 hx
      generalize L[(a + b) / 2] = x at *
      rw [← cmpB_less] at hsx
      have C := Lib.hid (rfName_any x n wr)
      generalize cmpB x.name n = z at *
      go_wp2_with fail
      (with_reducible refine C.out.mono ?_)
      clear C g0 g1
      rintro _ w2 ⟨rfl, b2⟩
      have bel2 := bel.trans (b2.mono bel.size)
      clear bel b2
      by_cases hz : z < 0
      · have hlo := hsx.1 hz
        clear hsx
        go_wp2_with fail
        go_roundw
        case rel => exact ⟨(a + b) / 2 + 1, b, by congr 1, rfl, by omega, hb, hbl, bel2⟩
        case measure => simp [intOf]; omega
      · have hlo : ¬ (a + b) / 2 < rlow n L := fun h => hz (hsx.2 h)
        clear hsx
        go_wp2_with fail
        go_roundw
        case rel => exact ⟨a, (a + b) / 2, rfl, by congr 1, ha, by omega, by omega, bel2⟩
        case measure => simp [intOf]; omega
    · have ea : a = rlow n L := by omega
      have eb : b = rlow n L := by omega
      subst eb
      rw [ea]
      have hj : ¬ (rlow n L : Int) < rlow n L := by omega
      clear hlt ea ha hb hbl
      cases hx : L[rlow n L]? with
      | none =>
        have hge := List.getElem?_eq_none_iff.1 hx
        have hj2 : ¬ (rlow n L : Int) < L.length := by omega
        have hg := HG.out
        rw [hx] at hg
        have HN : Hid (hasR n L = false) := by show _ = _; unfold hasR; rw [hg]; rfl
        clear hg HG HS hx
        go_wp2_with fail
        go_ret2
        exact ⟨by rw [HN.out]; rfl, bel⟩
      | some x =>
        obtain ⟨hlt, _⟩ := List.getElem?_eq_some_iff.1 hx
        have hj2 : (rlow n L : Int) < L.length := by omega
        have hg := HG.out
        rw [hx] at hg
        obtain ⟨ad, rfl, hbk, h0, h1⟩ := hP _ _ hx
        have g0 := (bel.cell hbk).trans h0
        have g1 := (bel.cell (p := ⟨(ad.add (rlow n L * 2)).block, (ad.add (rlow n L * 2)).off + 1, none⟩) hbk).trans h1
        have C := Lib.hid (rfName_any x n wr)
        have HN : Hid (hasR n L = (cmpB x.name n == 0)) := by
          show _ = _
          unfold hasR
          rw [hg]
          simp only
          by_cases e : x.name = n
          · rw [if_pos e, show cmpB x.name n = 0 from (cmpB_zero _ _).2 e]; rfl
          · rw [if_neg e]
            have : ¬ cmpB x.name n = 0 := fun q => e ((cmpB_zero _ _).1 q)
            simp [this]
        clear h0 h1 hx hg HG HS
        generalize cmpB x.name n = z at *
        go_wp2_with fail
        (with_reducible refine C.out.mono ?_)
        clear C g0 g1
        rintro _ w2 ⟨rfl, b2⟩
        have bel2 := bel.trans (b2.mono bel.size)
        by_cases hz : z = 0
        · subst hz
          go_wp2_with fail
          go_ret2
          exact ⟨by rw [HN.out]; rfl, bel2⟩
        · have hz' : (z == 0) = false := by rw [beq_eq_false_iff_ne]; exact hz
          go_wp2_with fail
          go_ret2
          exact ⟨by rw [HN.out, hz']; rfl, bel2⟩
set_option maxRecDepth 100000 in
theorem rfind_any (L : List Rf) (n : ByteArray) (A : Option Addr) (c : Nat) (w : World) (hP : Rfs w w.heap.size A L) (hl : L.length ≤ 100000) (hr : rrs ⟨#[]⟩ L) :
    Calls Tryd.prog 110 #[.slice A L.length c, .string n] w fun e w' => e = .returned (.tuple #[.int .i64 (rlow n L : Int), .bool (hasR n L)]) ∧ Below w.heap.size w w' := by
  have C := Lib.hid (rsearch_any L n A c w hP hl hr)
  go_enter Tryd.func110, Tryd.ntmps110
  go_wp2_with fail
  (with_reducible refine C.out.mono ?_)
  rintro _ w2 ⟨rfl, b2⟩
  go_wp2_with fail
  go_ret2
  exact ⟨rfl, b2⟩
end Go.Proofs.YtbpmgpbmeganoaaDoor
