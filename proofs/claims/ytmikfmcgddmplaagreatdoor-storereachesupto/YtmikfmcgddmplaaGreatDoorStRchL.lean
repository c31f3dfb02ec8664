/- law.StoreReaches: the walk. -/
import Derived.Test.YtmikfmcgddmplaaGreatDoorORefSame
import Derived.Test.YtmikfmcgddmplaaGreatDoorOMapB
import Derived.Test.YtmikfmcgddmplaaGreatDoorRefMath
import Derived.Test.YtmikfmcgddmplaaGreatDoorPStrings
import Derived.Test.YtmikfmcgddmplaaGreatDoorStSort
namespace Go.Proofs.YtmikfmcgddmplaaGreatDoor
open Go.RowKit

theorem reachO_len (G : ByteArray → ByteArray × Int) (U : List ByteArray) : (reachO G U).1.length ≤ 400 := by
  rcases reach_said (G := G) (U := U) with ⟨e, _⟩ | ⟨H, _, hl, _, ⟨e, _⟩ | ⟨e, _⟩ | ⟨e, _⟩⟩
  · rw [e]; simp
  · rw [e]; simp
  · rw [e]; simp
  · rw [e]
    show (sortB H).length ≤ 400
    rw [sortB_len]
    exact hl
set_option maxRecDepth 100000 in
set_option maxHeartbeats 2000000 in
theorem StoreReaches_any (T U : List ByteArray) (id to : ByteArray) (TA UA : Option Addr) (tc uc : Nat) (w : World) (hT : Txs w w.heap.size TA T) (hz : ∀ x ∈ T, x.size ≤ 140737488355328) (hl : T.length ≤ 140737488355328) (hU : Txs w w.heap.size UA U) (hul : U.length ≤ 1048576) (ht : Tab w) :
    Calls Tryz.prog 3 #[.slice TA T.length tc, .slice UA U.length uc, .string id, .string to] w fun e w' => e = .returned (.bool true) ∧ Below w.heap.size w w' := by
  have CT : ∀ V, Below w.heap.size w V → Hid (Calls Tryz.prog 6 #[.slice TA T.length tc] V (TeEnd V T)) := fun V b => tells_any T TA tc V ((hT.below b).mono b.size) hz hl
  have CS : ∀ V, Below w.heap.size w V → Hid (Calls Tryz.prog 7 #[.slice UA U.length uc] V (CpEnd V U)) := fun V b => strings_law U UA uc V ((hU.below b).mono b.size) (by omega)
  have CR : ∀ gm q V A c, Arr V q 58 #[.map (some gm)] → MapX V gm (tx (fillT T)) → Txs V V.heap.size A U → Hid (Calls Tryz.prog 5 #[.func (.func 26) #[] #[.pointer (some ⟨q, 0, none⟩)], .slice A U.length c] V (RhEnd V (reachO (tellT (fillT T)) U))) := fun gm q V A c h1 h2 h3 =>
    Reach_te sort_said (fillT T) gm q V h1 h2 U A c h3 (by omega)
  have CC : ∀ gm q V, Below w.heap.size w V → Arr V q 58 #[.map (some gm)] → MapX V gm (tx (fillT T)) → Hid (Calls Tryz.prog 8 #[.func (.func 26) #[] #[.pointer (some ⟨q, 0, none⟩)], .slice UA U.length uc] V (RhEnd V (reachO (tellT (fillT T)) U))) := fun gm q V b h1 h2 => by
    have h := Closed_te (fillT T) U UA uc gm q V h1 h2 ((hU.below b).mono b.size) hul
    rw [closed_reach] at h
    exact h
  have CD := fun gm q V h1 h2 => Lib.hid (Descends_te (fillT T) id to gm q V h1 h2)
  have CO := fun gm q V h1 h2 => Lib.hid (Onward_te (fillT T) id to gm q V h1 h2)
  have hrl := reachO_len (tellT (fillT T)) U
  have HTb := Lib.hid ht
  clear hT hU hz ht
  generalize reachO (tellT (fillT T)) U = R at *
  generalize desc (tellT (fillT T)) id to = D at *
  obtain ⟨K, e⟩ := R
  have hKl : K.length ≤ 400 := hrl
  clear hrl
  have CE : ∀ V A A' c c', Txs V V.heap.size A K → Txs V V.heap.size A' K → Hid (Calls Tryz.prog 9 #[.slice A K.length c, .slice A' K.length c'] V fun e w' => e = .returned (.bool true) ∧ Below V.heap.size V w') := fun V A A' c c' h1 h2 => by
    have h := RefStrings_any K K (by omega) (by omega) A A' c c' V h1 h2
    rw [decide_eq_true rfl] at h
    exact h
  go_enter Tryz.func3, Tryz.ntmps3
  go_wp2_with fail
  (with_reducible refine (CT w (Below.refl _ _)).out.mono ?_)
  rintro _ w1 ⟨gm, q, rfl, A1, M1, b1⟩
  go_wp2_with fail
  (with_reducible refine (CS w1 b1).out.mono ?_)
  rintro _ w2 ⟨SA, sc, rfl, S2, b2⟩
  go_wp2_with fail
  (with_reducible refine (CR gm q w2 SA sc (A1.below b2 A1.lt) (M1.below b2 M1.lt) S2).out.mono ?_)
  clear A1 M1 S2 CR CS
  have bb2 := b1.trans (b2.mono b1.size)
  clear b1 b2
  rintro _ w3 ⟨KA, kc, rfl, K3, b3⟩
  have bb3 := bb2.trans (b3.mono bb2.size)
  clear bb2 b3
  simp only at K3
  go_wp2_with fail
  (with_reducible refine (CT w3 bb3).out.mono ?_)
  rintro _ w4 ⟨gm4, q4, rfl, A4, M4, b4⟩
  have bb4 := bb3.trans (b4.mono bb3.size)
  have K4 := (K3.below b4).mono b4.size
  clear b4 K3 bb3
  go_wp2_with fail
  (with_reducible refine (CC gm4 q4 w4 bb4 A4 M4).out.mono ?_)
  clear CC A4 M4
  rintro _ w5 ⟨LA, lc, rfl, L5, b5⟩
  simp only at L5
  have bb5 := bb4.trans (b5.mono bb4.size)
  have K5 := (K4.below b5).mono b5.size
  clear b5 K4 bb4
  go_wp2_with fail
  (with_reducible refine (CE w5 KA LA kc lc K5 L5).out.mono ?_)
  clear CE K5 L5
  rintro _ w6 ⟨rfl, b6⟩
  have bb6 := bb5.trans (b6.mono bb5.size)
  clear b6 bb5
  go_wp2_with fail
  (with_reducible refine (CT w6 bb6).out.mono ?_)
  rintro _ w7 ⟨gm7, q7, rfl, A7, M7, b7⟩
  have bb7 := bb6.trans (b7.mono bb6.size)
  clear b7 bb6
  go_wp2_with fail
  (with_reducible refine (CD gm7 q7 w7 A7 M7).out.mono ?_)
  clear A7 M7 CD
  rintro _ w8 ⟨rfl, b8⟩
  have bb8 := bb7.trans (b8.mono bb7.size)
  clear b8 bb7
  go_wp2_with fail
  (with_reducible refine (CT w8 bb8).out.mono ?_)
  rintro _ w9 ⟨gm9, q9, rfl, A9, M9, b9⟩
  have bb9 := bb8.trans (b9.mono bb8.size)
  clear b9 bb8
  go_wp2_with fail
  (with_reducible refine (CO gm9 q9 w9 A9 M9).out.mono ?_)
  clear A9 M9 CO
  rintro _ wa ⟨rfl, ba⟩
  have bba := bb9.trans (ba.mono bb9.size)
  clear ba bb9
  have HTa := HTb.out.below bba HTb.out.1
  go_wp2_with fail
  (with_reducible refine (stores_law wa HTa).mono ?_)
  rintro _ wb ⟨rfl, bb⟩
  go_wp2_with fail
  go_ret
  exact ⟨rfl, bba.trans (bb.mono bba.size)⟩
end Go.Proofs.YtmikfmcgddmplaaGreatDoor
