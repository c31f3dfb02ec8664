/- law.objects, law.ObjectEncodes: the walks. -/
import Derived.Test.YtgffbdkngnpfpaaOBase
import Derived.Test.YtgffbdkngnpfpaaOOwned
import Derived.Test.YtgffbdkngnpfpaaOLinks
import Derived.Test.YtgffbdkngnpfpaaORefSame
import Derived.Test.YtgffbdkngnpfpaaORefEnc
namespace Go.Proofs.Ytgffbdkngnpfpaa
open Go.RowKit

theorem objects_law (w : World) : Calls Try.prog 15 #[] w fun e w' => e = .returned (.bool true) ∧ Below w.heap.size w w' := by
  go_enter Try.func15, Try.ntmps15
  go_wp2_with fail
  have q := blobA_any w
  (with_reducible refine q.mono ?_)
  clear q
  rintro _ w1 ⟨rfl, b1⟩
  go_wp2_with fail
  go_ret
  exact ⟨rfl, b1⟩

theorem Bx.hold {w W : World} {o : Ob} {p : At} (h : Bx w o p W) : W.cell? ⟨w.heap.size, 0, none⟩ = some (.int .i64 o.kind) ∧ W.cell? ⟨w.heap.size, 1, none⟩ = some (.string o.data) ∧ W.cell? ⟨w.heap.size, 2, none⟩ = some (.slice p.ea o.ents.length p.ec) ∧
    W.cell? ⟨w.heap.size, 3, none⟩ = some (.string o.tree) ∧ W.cell? ⟨w.heap.size, 4, none⟩ = some (.slice p.pa o.pars.length p.pc) ∧ W.cell? ⟨w.heap.size, 5, none⟩ = some (.string o.who) ∧
    W.cell? ⟨w.heap.size, 6, none⟩ = some (.string o.note) ∧ W.cell? ⟨w.heap.size, 7, none⟩ = some (.int .i64 o.time) ∧ W.cell? ⟨w.heap.size, 8, none⟩ = some (.string o.target) := h.c
theorem Bx.owned {w W W' : World} {o : Ob} {p : At} (h : Bx w o p W) (b : Below W.heap.size W W') : Bx w o p W' := h.below b
theorem Txs.more {w w' : World} {A : Option Addr} {T : List ByteArray} (h : Txs w w.heap.size A T) (b : Below w.heap.size w w') : Txs w' w'.heap.size A T := (h.below b).mono b.size

set_option maxRecDepth 100000 in
set_option maxHeartbeats 4000000 in
theorem ObjectEncodes_any (o : Ob) (p : At) (w : World) (hO : ObIn w w.heap.size o p) (hnm : ∀ e ∈ o.ents, e.name.size ≤ 281474976710656) (hel : o.ents.length * 40 ≤ 140737488351232) (hpl : o.pars.length * 16 ≤ 140737488351232) :
    Calls Try.prog 3 #[.agg (obArr o p)] w fun e w' => e = .returned (.bool true) ∧ Below w.heap.size w w' := by
  have hll : (linksL o).length ≤ 281474976710656 := by
    unfold linksL
    split
    · rw [List.length_map]; omega
    · split
      · rw [List.length_cons]; omega
      · split
        · simp
        · simp
  have h1 := Lib.hid (Bx.start hO)
  have CO : Hid (∀ W, Bx w o p W → Calls Try.prog 8 #[.agg #[.int .i64 o.kind, .string o.data, .slice p.ea o.ents.length p.ec, .string o.tree, .slice p.pa o.pars.length p.pc, .string o.who, .string o.note, .int .i64 o.time, .string o.target]] W (OwEnd W o)) :=
    fun W h => owned_any o p W (h.2.1.mono h.2.2.size) hel hpl
  have CE : Hid (∀ W p', ObIn W W.heap.size o p' → Calls Try.prog 7 #[.agg (obArr o p')] W fun e w' => e = .returned (.tuple #[.string (encS o), .int .i64 (encE o)]) ∧ Below W.heap.size W w') := fun W p' h => Encode_any o p' W h
  have CG : Hid (∀ W p', ObIn W W.heap.size o p' → Calls Try.prog 10 #[.agg (obArr o p')] W fun e w' => e = .returned (.int .i64 (good o)) ∧ Below W.heap.size W w') := fun W p' h => Good_any o p' W h
  have CL : Hid (∀ W p', ObIn W W.heap.size o p' → Calls Try.prog 13 #[.agg (obArr o p')] W (LEnd W (linksL o))) := fun W p' h => Links_any o p' W h hel hpl
  have DE : Hid (∀ W, Bx w o p W → Calls Try.prog 9 #[.agg #[.int .i64 o.kind, .string o.data, .slice p.ea o.ents.length p.ec, .string o.tree, .slice p.pa o.pars.length p.pc, .string o.who, .string o.note, .int .i64 o.time, .string o.target]] W fun e w' => e = .returned (.tuple #[.string (encS o), .int .i64 (encE o)]) ∧ Below W.heap.size W w') :=
    fun W h => RefEncode_any o p W (h.2.1.mono h.2.2.size) hnm
  have DG : Hid (∀ W, Bx w o p W → Calls Try.prog 11 #[.agg #[.int .i64 o.kind, .string o.data, .slice p.ea o.ents.length p.ec, .string o.tree, .slice p.pa o.pars.length p.pc, .string o.who, .string o.note, .int .i64 o.time, .string o.target]] W fun e w' => e = .returned (.int .i64 (good o)) ∧ Below W.heap.size W w') :=
    fun W h => GoodObject_any o p W (h.2.1.mono h.2.2.size) hnm
  have DL : Hid (∀ W, Bx w o p W → Calls Try.prog 14 #[.agg #[.int .i64 o.kind, .string o.data, .slice p.ea o.ents.length p.ec, .string o.tree, .slice p.pa o.pars.length p.pc, .string o.who, .string o.note, .int .i64 o.time, .string o.target]] W (LEnd W (linksL o))) :=
    fun W h => RefLinks_any o p W (h.2.1.mono h.2.2.size) hel hpl
  generalize linksL o = T at *
  have CS : Hid (∀ W A A' c c', Txs W W.heap.size A T → Txs W W.heap.size A' T → Calls Try.prog 12 #[.slice A T.length c, .slice A' T.length c'] W fun e w' => e = .returned (.bool true) ∧ Below W.heap.size W w') := fun W A A' c c' h h' => by
    have q := RefStrings_any T T hll hll A A' c c' W h h'
    rw [decide_eq_true rfl] at q
    exact q
  clear hO hll hnm hel hpl
  generalize encS o = S at *
  generalize encE o = E at *
  generalize good o = G at *
  generalize hA : obArr o p = arr at *
  clear hA
  go_enter Try.func3, Try.ntmps3
  go_upto_region 1 with fail
  refine wp_forget (Bx w o p) h1.out ?_
  clear h1
  intro W hW
  obtain ⟨c0, c1, c2, c3, c4, c5, c6, c7, c8⟩ := hW.c
  go_wp2_with fail
  (with_reducible refine (CO.out W hW).mono ?_)
  rintro _ W1 ⟨p1, rfl, i1, b1⟩
  have hW1 := hW.below b1
  clear hW b1 c0 c1 c2 c3 c4 c5 c6 c7 c8
  go_wp2_with fail
  (with_reducible refine (CE.out W1 p1 i1).mono ?_)
  rintro _ W2 ⟨rfl, b2⟩
  have hW2 := hW1.below b2
  clear hW1 b2 i1 CE
  obtain ⟨c0, c1, c2, c3, c4, c5, c6, c7, c8⟩ := hW2.c
  go_wp2_with fail
  (with_reducible refine (DE.out W2 hW2).mono ?_)
  rintro _ W3 ⟨rfl, b3⟩
  have hW3 := hW2.below b3
  clear hW2 b3 DE c0 c1 c2 c3 c4 c5 c6 c7 c8
  have hV : Bx w o p W3.drew := hW3.drew
  obtain ⟨c0, c1, c2, c3, c4, c5, c6, c7, c8⟩ := hW3.c
  go_wp2_with fail
  go_region_held3 (fun w' => w'.cell? ⟨w.heap.size, 0, none⟩ = some (.int .i64 o.kind) ∧ w'.cell? ⟨w.heap.size, 1, none⟩ = some (.string o.data) ∧ w'.cell? ⟨w.heap.size, 2, none⟩ = some (.slice p.ea o.ents.length p.ec) ∧
    w'.cell? ⟨w.heap.size, 3, none⟩ = some (.string o.tree) ∧ w'.cell? ⟨w.heap.size, 4, none⟩ = some (.slice p.pa o.pars.length p.pc) ∧ w'.cell? ⟨w.heap.size, 5, none⟩ = some (.string o.who) ∧
    w'.cell? ⟨w.heap.size, 6, none⟩ = some (.string o.note) ∧ w'.cell? ⟨w.heap.size, 7, none⟩ = some (.int .i64 o.time) ∧ w'.cell? ⟨w.heap.size, 8, none⟩ = some (.string o.target))
    (first | exact hV.hold | exact hV1.hold | exact hV2.hold | exact hV3.hold | exact hV4.hold | exact hV5.hold | exact hV6.hold | exact hV7.hold | exact hV8.hold)
    (first
      | (go_at_call 8
         (with_reducible refine (CO.out _ hV).mono ?_)
         rintro _ w1 ⟨q1, rfl, j1, b1⟩
         have hV1 := hV.below b1)
      | (go_at_call 10
         (with_reducible refine (CG.out _ _ j1).mono ?_)
         rintro _ w2 ⟨rfl, b2⟩
         have hV2 := hV1.below b2)
      | (go_at_call 11
         (with_reducible refine (DG.out _ hV2).mono ?_)
         rintro _ w3 ⟨rfl, b3⟩
         have hV3 := hV2.below b3)
      | (go_at_call 8
         (with_reducible refine (CO.out _ hV3).mono ?_)
         rintro _ w4 ⟨q4, rfl, j4, b4⟩
         have hV4 := hV3.below b4)
      | (go_at_call 13
         (with_reducible refine (CL.out _ _ j4).mono ?_)
         rintro _ w5 ⟨A5, k5, rfl, t5, b5⟩
         have hV5 := hV4.below b5)
      | (go_at_call 14
         (with_reducible refine (DL.out _ hV5).mono ?_)
         rintro _ w6 ⟨A6, k6, rfl, t6, b6⟩
         have hV6 := hV5.below b6
         have u5 := t5.more b6)
      | (go_at_call 12
         (with_reducible refine (CS.out _ _ _ _ _ u5 t6).mono ?_)
         rintro _ w7 ⟨rfl, b7⟩
         have hV7 := hV6.below b7)
      | (go_at_call 15
         (with_reducible refine (objects_law _).mono ?_)
         rintro _ w8 ⟨rfl, b8⟩
         have hV8 := hV7.below b8))
  go_wp2_with fail
  go_ret
  exact ⟨rfl, hV8.2.2⟩
end Go.Proofs.Ytgffbdkngnpfpaa
