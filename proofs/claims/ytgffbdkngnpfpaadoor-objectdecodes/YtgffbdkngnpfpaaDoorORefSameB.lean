/- Texts in one: OSame, OSameB, ORefSame, ORefSameB. -/
import Derived.Test.YtgffbdkngnpfpaaDoorOMem
import Derived.Test.YtgffbdkngnpfpaaDoorWDone
import Derived.Deep.Cut
/- Objects compared. -/
namespace Go.Proofs.YtgffbdkngnpfpaaDoor
open Go.RowKit

def neE (x y : Ent) : Bool := !(eqB x.name y.name && x.dir == y.dir && eqB x.id y.id)
theorem neE_iff (x y : Ent) : neE x y = false ↔ x = y := by
  unfold neE
  obtain ⟨a, b, c⟩ := x
  obtain ⟨a', b', c'⟩ := y
  simp [eqB_iff, and_assoc]
set_option maxRecDepth 100000 in
theorem neE_run (a a' c c' : ByteArray) (b b' : Bool) (w : World) :
    (binOp .neq 48 (.agg #[.string a, .bool b, .string c]) (.agg #[.string a', .bool b', .string c'])).run Tryd.prog w = .ok (.bool (neE ⟨a, b, c⟩ ⟨a', b', c'⟩)) w := by
  unfold neE eqB
  go_simp
  repeat' split
  all_goals simp_all
theorem take_eq_step {α : Type} {T U : List α} {k : Nat} (h : T.take k = U.take k) (h1 : k < T.length) (h2 : k < U.length) (e : T[k] = U[k]) : T.take (k + 1) = U.take (k + 1) := by
  rw [List.take_succ_eq_append_getElem h1, List.take_succ_eq_append_getElem h2, h, e]
set_option maxRecDepth 100000 in
set_option maxHeartbeats 1000000 in
theorem keepStrings_any (T U : List ByteArray) (hl : T.length ≤ 281474976710656) (hu : U.length ≤ 281474976710656) (A A' : Option Addr) (c c' : Nat) (w : World) (hP : Txs w w.heap.size A T) (hQ : Txs w w.heap.size A' U) :
    Calls Tryd.prog 34 #[.slice A T.length c, .slice A' U.length c'] w fun e w' => e = .returned (.bool (decide (T = U))) ∧ Below w.heap.size w w' := by
  by_cases hlen : T.length = U.length
  · have hlb : ((T.length : Int) != U.length) = false := by rw [hlen]; simp
    rw [hlen] at hlb ⊢
    go_enter Tryd.func34, Tryd.ntmps34
    go_wp2_with fail
    go_loopw [5] (fun i wr => ∃ k : Nat, k ≤ U.length ∧ i = .int .i64 (k : Int) ∧ T.take k = U.take k ∧ Below w.heap.size w wr) (fun i _ => U.length - (intOf i).toNat)
    case atStart => exact ⟨0, Nat.zero_le _, rfl, rfl, Below.refl _ _⟩
    case round =>
      obtain ⟨k, hk, rfl, ht, hB⟩ := hrel
      have HT := Lib.hid ht
      clear ht
      by_cases hlt : k < U.length
      · have hlt2 : k < T.length := by omega
        obtain ⟨ad, rfl, hbl, h0⟩ := hP k T[k] (List.getElem?_eq_getElem hlt2)
        obtain ⟨ad2, rfl, hbl2, h1⟩ := hQ k U[k] (List.getElem?_eq_getElem hlt)
        have g0 := (hB.cell hbl).trans h0
        have g1 := (hB.cell hbl2).trans h1
        have hi : (k : Int) < U.length := by omega
        have HS := Lib.hid (fun e => take_eq_step HT.out hlt2 hlt e)
        have HN : Hid (T[k] ≠ U[k] → T ≠ U) := fun h e => by subst e; exact h rfl
        clear h0 h1 hP hQ HT
        generalize T[k] = x at *
        generalize U[k] = y at *
        cases hq : x.toList == y.toList
        · have hne : Hid (decide (T = U) = false) := decide_eq_false (HN.out (fun e => by rw [e] at hq; simp at hq))
          clear HS HN hlb
          go_wp2_with fail
          go_quiet (fail)
          go_wp2_with fail
          go_ret
          exact ⟨by rw [hne.out]; rfl, below_drewN hB _⟩
        · have HS2 := Lib.hid (HS.out ((eqB_iff x y).1 hq))
          clear HS HN hlb
          go_wp2_with fail
          go_quiet (fail)
          go_wp2_with fail
          refine ⟨⟨k + 1, hlt, by go_num, HS2.out, below_drewN hB _⟩, by simp [intOf]; omega⟩
      · obtain rfl : k = U.length := by omega
        have hi : ¬ (U.length : Int) < U.length := by omega
        have heq : Hid (decide (T = U) = true) := decide_eq_true (by have := HT.out; rwa [List.take_length, List.take_of_length_le (by omega)] at this)
        clear hP hQ HT hlb
        go_wp2_with fail
        go_ret
        exact ⟨by rw [heq.out]; rfl, hB⟩
  · have hlb : ((T.length : Int) != U.length) = true := by rw [bne_iff_ne]; omega
    have hne : Hid (decide (T = U) = false) := decide_eq_false (fun e => hlen (by rw [e]))
    clear hP hQ hlen
    go_enter Tryd.func34, Tryd.ntmps34
    go_wp2_with fail
    go_ret
    exact ⟨by rw [hne.out]; rfl, Below.refl _ _⟩
end Go.Proofs.YtgffbdkngnpfpaaDoor

/- keep.sameObject: its contract. -/
namespace Go.Proofs.YtgffbdkngnpfpaaDoor
open Go.RowKit

/-- two boxed objects -/
structure Bs (w : World) (o q : Ob) (p p' : At) (W : World) : Prop where
  b1 : Arr W w.heap.size 25 (obArr o p)
  b2 : Arr W (w.heap.size + 1) 25 (obArr q p')
  i1 : ObIn W w.heap.size o p
  i2 : ObIn W w.heap.size q p'
  bel : Below w.heap.size w W
theorem Bs.below {w W W' : World} {o q : Ob} {p p' : At} (h : Bs w o q p p' W) (b : Below W.heap.size W W') : Bs w o q p p' W' :=
  ⟨h.b1.below b h.b1.lt, h.b2.below b h.b2.lt, h.i1.below (b.mono h.bel.size), h.i2.below (b.mono h.bel.size), h.bel.trans (b.mono h.bel.size)⟩
theorem Bs.drew {w W : World} {o q : Ob} {p p' : At} (h : Bs w o q p p' W) (n : Nat) : Bs w o q p p' (W.drewN n) := h.below (below_drewN (Below.refl _ _) n)
theorem bs_start {w : World} {o q : Ob} {p p' : At} (h : ObIn w w.heap.size o p) (h' : ObIn w w.heap.size q p') :
    Bs w o q p p' ((w.alloc (.cells (obArr o p) 25)).alloc (.cells (obArr q p') 25)) := by
  have b : Below w.heap.size w ((w.alloc (.cells (obArr o p) 25)).alloc (.cells (obArr q p') 25)) := ((Below.refl _ _).alloc (Nat.le_refl _) _).alloc (by simp) _
  exact ⟨(Arr.new _ _ _).alloc _, Arr.new_at _ _ _ (by simp), h.below b, h'.below b, b⟩
set_option maxRecDepth 100000 in
set_option maxHeartbeats 4000000 in
theorem sameObject_any (o q : Ob) (p p' : At) (ho : o.ents.length ≤ 281474976710656) (hq : q.ents.length ≤ 281474976710656) (hop : o.pars.length ≤ 281474976710656) (hqp : q.pars.length ≤ 281474976710656) (w : World)
    (hO : ObIn w w.heap.size o p) (hQ : ObIn w w.heap.size q p') :
    Calls Tryd.prog 13 #[.agg (obArr o p), .agg (obArr q p')] w fun e w' => e = .returned (.bool (decide (o = q))) ∧ Below w.heap.size w w' := by
  have h1 := Lib.hid (bs_start hO hQ)
  obtain ⟨R, HR⟩ : ∃ R, Hid (R = decide (o = q)) := ⟨_, rfl⟩
  rw [← HR.out]
  clear hO hQ
  generalize hA : obArr o p = arr at *
  generalize hA2 : obArr q p' = arr2 at *
  clear hA hA2
  go_enter Tryd.func13, Tryd.ntmps13
  go_upto_region 1 with fail
  refine wp_forget (Bs w o q p p') h1.out ?_
  clear h1
  intro W hW
  have c2 : W.cell? ⟨w.heap.size, 2, none⟩ = some (.slice p.ea o.ents.length p.ec) := hW.b1.cell 2
  have d2 : W.cell? ⟨w.heap.size + 1, 2, none⟩ = some (.slice p'.ea q.ents.length p'.ec) := hW.b2.cell 2
  cases hlb : (o.ents.length : Int) != q.ents.length
  case true =>
    have hne : Hid (R = false) := by
      show _ = _
      rw [HR.out]
      exact decide_eq_false (fun e => by rw [e] at hlb; simp at hlb)
    clear HR
    go_wp2_with fail
    go_ret
    exact ⟨by rw [hne.out]; rfl, hW.bel⟩
  have hlen : Hid (o.ents.length = q.ents.length) := by show _ = _; simp at hlb; omega
  go_wp2_with fail
  clear c2 d2 hlb
  go_loopw [5] (fun i wr => ∃ k : Nat, k ≤ o.ents.length ∧ i = .int .i64 (k : Int) ∧ o.ents.take k = q.ents.take k ∧ Bs w o q p p' wr) (fun i _ => o.ents.length - (intOf i).toNat)
  case atStart => exact ⟨0, Nat.zero_le _, rfl, rfl, hW⟩
  case round =>
    clear hW W
    obtain ⟨k, hk, rfl, ht, hW⟩ := hrel
    have HT := Lib.hid ht
    clear ht
    have c2 : wr.cell? ⟨w.heap.size, 2, none⟩ = some (.slice p.ea o.ents.length p.ec) := hW.b1.cell 2
    have d2 : wr.cell? ⟨w.heap.size + 1, 2, none⟩ = some (.slice p'.ea q.ents.length p'.ec) := hW.b2.cell 2
    by_cases hlt : k < o.ents.length
    · have hlt2 : k < q.ents.length := by have := hlen.out; omega
      obtain ⟨ad, hea, hbl, h0, h1, h2⟩ := hW.i1.ents k o.ents[k] (List.getElem?_eq_getElem hlt)
      obtain ⟨ad2, hea2, hbl2, k0, k1, k2⟩ := hW.i2.ents k q.ents[k] (List.getElem?_eq_getElem hlt2)
      rw [hea] at c2
      rw [hea2] at d2
      clear hea hea2
      have hi : (k : Int) < o.ents.length := by omega
      have hi2 : (k : Int) < q.ents.length := by omega
      have HS := Lib.hid (fun e => take_eq_step HT.out hlt hlt2 e)
      have HN : Hid (o.ents[k] ≠ q.ents[k] → o ≠ q) := fun h e => by subst e; exact h rfl
      clear HT
      generalize o.ents[k] = x at *
      generalize q.ents[k] = y at *
      obtain ⟨xa, xb, xc⟩ := x
      obtain ⟨ya, yb, yc⟩ := y
      simp only at h0 h1 h2 k0 k1 k2
      have hr := neE_run xa ya xc yc xb yb
      cases hn : neE ⟨xa, xb, xc⟩ ⟨ya, yb, yc⟩
      · rw [hn] at hr
        have HS2 := Lib.hid (HS.out ((neE_iff _ _).1 hn))
        clear HS HN hn HR
        go_wp2_with fail
        go_quiet (fail)
        go_wp2_with fail
        refine ⟨⟨k + 1, hlt, by go_num, HS2.out, hW.drew _⟩, by simp [intOf]; omega⟩
      · rw [hn] at hr
        have hne : Hid (R = false) := by
          show _ = _
          rw [HR.out]
          exact decide_eq_false (HN.out (fun e => by rw [(neE_iff _ _).2 e] at hn; cases hn))
        clear HS HN hn HR
        go_wp2_with fail
        go_quiet (fail)
        go_wp2_with fail
        go_ret
        exact ⟨by rw [hne.out]; rfl, (hW.drew _).bel⟩
    · obtain rfl : k = o.ents.length := by omega
      have hi : ¬ (o.ents.length : Int) < o.ents.length := by omega
      have hents : Hid (o.ents = q.ents) := by
        show _ = _
        have := HT.out
        rwa [List.take_length, hlen.out, List.take_length] at this
      clear HT hlen hk hlt
      have CP := Lib.hid (keepStrings_any o.pars q.pars hop hqp p.pa p'.pa p.pc p'.pc)
      have HPar : Hid (∀ W, Bs w o q p p' W → Txs W W.heap.size p.pa o.pars ∧ Txs W W.heap.size p'.pa q.pars) := fun W h => ⟨h.i1.pars.mono h.bel.size, h.i2.pars.mono h.bel.size⟩
      have c0 : wr.cell? ⟨w.heap.size, 0, none⟩ = some (.int .i64 o.kind) := hW.b1.cell 0
      have d0 : wr.cell? ⟨w.heap.size + 1, 0, none⟩ = some (.int .i64 q.kind) := hW.b2.cell 0
      have c1 : wr.cell? ⟨w.heap.size, 1, none⟩ = some (.string o.data) := hW.b1.cell 1
      have d1 : wr.cell? ⟨w.heap.size + 1, 1, none⟩ = some (.string q.data) := hW.b2.cell 1
      have c3 : wr.cell? ⟨w.heap.size, 3, none⟩ = some (.string o.tree) := hW.b1.cell 3
      have d3 : wr.cell? ⟨w.heap.size + 1, 3, none⟩ = some (.string q.tree) := hW.b2.cell 3
      have c4 : wr.cell? ⟨w.heap.size, 4, none⟩ = some (.slice p.pa o.pars.length p.pc) := hW.b1.cell 4
      have d4 : wr.cell? ⟨w.heap.size + 1, 4, none⟩ = some (.slice p'.pa q.pars.length p'.pc) := hW.b2.cell 4
      have c5 : wr.cell? ⟨w.heap.size, 5, none⟩ = some (.string o.who) := hW.b1.cell 5
      have d5 : wr.cell? ⟨w.heap.size + 1, 5, none⟩ = some (.string q.who) := hW.b2.cell 5
      have c6 : wr.cell? ⟨w.heap.size, 6, none⟩ = some (.string o.note) := hW.b1.cell 6
      have d6 : wr.cell? ⟨w.heap.size + 1, 6, none⟩ = some (.string q.note) := hW.b2.cell 6
      have c7 : wr.cell? ⟨w.heap.size, 7, none⟩ = some (.int .i64 o.time) := hW.b1.cell 7
      have d7 : wr.cell? ⟨w.heap.size + 1, 7, none⟩ = some (.int .i64 q.time) := hW.b2.cell 7
      have c8 : wr.cell? ⟨w.heap.size, 8, none⟩ = some (.string o.target) := hW.b1.cell 8
      have d8 : wr.cell? ⟨w.heap.size + 1, 8, none⟩ = some (.string q.target) := hW.b2.cell 8
      cases hkind : o.kind == q.kind
      case false =>
        have hne : Hid (R = false) := by
          show _ = _
          rw [HR.out]
          exact decide_eq_false (fun e => by rw [e] at hkind; simp at hkind)
        clear HR
        go_wp2_with fail
        go_ret
        exact ⟨by rw [hne.out]; rfl, hW.bel⟩
      cases hdata : o.data.toList == q.data.toList
      case false =>
        have hne : Hid (R = false) := by
          show _ = _
          rw [HR.out]
          exact decide_eq_false (fun e => by rw [e] at hdata; simp at hdata)
        clear HR
        go_wp2_with fail
        go_ret
        exact ⟨by rw [hne.out]; rfl, hW.bel⟩
      cases htree : o.tree.toList == q.tree.toList
      case false =>
        have hne : Hid (R = false) := by
          show _ = _
          rw [HR.out]
          exact decide_eq_false (fun e => by rw [e] at htree; simp at htree)
        clear HR
        go_wp2_with fail
        go_ret
        exact ⟨by rw [hne.out]; rfl, hW.bel⟩
      go_wp2_with fail
      have qp := CP.out wr (HPar.out wr hW).1 (HPar.out wr hW).2
      (with_reducible refine qp.mono ?_)
      clear qp CP HPar
      rintro _ W2 ⟨rfl, b2⟩
      replace hW := hW.below b2
      clear c0 c1 c2 c3 c4 c5 c6 c7 c8 d0 d1 d2 d3 d4 d5 d6 d7 d8 b2
      have c5 : W2.cell? ⟨w.heap.size, 5, none⟩ = some (.string o.who) := hW.b1.cell 5
      have d5 : W2.cell? ⟨w.heap.size + 1, 5, none⟩ = some (.string q.who) := hW.b2.cell 5
      have c6 : W2.cell? ⟨w.heap.size, 6, none⟩ = some (.string o.note) := hW.b1.cell 6
      have d6 : W2.cell? ⟨w.heap.size + 1, 6, none⟩ = some (.string q.note) := hW.b2.cell 6
      have c7 : W2.cell? ⟨w.heap.size, 7, none⟩ = some (.int .i64 o.time) := hW.b1.cell 7
      have d7 : W2.cell? ⟨w.heap.size + 1, 7, none⟩ = some (.int .i64 q.time) := hW.b2.cell 7
      have c8 : W2.cell? ⟨w.heap.size, 8, none⟩ = some (.string o.target) := hW.b1.cell 8
      have d8 : W2.cell? ⟨w.heap.size + 1, 8, none⟩ = some (.string q.target) := hW.b2.cell 8
      by_cases hpars : o.pars = q.pars
      case neg =>
        rw [decide_eq_false hpars]
        have hne : Hid (R = false) := by
          show _ = _
          rw [HR.out]
          exact decide_eq_false (fun e => by exact hpars (by rw [e]))
        clear HR
        go_wp2_with fail
        go_ret
        exact ⟨by rw [hne.out]; rfl, hW.bel⟩
      rw [decide_eq_true hpars]
      have HP := Lib.hid hpars
      clear hpars
      cases hwho : o.who.toList == q.who.toList
      case false =>
        have hne : Hid (R = false) := by
          show _ = _
          rw [HR.out]
          exact decide_eq_false (fun e => by rw [e] at hwho; simp at hwho)
        clear HR
        go_wp2_with fail
        go_ret
        exact ⟨by rw [hne.out]; rfl, hW.bel⟩
      cases hnote : o.note.toList == q.note.toList
      case false =>
        have hne : Hid (R = false) := by
          show _ = _
          rw [HR.out]
          exact decide_eq_false (fun e => by rw [e] at hnote; simp at hnote)
        clear HR
        go_wp2_with fail
        go_ret
        exact ⟨by rw [hne.out]; rfl, hW.bel⟩
      cases htime : o.time == q.time
      case false =>
        have hne : Hid (R = false) := by
          show _ = _
          rw [HR.out]
          exact decide_eq_false (fun e => by rw [e] at htime; simp at htime)
        clear HR
        go_wp2_with fail
        go_ret
        exact ⟨by rw [hne.out]; rfl, hW.bel⟩
      cases htarget : o.target.toList == q.target.toList
      case false =>
        have hne : Hid (R = false) := by
          show _ = _
          rw [HR.out]
          exact decide_eq_false (fun e => by rw [e] at htarget; simp at htarget)
        clear HR
        go_wp2_with fail
        go_ret
        exact ⟨by rw [hne.out]; rfl, hW.bel⟩
      have hyes : Hid (R = true) := by
        show _ = _
        rw [HR.out]
        refine decide_eq_true ?_
        have e1 : o.kind = q.kind := by simpa using hkind
        have e2 := (eqB_iff _ _).1 hdata
        have e3 := hents.out
        have e4 := (eqB_iff _ _).1 htree
        have e5 := HP.out
        have e6 := (eqB_iff _ _).1 hwho
        have e7 := (eqB_iff _ _).1 hnote
        have e8 : o.time = q.time := by simpa using htime
        have e9 := (eqB_iff _ _).1 htarget
        clear hkind hdata htree hwho hnote htime htarget hents HP HR c5 c6 c7 c8 d5 d6 d7 d8 hW hi ho hq hop hqp
        obtain ⟨o1, o2, o3, o4, o5, o6, o7, o8, o9⟩ := o
        obtain ⟨q1, q2, q3, q4, q5, q6, q7, q8, q9⟩ := q
        simp only at e1 e2 e3 e4 e5 e6 e7 e8 e9
        rw [e1, e2, e3, e4, e5, e6, e7, e8, e9]
      clear HR
      go_wp2_with fail
      go_ret
      exact ⟨by rw [hyes.out]; rfl, hW.bel⟩
end Go.Proofs.YtgffbdkngnpfpaaDoor

/- ref.SameStrings: its contract. -/
namespace Go.Proofs.YtgffbdkngnpfpaaDoor
open Go.RowKit

set_option maxRecDepth 100000 in
set_option maxHeartbeats 1000000 in
theorem RefStrings_any (T U : List ByteArray) (hl : T.length ≤ 281474976710656) (hu : U.length ≤ 281474976710656) (A A' : Option Addr) (c c' : Nat) (w : World) (hP : Txs w w.heap.size A T) (hQ : Txs w w.heap.size A' U) :
    Calls Tryd.prog 26 #[.slice A T.length c, .slice A' U.length c'] w fun e w' => e = .returned (.bool (decide (T = U))) ∧ Below w.heap.size w w' := by
  by_cases hlen : T.length = U.length
  · have hlb : ((T.length : Int) != U.length) = false := by rw [hlen]; simp
    rw [hlen] at hlb ⊢
    go_enter Tryd.func26, Tryd.ntmps26
    go_wp2_with fail
    go_loopw [13] (fun i wr => ∃ k : Nat, k ≤ U.length ∧ i = .int .i64 (k : Int) ∧ T.take k = U.take k ∧ Below w.heap.size w wr) (fun i _ => U.length - (intOf i).toNat)
    case atStart => exact ⟨0, Nat.zero_le _, rfl, rfl, Below.refl _ _⟩
    case round =>
      obtain ⟨k, hk, rfl, ht, hB⟩ := hrel
      have HT := Lib.hid ht
      clear ht
      by_cases hlt : k < U.length
      · have hlt2 : k < T.length := by omega
        obtain ⟨ad, rfl, hbl, h0⟩ := hP k T[k] (List.getElem?_eq_getElem hlt2)
        obtain ⟨ad2, rfl, hbl2, h1⟩ := hQ k U[k] (List.getElem?_eq_getElem hlt)
        have g0 := (hB.cell hbl).trans h0
        have g1 := (hB.cell hbl2).trans h1
        have hi : (k : Int) < U.length := by omega
        have HS := Lib.hid (fun e => take_eq_step HT.out hlt2 hlt e)
        have HN : Hid (T[k] ≠ U[k] → T ≠ U) := fun h e => by subst e; exact h rfl
        clear h0 h1 hP hQ HT
        generalize T[k] = x at *
        generalize U[k] = y at *
        cases hq : x.toList == y.toList
        · have hne : Hid (decide (T = U) = false) := decide_eq_false (HN.out (fun e => by rw [e] at hq; simp at hq))
          clear HS HN hlb
          go_wp2_with fail
          go_quiet (fail)
          go_wp2_with fail
          go_ret
          exact ⟨by rw [hne.out]; rfl, below_drewN hB _⟩
        · have HS2 := Lib.hid (HS.out ((eqB_iff x y).1 hq))
          clear HS HN hlb
          go_wp2_with fail
          go_quiet (fail)
          go_wp2_with fail
          refine ⟨⟨k + 1, hlt, by go_num, HS2.out, below_drewN hB _⟩, by simp [intOf]; omega⟩
      · obtain rfl : k = U.length := by omega
        have hi : ¬ (U.length : Int) < U.length := by omega
        have heq : Hid (decide (T = U) = true) := decide_eq_true (by have := HT.out; rwa [List.take_length, List.take_of_length_le (by omega)] at this)
        clear hP hQ HT hlb
        go_wp2_with fail
        go_ret
        exact ⟨by rw [heq.out]; rfl, hB⟩
  · have hlb : ((T.length : Int) != U.length) = true := by rw [bne_iff_ne]; omega
    have hne : Hid (decide (T = U) = false) := decide_eq_false (fun e => hlen (by rw [e]))
    clear hP hQ hlen
    go_enter Tryd.func26, Tryd.ntmps26
    go_wp2_with fail
    go_ret
    exact ⟨by rw [hne.out]; rfl, Below.refl _ _⟩
end Go.Proofs.YtgffbdkngnpfpaaDoor

/- ref.SameObject: its contract. -/
namespace Go.Proofs.YtgffbdkngnpfpaaDoor
open Go.RowKit

set_option maxRecDepth 100000 in
set_option maxHeartbeats 4000000 in
theorem RefSameObject_any (o q : Ob) (p p' : At) (ho : o.ents.length ≤ 281474976710656) (hq : q.ents.length ≤ 281474976710656) (hop : o.pars.length ≤ 281474976710656) (hqp : q.pars.length ≤ 281474976710656) (w : World)
    (hO : ObIn w w.heap.size o p) (hQ : ObIn w w.heap.size q p') :
    Calls Tryd.prog 7 #[.agg (obArr o p), .agg (obArr q p')] w fun e w' => e = .returned (.bool (decide (o = q))) ∧ Below w.heap.size w w' := by
  have h1 := Lib.hid (bs_start hO hQ)
  obtain ⟨R, HR⟩ : ∃ R, Hid (R = decide (o = q)) := ⟨_, rfl⟩
  rw [← HR.out]
  clear hO hQ
  generalize hA : obArr o p = arr at *
  generalize hA2 : obArr q p' = arr2 at *
  clear hA hA2
  go_enter Tryd.func7, Tryd.ntmps7
  go_upto_region 1 with fail
  refine wp_forget (Bs w o q p p') h1.out ?_
  clear h1
  intro W hW
  have c2 : W.cell? ⟨w.heap.size, 2, none⟩ = some (.slice p.ea o.ents.length p.ec) := hW.b1.cell 2
  have d2 : W.cell? ⟨w.heap.size + 1, 2, none⟩ = some (.slice p'.ea q.ents.length p'.ec) := hW.b2.cell 2
  cases hlb : (o.ents.length : Int) != q.ents.length
  case true =>
    have hne : Hid (R = false) := by
      show _ = _
      rw [HR.out]
      exact decide_eq_false (fun e => by rw [e] at hlb; simp at hlb)
    clear HR
    go_wp2_with fail
    go_ret
    exact ⟨by rw [hne.out]; rfl, hW.bel⟩
  have hlen : Hid (o.ents.length = q.ents.length) := by show _ = _; simp at hlb; omega
  go_wp2_with fail
  clear c2 d2 hlb
  go_loopw [16] (fun i wr => ∃ k : Nat, k ≤ o.ents.length ∧ i = .int .i64 (k : Int) ∧ o.ents.take k = q.ents.take k ∧ Bs w o q p p' wr) (fun i _ => o.ents.length - (intOf i).toNat)
  case atStart => exact ⟨0, Nat.zero_le _, rfl, rfl, hW⟩
  case round =>
    clear hW W
    obtain ⟨k, hk, rfl, ht, hW⟩ := hrel
    have HT := Lib.hid ht
    clear ht
    have c2 : wr.cell? ⟨w.heap.size, 2, none⟩ = some (.slice p.ea o.ents.length p.ec) := hW.b1.cell 2
    have d2 : wr.cell? ⟨w.heap.size + 1, 2, none⟩ = some (.slice p'.ea q.ents.length p'.ec) := hW.b2.cell 2
    by_cases hlt : k < o.ents.length
    · have hlt2 : k < q.ents.length := by have := hlen.out; omega
      obtain ⟨ad, hea, hbl, h0, h1, h2⟩ := hW.i1.ents k o.ents[k] (List.getElem?_eq_getElem hlt)
      obtain ⟨ad2, hea2, hbl2, k0, k1, k2⟩ := hW.i2.ents k q.ents[k] (List.getElem?_eq_getElem hlt2)
      rw [hea] at c2
      rw [hea2] at d2
      clear hea hea2
      have hi : (k : Int) < o.ents.length := by omega
      have hi2 : (k : Int) < q.ents.length := by omega
      have HS := Lib.hid (fun e => take_eq_step HT.out hlt hlt2 e)
      have HN : Hid (o.ents[k] ≠ q.ents[k] → o ≠ q) := fun h e => by subst e; exact h rfl
      clear HT
      generalize o.ents[k] = x at *
      generalize q.ents[k] = y at *
      obtain ⟨xa, xb, xc⟩ := x
      obtain ⟨ya, yb, yc⟩ := y
      simp only at h0 h1 h2 k0 k1 k2
      have hr := neE_run xa ya xc yc xb yb
      cases hn : neE ⟨xa, xb, xc⟩ ⟨ya, yb, yc⟩
      · rw [hn] at hr
        have HS2 := Lib.hid (HS.out ((neE_iff _ _).1 hn))
        clear HS HN hn HR
        go_wp2_with fail
        go_quiet (fail)
        go_wp2_with fail
        refine ⟨⟨k + 1, hlt, by go_num, HS2.out, hW.drew _⟩, by simp [intOf]; omega⟩
      · rw [hn] at hr
        have hne : Hid (R = false) := by
          show _ = _
          rw [HR.out]
          exact decide_eq_false (HN.out (fun e => by rw [(neE_iff _ _).2 e] at hn; cases hn))
        clear HS HN hn HR
        go_wp2_with fail
        go_quiet (fail)
        go_wp2_with fail
        go_ret
        exact ⟨by rw [hne.out]; rfl, (hW.drew _).bel⟩
    · obtain rfl : k = o.ents.length := by omega
      have hi : ¬ (o.ents.length : Int) < o.ents.length := by omega
      have hents : Hid (o.ents = q.ents) := by
        show _ = _
        have := HT.out
        rwa [List.take_length, hlen.out, List.take_length] at this
      clear HT hlen hk hlt
      have CP := Lib.hid (RefStrings_any o.pars q.pars hop hqp p.pa p'.pa p.pc p'.pc)
      have HPar : Hid (∀ W, Bs w o q p p' W → Txs W W.heap.size p.pa o.pars ∧ Txs W W.heap.size p'.pa q.pars) := fun W h => ⟨h.i1.pars.mono h.bel.size, h.i2.pars.mono h.bel.size⟩
      have c0 : wr.cell? ⟨w.heap.size, 0, none⟩ = some (.int .i64 o.kind) := hW.b1.cell 0
      have d0 : wr.cell? ⟨w.heap.size + 1, 0, none⟩ = some (.int .i64 q.kind) := hW.b2.cell 0
      have c1 : wr.cell? ⟨w.heap.size, 1, none⟩ = some (.string o.data) := hW.b1.cell 1
      have d1 : wr.cell? ⟨w.heap.size + 1, 1, none⟩ = some (.string q.data) := hW.b2.cell 1
      have c3 : wr.cell? ⟨w.heap.size, 3, none⟩ = some (.string o.tree) := hW.b1.cell 3
      have d3 : wr.cell? ⟨w.heap.size + 1, 3, none⟩ = some (.string q.tree) := hW.b2.cell 3
      have c4 : wr.cell? ⟨w.heap.size, 4, none⟩ = some (.slice p.pa o.pars.length p.pc) := hW.b1.cell 4
      have d4 : wr.cell? ⟨w.heap.size + 1, 4, none⟩ = some (.slice p'.pa q.pars.length p'.pc) := hW.b2.cell 4
      have c5 : wr.cell? ⟨w.heap.size, 5, none⟩ = some (.string o.who) := hW.b1.cell 5
      have d5 : wr.cell? ⟨w.heap.size + 1, 5, none⟩ = some (.string q.who) := hW.b2.cell 5
      have c6 : wr.cell? ⟨w.heap.size, 6, none⟩ = some (.string o.note) := hW.b1.cell 6
      have d6 : wr.cell? ⟨w.heap.size + 1, 6, none⟩ = some (.string q.note) := hW.b2.cell 6
      have c7 : wr.cell? ⟨w.heap.size, 7, none⟩ = some (.int .i64 o.time) := hW.b1.cell 7
      have d7 : wr.cell? ⟨w.heap.size + 1, 7, none⟩ = some (.int .i64 q.time) := hW.b2.cell 7
      have c8 : wr.cell? ⟨w.heap.size, 8, none⟩ = some (.string o.target) := hW.b1.cell 8
      have d8 : wr.cell? ⟨w.heap.size + 1, 8, none⟩ = some (.string q.target) := hW.b2.cell 8
      cases hkind : o.kind == q.kind
      case false =>
        have hne : Hid (R = false) := by
          show _ = _
          rw [HR.out]
          exact decide_eq_false (fun e => by rw [e] at hkind; simp at hkind)
        clear HR
        go_wp2_with fail
        go_ret
        exact ⟨by rw [hne.out]; rfl, hW.bel⟩
      cases hdata : o.data.toList == q.data.toList
      case false =>
        have hne : Hid (R = false) := by
          show _ = _
          rw [HR.out]
          exact decide_eq_false (fun e => by rw [e] at hdata; simp at hdata)
        clear HR
        go_wp2_with fail
        go_ret
        exact ⟨by rw [hne.out]; rfl, hW.bel⟩
      cases htree : o.tree.toList == q.tree.toList
      case false =>
        have hne : Hid (R = false) := by
          show _ = _
          rw [HR.out]
          exact decide_eq_false (fun e => by rw [e] at htree; simp at htree)
        clear HR
        go_wp2_with fail
        go_ret
        exact ⟨by rw [hne.out]; rfl, hW.bel⟩
      go_wp2_with fail
      have qp := CP.out wr (HPar.out wr hW).1 (HPar.out wr hW).2
      (with_reducible refine qp.mono ?_)
      clear qp CP HPar
      rintro _ W2 ⟨rfl, b2⟩
      replace hW := hW.below b2
      clear c0 c1 c2 c3 c4 c5 c6 c7 c8 d0 d1 d2 d3 d4 d5 d6 d7 d8 b2
      have c5 : W2.cell? ⟨w.heap.size, 5, none⟩ = some (.string o.who) := hW.b1.cell 5
      have d5 : W2.cell? ⟨w.heap.size + 1, 5, none⟩ = some (.string q.who) := hW.b2.cell 5
      have c6 : W2.cell? ⟨w.heap.size, 6, none⟩ = some (.string o.note) := hW.b1.cell 6
      have d6 : W2.cell? ⟨w.heap.size + 1, 6, none⟩ = some (.string q.note) := hW.b2.cell 6
      have c7 : W2.cell? ⟨w.heap.size, 7, none⟩ = some (.int .i64 o.time) := hW.b1.cell 7
      have d7 : W2.cell? ⟨w.heap.size + 1, 7, none⟩ = some (.int .i64 q.time) := hW.b2.cell 7
      have c8 : W2.cell? ⟨w.heap.size, 8, none⟩ = some (.string o.target) := hW.b1.cell 8
      have d8 : W2.cell? ⟨w.heap.size + 1, 8, none⟩ = some (.string q.target) := hW.b2.cell 8
      by_cases hpars : o.pars = q.pars
      case neg =>
        rw [decide_eq_false hpars]
        have hne : Hid (R = false) := by
          show _ = _
          rw [HR.out]
          exact decide_eq_false (fun e => by exact hpars (by rw [e]))
        clear HR
        go_wp2_with fail
        go_ret
        exact ⟨by rw [hne.out]; rfl, hW.bel⟩
      rw [decide_eq_true hpars]
      have HP := Lib.hid hpars
      clear hpars
      cases hwho : o.who.toList == q.who.toList
      case false =>
        have hne : Hid (R = false) := by
          show _ = _
          rw [HR.out]
          exact decide_eq_false (fun e => by rw [e] at hwho; simp at hwho)
        clear HR
        go_wp2_with fail
        go_ret
        exact ⟨by rw [hne.out]; rfl, hW.bel⟩
      cases hnote : o.note.toList == q.note.toList
      case false =>
        have hne : Hid (R = false) := by
          show _ = _
          rw [HR.out]
          exact decide_eq_false (fun e => by rw [e] at hnote; simp at hnote)
        clear HR
        go_wp2_with fail
        go_ret
        exact ⟨by rw [hne.out]; rfl, hW.bel⟩
      cases htime : o.time == q.time
      case false =>
        have hne : Hid (R = false) := by
          show _ = _
          rw [HR.out]
          exact decide_eq_false (fun e => by rw [e] at htime; simp at htime)
        clear HR
        go_wp2_with fail
        go_ret
        exact ⟨by rw [hne.out]; rfl, hW.bel⟩
      cases htarget : o.target.toList == q.target.toList
      case false =>
        have hne : Hid (R = false) := by
          show _ = _
          rw [HR.out]
          exact decide_eq_false (fun e => by rw [e] at htarget; simp at htarget)
        clear HR
        go_wp2_with fail
        go_ret
        exact ⟨by rw [hne.out]; rfl, hW.bel⟩
      have hyes : Hid (R = true) := by
        show _ = _
        rw [HR.out]
        refine decide_eq_true ?_
        have e1 : o.kind = q.kind := by simpa using hkind
        have e2 := (eqB_iff _ _).1 hdata
        have e3 := hents.out
        have e4 := (eqB_iff _ _).1 htree
        have e5 := HP.out
        have e6 := (eqB_iff _ _).1 hwho
        have e7 := (eqB_iff _ _).1 hnote
        have e8 : o.time = q.time := by simpa using htime
        have e9 := (eqB_iff _ _).1 htarget
        clear hkind hdata htree hwho hnote htime htarget hents HP HR c5 c6 c7 c8 d5 d6 d7 d8 hW hi ho hq hop hqp
        obtain ⟨o1, o2, o3, o4, o5, o6, o7, o8, o9⟩ := o
        obtain ⟨q1, q2, q3, q4, q5, q6, q7, q8, q9⟩ := q
        simp only at e1 e2 e3 e4 e5 e6 e7 e8 e9
        rw [e1, e2, e3, e4, e5, e6, e7, e8, e9]
      clear HR
      go_wp2_with fail
      go_ret
      exact ⟨by rw [hyes.out]; rfl, hW.bel⟩
end Go.Proofs.YtgffbdkngnpfpaaDoor
