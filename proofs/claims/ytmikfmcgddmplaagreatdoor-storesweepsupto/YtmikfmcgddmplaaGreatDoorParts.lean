/- Texts in one: StClsL, StClsE, DkRefA, DkRefB, Tests, Good, End, Eq, TestsK, Parts. -/
import Derived.Test.YtmikfmcgddmplaaGreatDoorUnhexW
import Derived.Test.YtmikfmcgddmplaaGreatDoorWStep
import Derived.Test.YtmikfmcgddmplaaGreatDoorORefDec
import Derived.Test.YtmikfmcgddmplaaGreatDoorOLinks
import Derived.Test.YtmikfmcgddmplaaGreatDoorLists
import Derived.Test.YtmikfmcgddmplaaGreatDoorStSearch
import Derived.Test.YtmikfmcgddmplaaGreatDoorOMapB
import Derived.Test.YtmikfmcgddmplaaGreatDoorStOnP
import Derived.Test.YtmikfmcgddmplaaGreatDoorRefMath
import Derived.Laws.IdiomStrings
import Derived.Test.YtmikfmcgddmplaaGreatDoorHex
/- ref.Closed at law.tells$1: its contract. -/
namespace Go.Proofs.YtmikfmcgddmplaaGreatDoor
open Go.RowKit

/-- texts stay where a map changes -/
theorem Txs.map {w w' : World} {B gh : Nat} {A : Option Addr} {T : List ByteArray} {l : List KV} (h : Txs w B A T) (hM : MapAt w gh l) (k : w.grownBy w' (some gh)) (hB : B ≤ w.heap.size) : Txs w' B A T := fun j x hx => by
  obtain ⟨ad, e, hb, hc⟩ := h j x hx
  refine ⟨ad, e, hb, (World.cell?_of_block (k.block _ (by omega) (fun e2 => ?_))).trans hc⟩
  have e3 : (ad.add j).block = gh := Option.some.inj e2
  unfold World.cell? at hc
  rw [e3, show w.heap[gh]? = _ from hM] at hc
  cases hc
theorem own_mapS {w : World} {base : Nat} {e : TypeId} {size g : Nat} {v : Value} {n : Nat} {xs : List Value} {l : List KV} (h : w.ownsRow base e size v n xs) (h' : MapAt w g l) : v.ownBlock ≠ some g := fun q => by
  rcases h.2 with ⟨rfl, _⟩ | ⟨k, cap, cur, rfl, _, hg, _⟩
  · cases q
  · cases q
    have := hg.symm.trans h'
    cases this
/-- what a level keeps: the ids of the level, the ids found, what is next -/
structure Lv (next : List ByteArray) (NA : Option Addr) (base gh : Nat) (w : World) (had more : List ByteArray) (m : Value) (W : World) : Prop where
  nx : Txs W base NA next
  set : MapAt W gh (hx had)
  own : W.ownsRow base 9 1 m more.length (more.map sv)
  lo : w.heap.size ≤ gh
  hi : gh < base
  size : base ≤ W.heap.size
  bel : Below w.heap.size w W
section
variable {next had more : List ByteArray} {NA : Option Addr} {base gh : Nat} {w W W' : World} {m : Value}
theorem Lv.below (h : Lv next NA base gh w had more m W) (b : Below W.heap.size W W') : Lv next NA base gh w had more m W' :=
  ⟨h.nx.below (b.mono h.size), h.set.below b h.set.lt, own_kp h.own (Kp.bel (X := fun _ => False) b) (fun _ _ x => x), h.lo, h.hi, Nat.le_trans h.size b.size, h.bel.trans (b.mono h.bel.size)⟩
theorem Lv.up (h : Lv next NA base gh w had more m W) {x : ByteArray} (hx' : memB x had = false) (hM : MapAt W' gh (upL x true (hx had))) (k : W.grownBy W' (some gh)) : Lv next NA base gh w (had ++ [x]) more m W' := by
  have hlo := h.lo
  rw [hx_up hx'] at hM
  exact ⟨h.nx.map h.set k h.size, hM, own_kp h.own (Kp.gb k) (fun g hg e => own_mapS h.own h.set (by rw [hg]; exact e.symm)), h.lo, h.hi, Nat.le_trans h.size k.size, h.bel.grown k h.bel.size (fun g hg => by cases hg; exact hlo)⟩
theorem Lv.app (h : Lv next NA base gh w had more m W) {m' : Value} {T : List ByteArray} (o : W'.ownsRow base 9 1 m' (more.length + T.length) (more.map sv ++ T.map sv)) (k : W.grownBy W' m.ownBlock) : Lv next NA base gh w had (more ++ T) m' W' := by
  have hlo := h.lo
  have hhi := h.hi
  have hb : Below base W W' := Below.grown (Below.refl _ _) k h.size (fun g hg => own_row_ge h.own g hg)
  refine ⟨h.nx.below hb, h.set.kept k (own_mapS h.own h.set).symm, ?_, h.lo, h.hi, Nat.le_trans h.size k.size, h.bel.trans (hb.mono (by omega))⟩
  rw [List.length_append, List.map_append]
  exact o
end
/-- where a level stands: k of its ids are looked at -/
def LvRel (G : ByteArray → ByteArray × Int) (next : List ByteArray) (NA : Option Addr) (R : List ByteArray × List ByteArray × Bool × Bool) (h0 base gh : Nat) (w : World) (i lv wv mv : Value) (wr : World) : Prop :=
  ∃ (k : Nat) (had more : List ByteArray) (la wo : Bool) (m0 : Value), i = .int .i64 (k : Int) ∧ lv = .bool la ∧ wv = .bool wo ∧ m0 = mv ∧ k ≤ next.length ∧ had.Nodup ∧ Lv next NA base gh w had more m0 wr ∧
    h0 ≤ had.length ∧ more.length + 64 * h0 ≤ 64 * had.length ∧ had.length ≤ h0 + k ∧ lvlO G (next.drop k) had more la wo = R
/-- where the document's Closed stands: n levels more at most -/
def ClRelS (G : ByteArray → ByteArray × Int) (ans : List ByteArray × Int) (gh : Nat) (w : World) (n : Nat) (nv lv wv mv : Value) (wr : World) : Prop :=
  ∃ (next had : List ByteArray) (la wo many : Bool) (A : Option Addr) (c : Nat), nv = .slice A next.length c ∧ lv = .bool la ∧ wv = .bool wo ∧ mv = .bool many ∧ Txs wr wr.heap.size A next ∧ had.Nodup ∧ MapAt wr gh (hx had) ∧ w.heap.size ≤ gh ∧ Below w.heap.size w wr ∧
    (many = true → ans = ([], 6)) ∧ (many = false → next.length ≤ 1048576 ∧ had.length ≤ 400 ∧ closedGo G n next had la wo = ans ∧ (next = [] → 1 ≤ n) ∧ (next ≠ [] → 402 ≤ n + had.length))
theorem run_lenS {w : World} {b : Nat} {l : List KV} (h : MapAt w b l) (ty : TypeId) : (Builtin.len_ #[62] ty #[.map (some b)]).run Tryz.prog w = .ok (.int .i64 (l.length : Int)) w := by
  simp [Builtin.len_, run_underlying Tryz.underlying62, MapKept.run_getObj_map h, goInt, Result.andThen, mkEs_len]
theorem Ens.map {w w' : World} {B gh : Nat} {A : Option Addr} {L : List Ent} {l : List KV} (h : Ens w B A L) (hM : MapAt w gh l) (k : w.grownBy w' (some gh)) (hB : B ≤ w.heap.size) : Ens w' B A L := fun j x hx => by
  obtain ⟨ad, e, hb, h0, h1, h2⟩ := h j x hx
  have hne : some gh ≠ some (ad.add (j * 3)).block := fun e2 => by
    have e3 : (ad.add (j * 3)).block = gh := (Option.some.inj e2).symm
    unfold World.cell? at h0
    rw [e3, show w.heap[gh]? = _ from hM] at h0
    cases h0
  have hk : w'.heap[(ad.add (j * 3)).block]? = w.heap[(ad.add (j * 3)).block]? := k.block _ (by omega) (fun e => hne e.symm)
  exact ⟨ad, e, hb, (World.cell?_of_block hk).trans h0, (World.cell?_of_block (a := ⟨(ad.add (j * 3)).block, (ad.add (j * 3)).off + 1, none⟩) hk).trans h1, (World.cell?_of_block (a := ⟨(ad.add (j * 3)).block, (ad.add (j * 3)).off + 2, none⟩) hk).trans h2⟩
theorem ObIn.map {w w' : World} {gh : Nat} {o : Ob} {p : At} {l : List KV} (h : ObIn w w.heap.size o p) (hM : MapAt w gh l) (k : w.grownBy w' (some gh)) : ObIn w' w'.heap.size o p :=
  ⟨(h.ents.map hM k (Nat.le_refl _)).mono k.size, (h.pars.map hM k (Nat.le_refl _)).mono k.size, h.room⟩
theorem arr_mapS {w w' : World} {g gh : Nat} {t : TypeId} {cs : Array Value} {l : List KV} (h : Arr w g t cs) (hM : MapAt w gh l) (k : w.grownBy w' (some gh)) : Arr w' g t cs := h.kept k (fun e => by
  have e2 := Option.some.inj e
  subst e2
  have := (show w.heap[g]? = _ from h).symm.trans hM
  cases this)
theorem memB_app {x : ByteArray} {H : List ByteArray} (h : memB x H = false) (hn : H.Nodup) : (H ++ [x]).Nodup := by
  rw [List.nodup_append]
  refine ⟨hn, by simp, fun a ha b hb e => ?_⟩
  rw [List.mem_singleton.1 hb] at e
  rw [e] at ha
  rw [memB_iff.2 ha] at h
  cases h
theorem own_one {W : World} {x : ByteArray} {B : Nat} (hB : B ≤ W.heap.size) : (W.alloc (.cells #[.string x] 9)).ownsRow B 9 1 (.slice (some ⟨W.heap.size, 0, none⟩) 1 1) 1 ([x].map sv) :=
  ⟨rfl, .inr ⟨W.heap.size, 1, #[.string x], rfl, hB, heap_alloc_new W _, Nat.le_refl _, by unfold maxLen; omega, rfl, rfl⟩⟩
theorem one_cell (wr : World) (x : ByteArray) : ∀ j u, ([x].map sv)[j]? = some u → (wr.alloc (.cells #[.string x] 9)).drew.cell? ((⟨wr.heap.size, 0, none⟩ : Addr).add j) = some u := fun j u h => by
  cases j with
  | zero =>
    rw [← Option.some.inj h]
    exact (Arr.new wr _ _).cell 0
  | succ j => simp at h
/-- append onto a slice that has no room: a row of its own -/
theorem run_app_grown (W : World) (base : Nat) (ty : TypeId) (A : Option Addr) (i : Nat) (T0 : List ByteArray) (hT : T0.length = i) (hA : News W A i (T0.map sv)) (ad2 : Addr) (m c2 : Nat) (N : List ByteArray) (hN : N.length = m)
    (hn : ∀ j u, (N.map sv)[j]? = some u → W.cell? (ad2.add j) = some u) (hm : 0 < m) (hl : i + m ≤ 1000) (hb : base ≤ W.heap.size) :
    ∃ v' w', (Builtin.append_ #[22, 22] ty #[.slice A i i, .slice (some ad2) m c2]).run Tryz.prog W = .ok v' w' ∧ w'.ownsRow base 9 1 v' (i + m) ((T0 ++ N).map sv) ∧ Below W.heap.size W w' := by
  obtain ⟨si, hsi, sz0, sz1, sz2⟩ := info_parts info_str
  have hlN : (N.map sv).length = m := by rw [List.length_map, hN]
  have hl0 : (T0.map sv).length = i := by rw [List.length_map, hT]
  have hb2 : ∀ o, Below W.heap.size W (W.drew.alloc o) := fun o => ((Below.refl _ W).drew).alloc (Nat.le_refl _) _
  cases A with
  | none =>
    obtain rfl := hA.1 rfl
    obtain rfl : T0 = [] := List.eq_nil_of_length_eq_zero hT
    have hr := run_append_nil (P := Tryz.prog) W 22 ty 9 si _ Tryz.underlying22 hsi sz0 ad2 m c2 (N.map sv) (by rw [sz1, hlN, Nat.mul_one]) hn hm (by omega) (by rw [sz2]; omega)
    have hge := grownCap_ge W m 0 9
    have hcm : grownCap W m 0 9 ≤ maxLen := grownCap_le_maxLen W m 0 9 (by unfold maxLen; omega)
    generalize grownCap W m 0 9 = cap at *
    refine ⟨_, _, hr, ?_, hb2 _⟩
    rw [Nat.zero_add, List.nil_append]
    refine ⟨by rw [hlN, Nat.mul_one], .inr ⟨W.heap.size, _, _, rfl, hb, heap_alloc_new W.drew _, hge, hcm, ?_, ?_⟩⟩
    · rw [Array.size_append, size_zeroCells]
      show (N.map sv).length + (cap - m) * 1 = cap * 1
      omega
    · rw [Array.toList_append, Nat.mul_one]
      exact List.take_left' hlN
  | some ad =>
    have hr := run_append_grow (P := Tryz.prog) W 22 ty 9 si _ Tryz.underlying22 hsi sz0 ad i i (T0.map sv) (by rw [sz1, hl0, Nat.mul_one]) (hA.2 ad rfl) ad2 m c2 (N.map sv) (by rw [sz1, hlN, Nat.mul_one]) hn (by omega) (by omega) (growslice_fits (by omega) (by rw [sz2]; omega))
    have hge := grownCap_ge W (i + m) i 9
    have hcm : grownCap W (i + m) i 9 ≤ maxLen := grownCap_le_maxLen W (i + m) i 9 (by unfold maxLen; omega)
    generalize grownCap W (i + m) i 9 = cap at *
    refine ⟨_, _, hr, ?_, hb2 _⟩
    have hll : ((T0 ++ N).map sv).length = i + m := by rw [List.length_map, List.length_append, hT, hN]
    refine ⟨by rw [hll, Nat.mul_one], .inr ⟨W.heap.size, _, _, rfl, hb, heap_alloc_new W.drew _, hge, hcm, ?_, ?_⟩⟩
    · rw [Array.size_append, Array.size_append, size_zeroCells]
      show (T0.map sv).length + (N.map sv).length + (cap - (i + m)) * 1 = cap * 1
      omega
    · rw [Array.toList_append, Array.toList_append, Nat.mul_one, List.map_append]
      exact List.take_left' (by rw [List.length_append, hl0, hlN])
theorem step_grown {W : World} {ops : Array Oper} {o : Oper} {a : Act} {K : Act → World → Prop} {Q : Exit → Act → World → Prop} {E : Prop} (hgd : o.guard = none) (s x : Operand)
    (ho : o.op = .call { callee := .builtin .append, args := #[s, x], argTypes := #[22, 22] })
    (base : Nat) (A : Option Addr) (i : Nat) (T0 : List ByteArray) (hs : a.eval s = .slice A i i) (hT : T0.length = i) (hA : News W A i (T0.map sv)) (ad2 : Addr) (m c2 : Nat) (N : List ByteArray) (hx : a.eval x = .slice (some ad2) m c2) (hN : N.length = m)
    (hn : ∀ j u, (N.map sv)[j]? = some u → W.cell? (ad2.add j) = some u) (hm : 0 < m) (hl : i + m ≤ 1000) (hb : base ≤ W.heap.size)
    (h : ∀ v' w', w'.ownsRow base 9 1 v' (i + m) ((T0 ++ N).map sv) → Below W.heap.size W w' → K (a.put o.dst v') w') :
    if Region.wanted o (yielded ops a.tmps) = true then Oper.wp Tryz.prog o a W K Q else E := by
  have hw : Region.wanted o (yielded ops a.tmps) = true := by simp [Region.wanted, hgd]
  rw [if_pos hw]
  obtain ⟨v', w', hr, h1, h2⟩ := run_app_grown W base o.type A i T0 hT hA ad2 m c2 N hN hn hm hl hb
  unfold Oper.wp execOp
  simp only [ho, resolve, invoke, builtin, Sem.run_bind, Sem.run_pure, Result.andThen_ok, List.map_toArray, List.map_cons, List.map_nil, hs, hx, hr]
  exact h v' w' h1 h2
theorem Txs.takeS {w : World} {B : Nat} {A : Option Addr} {T : List ByteArray} (h : Txs w B A T) (n : Nat) : Txs w B A (T.take n) := fun k x hx => by
  rw [List.getElem?_take] at hx
  split at hx
  · exact h k x hx
  · cases hx
theorem news_drop {W : World} {B : Nat} {ad : Addr} {T : List ByteArray} (h : Txs W B (some ad) T) (j : Nat) (_hj : j < T.length) : News W (some (ad.add j)) (T.length - j) ((T.drop j).map sv) := by
  refine ⟨fun e => (by cases e), fun a e k u hu => ?_⟩
  cases e
  rw [List.getElem?_map, List.getElem?_drop] at hu
  cases hx : T[j + k]? with
  | none => rw [hx] at hu; cases hu
  | some y =>
    rw [hx] at hu
    obtain ⟨a, e, _, hc⟩ := h (j + k) y hx
    cases e
    rw [← Option.some.inj hu]
    by_cases hk : k = 0
    · subst hk
      rw [show (ad.add j).add 0 = ad.add j from if_pos rfl]
      exact hc
    · rw [add_add ad j k hk] at hc
      rw [add_next _ k hk]
      exact hc
theorem ItrS.below {b r : Nat} {H S : List ByteArray} {W W' : World} (h : ItrS b r H S W) (k : Below W.heap.size W W') : ItrS b r H S W' := by
  obtain ⟨seen, h1, h2⟩ := h
  exact ⟨seen, (k.block r (Array.getElem?_eq_some_iff.1 h1).1).trans h1, h2⟩
/-- where the sorting by insertion stands: S: the ids shown, T: those sorted -/
def LsRel (had : List ByteArray) (gh r : Nat) (w : World) (gf : Nat) (v : Value) (wx : World) : Prop :=
  ∃ (S T : List ByteArray) (v0 : Value), v0 = v ∧ MapAt wx gh (hx had) ∧ ItrS gh r had S wx ∧ wx.ownsRow (r + 1) 9 1 v0 T.length (T.map sv) ∧ Rsn T ∧ (∀ z, z ∈ T ↔ z ∈ S) ∧ T.length = S.length ∧ S.Nodup ∧ S.length + gf = had.length ∧ w.heap.size ≤ gh ∧ gh < r ∧ Below w.heap.size w wx
/-- where the place of an id is sought -/
def LiRel (T : List ByteArray) (x : ByteArray) (W : World) (v : Value) (wx : World) : Prop := ∃ j : Nat, v = .int .i64 (j : Int) ∧ wx = W ∧ j ≤ T.length ∧ lessN x T = j + lessN x (T.drop j)
set_option maxRecDepth 100000 in
set_option maxHeartbeats 8000000 in
theorem Closed_te (M : List KT) (U : List ByteArray) (UA : Option Addr) (uc : Nat) (gm q : Nat) (w : World) (hq : Arr w q 58 #[.map (some gm)]) (hM : MapX w gm (tx M)) (hU : Txs w w.heap.size UA U) (hul : U.length ≤ 1048576) :
    Calls Tryz.prog 8 #[.func (.func 26) #[] #[.pointer (some ⟨q, 0, none⟩)], .slice UA U.length uc] w (RhEnd w (closedO (tellT M) U)) := by
  have hmm : ∀ W : World, (Instr.makeMap 62 none).run Tryz.prog W = .ok (.map (some W.heap.size)) (W.alloc (.map #[] 0)) := fun _ => rfl
  have CG : Hid (∀ W, Below w.heap.size w W → ∀ x, Calls Tryz.prog 26 #[.string x, .pointer (some ⟨q, 0, none⟩)] W fun e w' => e = .returned (.tuple #[.string (tellT M x).1, .int .i64 (tellT M x).2]) ∧ Below W.heap.size W w') := fun W b x =>
    getter_te M x gm q W (hq.below b hq.lt) (hM.below b hM.lt)
  obtain ⟨si, hsi, sz0, sz1, sz2⟩ := info_parts info_str
  have Hsi := Lib.hid hsi
  have Sz0 := Lib.hid sz0
  have Sz1 := Lib.hid sz1
  have Sz2 := Lib.hid sz2
  clear hsi sz0 sz1 sz2
  generalize tellT M = G at *
  have hgo : closedGo G 403 U [] false false = closedO G U := rfl
  generalize closedO G U = ans at *
  have b1 : Below w.heap.size w (w.alloc (.map #[] 0)) := (Below.refl _ _).alloc (Nat.le_refl _) _
  have h1 : Hid (ClRelS G ans w.heap.size w 403 (.slice UA U.length uc) (.bool false) (.bool false) (.bool false) (w.alloc (.map #[] 0))) :=
    ⟨U, [], false, false, false, UA, uc, rfl, rfl, rfl, rfl, (hU.below b1).mono b1.size, List.nodup_nil, MapAt.new w, Nat.le_refl _, b1, (fun e => by cases e), fun _ => ⟨by omega, by simp, hgo, (fun _ => by omega), fun _ => by simp⟩⟩
  clear hgo b1 hU hq hM
  go_enter Tryz.func8, Tryz.ntmps8
  go_wp2_with fail
  go_loopg [10, 7, 8, 9] 403 (fun n nv lv wv mv wr => ClRelS G ans w.heap.size w n nv lv wv mv wr)
  case atStart => exact h1.out
  case round =>
    clear h1 hmm
    obtain ⟨next, had, la, wo, many, NA, nc, rfl, rfl, rfl, rfl, hN, hnd, hM, hlo, hB, hyes, hno⟩ := hrel
    cases many
    case true =>
      have HA : Hid (ans = ([], 6)) := hyes rfl
      have HB := Lib.hid hB
      clear hyes hno hN hM
      by_cases hl : 0 < next.length
      · have hli : (0 : Int) < next.length := by omega
        go_wp2_with fail
        go_ret2
        exact ⟨none, 0, by rw [HA.out]; rfl, by rw [HA.out]; exact Txs.nil _ _ _, HB.out⟩
      · have hli : ¬ (0 : Int) < next.length := by omega
        go_wp2_with fail
        go_ret2
        exact ⟨none, 0, by rw [HA.out]; rfl, by rw [HA.out]; exact Txs.nil _ _ _, HB.out⟩
    case false =>
    obtain ⟨hnl, hh4, hgo, hn1, hn2⟩ := hno rfl
    clear hyes hno
    by_cases hl : 0 < next.length
    case neg =>
      have hnil : next = [] := List.eq_nil_of_length_eq_zero (by omega)
      obtain ⟨n', hn'⟩ : ∃ n', gk = n' + 1 := ⟨gk - 1, by have := hn1 hnil; omega⟩
      have hli : ¬ (0 : Int) < next.length := by omega
      rw [hn', hnil, closedGo, if_pos rfl] at hgo
      have HG := Lib.hid hgo
      have HB := Lib.hid hB
      clear hgo hn1 hn2 hN
      cases la
      case true =>
        have HA : Hid (ans = ([], 7)) := HG.out.symm
        clear HG hM
        go_wp2_with fail
        go_ret2
        exact ⟨none, 0, by rw [HA.out]; rfl, by rw [HA.out]; exact Txs.nil _ _ _, HB.out⟩
      case false =>
      cases wo
      case true =>
        have HA : Hid (ans = ([], 2)) := HG.out.symm
        clear HG hM
        go_wp2_with fail
        go_ret2
        exact ⟨none, 0, by rw [HA.out]; rfl, by rw [HA.out]; exact Txs.nil _ _ _, HB.out⟩
      case false =>
      have HA : Hid (ans = (sortB had, 0)) := HG.out.symm
      clear HG
      have hrg := run_range_map (P := Tryz.prog) wr 62 _ _ w.heap.size _ _ Tryz.underlying62 hM
      rw [hx_len] at hrg
      have hst : Hid (LsRel had w.heap.size wr.heap.size w had.length (.slice none 0 0) (wr.alloc (.mapIter (some w.heap.size) had.length #[] had.length))) := by
        have bb : Below wr.heap.size wr (wr.alloc (.mapIter (some w.heap.size) had.length #[] had.length)) := (Below.refl _ _).alloc (Nat.le_refl _) _
        exact ⟨[], [], _, rfl, hM.below bb hM.lt, ItrS.start, own_nil _ _ _ _, List.Pairwise.nil, (fun z => Iff.rfl), rfl, List.nodup_nil, by simp, hlo, hM.lt, HB.out.trans (bb.mono HB.out.size)⟩
      clear hM HB hn'
      go_wp2_with fail
      clear hrg
      generalize wr.heap.size = r at *
      go_loopg [17] had.length (fun gf v wx => LsRel had w.heap.size r w gf v wx)
      case atStart => exact hst.out
      case round =>
        clear hst
        obtain ⟨S, T, v, rfl, hM, hI, hO, hR, hST, hTS, hSn, hgf, hlo2, hhi, hB⟩ := hrel
        rcases itrS_next hnd hM hI (by omega) with ⟨hall, hnx⟩ | ⟨x, W', hxH, hxS, hnx, hent, hM', k', hI'⟩
        case inl =>
          have hsub : ∀ z ∈ S, z ∈ had := by
            obtain ⟨_, _, _, h, _⟩ := hI
            exact h
          have hT : T = sortB had := rsn_ext T (sortB had) hR (sortB_rsn hnd) (fun z => by rw [hST, sortB_mem]; exact ⟨hsub z, hall z⟩)
          obtain ⟨A, c, rfl, _, hTx, _⟩ := own_texts hO
          have HH : Hid (RhEnd w ans (.returned (.tuple #[.slice A T.length c, .int .i64 0])) wr) := by
            show RhEnd _ _ _ _
            rw [HA.out, ← hT]
            exact ⟨A, c, rfl, hTx, hB⟩
          clear hM hI hO hR hST hTS hB hall hT hTx
          go_wp2_with fail
          go_ret2
          exact HH.out
        case inr =>
          have hsub : ∀ z ∈ S ++ [x], z ∈ had := by
            obtain ⟨_, _, _, h, _⟩ := hI'
            exact h
          have hSn' : (S ++ [x]).Nodup := by
            obtain ⟨_, _, h, _⟩ := hI'
            exact h
          have hln := nodup_len (S ++ [x]) had hSn' hsub
          rw [List.length_append, List.length_singleton] at hln
          have hxT : x ∉ T := fun h => hxS ((hST x).1 h)
          have hO' : W'.ownsRow (r + 1) 9 1 v T.length (T.map sv) := own_kp hO (Kp.gb k') (fun g hg e => by have := own_row_ge hO g hg; have := Option.some.inj e; omega)
          have hB' : Below w.heap.size w W' := hB.grown k' hB.size (fun g hg => by cases hg; omega)
          have hr1 : r + 1 ≤ W'.heap.size := by
            obtain ⟨_, h, _⟩ := hI'
            exact (Array.getElem?_eq_some_iff.1 h).1
          have HM := Lib.hid hM'
          have HI := Lib.hid hI'
          have HO := Lib.hid hO'
          have HB' := Lib.hid hB'
          have hxS2 := Lib.hid (And.intro hxT (And.intro hSn' hsub))
          have hTl : T.length ≤ 400 := by omega
          have HTS := Lib.hid hTS
          have hgf2 : T.length + gk = had.length := by omega
          have hgf3 : 1 ≤ gk := by omega
          clear hTS
          obtain ⟨A, c, hv, hTc, hTx, hAb⟩ := own_texts hO'
          subst hv
          have HTx := Lib.hid hTx
          clear hM hI hO hB k' hM' hI' hO' hB' hxT hSn' hsub hTx
          go_wp2_with fail
          clear hnx hent
          go_loopw [19] (fun v wx => LiRel T x W' v wx) (fun v _ => T.length - (intOf v).toNat)
          case atStart => exact ⟨0, rfl, rfl, Nat.zero_le _, by rw [List.drop_zero, Nat.zero_add]⟩
          case round =>
            obtain ⟨j, rfl, rfl, hj, hls⟩ := hrel
            have hex : ((j < T.length ∧ ∃ y, T[j]? = some y ∧ ltB y x = false) ∨ ¬ j < T.length) ∧ lessN x T = j ∨ (∃ y, T[j]? = some y ∧ ltB y x = true ∧ lessN x T = (j + 1) + lessN x (T.drop (j + 1))) := by
              by_cases hlt : j < T.length
              · have hx := List.getElem?_eq_getElem hlt
                rw [List.drop_eq_getElem_cons hlt, lessN] at hls
                cases hq : ltB T[j] x
                · rw [hq, if_neg (by decide)] at hls
                  exact .inl ⟨.inl ⟨hlt, _, hx, hq⟩, by omega⟩
                · rw [hq, if_pos rfl] at hls
                  exact .inr ⟨_, hx, hq, by omega⟩
              · rw [List.drop_eq_nil_of_le (by omega), lessN] at hls
                exact .inl ⟨.inr hlt, by omega⟩
            clear hls
            rcases hex with ⟨hex, hls⟩ | ⟨y, hy, hyx, hls⟩
            case inr =>
              have hlt : j < T.length := (List.getElem?_eq_some_iff.1 hy).1
              have hji : (j : Int) < T.length := by omega
              obtain ⟨ad, rfl, _, g0⟩ := HTx.out j y hy
              have hb : Op.bytesLess y.toList x.toList = true := hyx
              have HLs := Lib.hid hls
              clear hy hyx hls
              go_wp2_with fail
              go_roundw
              case rel => exact ⟨j + 1, by rw [Int.natCast_add]; rfl, rfl, hlt, HLs.out⟩
              case measure => simp [intOf]; omega
            case inl =>
            have HLs := Lib.hid hls
            have hins : Hid (insB x T = T.take j ++ x :: T.drop j) := by
              show _ = _
              unfold insB
              rw [hls]
            have hj0 : (0 : Int) ≤ (j : Int) := by omega
            have hjl : (j : Int) ≤ (T.length : Int) := by omega
            have hjc : (j : Int) ≤ (c : Int) := by omega
            clear hls
            rcases hex with ⟨hlt, y, hy, hyx⟩ | hlt
            · have hji : (j : Int) < T.length := by omega
              have hcj : ¬ c = j := by omega
              obtain ⟨ad, rfl, _, g0⟩ := HTx.out j y hy
              have hb : Op.bytesLess y.toList x.toList = false := hyx
              clear hy hyx
              go_wp2_with fail
              have HN1 : Hid (News (wr.alloc (.cells #[.string x] 9)).drew (some (ad.add j)) (T.length - j) ((T.drop j).map sv)) := (news_drop (HTx.out.below (((Below.refl _ wr).alloc (Nat.le_refl _) _).drew)) j hlt)
              have hr3 : r + 1 ≤ (wr.alloc (.cells #[.string x] 9)).drew.heap.size := by rw [World.size_drew, World.size_alloc]; omega
              go_region_law (first
                | (refine step_app _ rfl _ _ 22 rfl (r + 1) 9 si _ 1 16 Tryz.underlying22 Hsi.out Sz0.out Sz1.out Sz2.out rfl (by decide) (.slice (some ⟨wr.heap.size, 0, none⟩) 1 1) 1 ([x].map sv) rfl (by exact own_one hr1) (some (ad.add j)) (T.length - j) (c - j) ((T.drop j).map sv) rfl (by rw [List.length_map, List.length_drop, Nat.mul_one]) (by exact HN1.out) (sv_one _) (by unfold maxLen; omega) (by omega) (by exact hr3) ?_
                   intro v1 w1 o1 g1
                   have o2 : w1.ownsRow (r + 1) 9 1 v1 (x :: T.drop j).length ((x :: T.drop j).map sv) := by
                     rw [List.length_cons, List.length_drop, Nat.add_comm (T.length - j) 1]
                     exact o1
                   obtain ⟨A1, c1, e1, _, hT1, _⟩ := own_texts o2
                   rw [List.length_cons, List.length_drop] at e1
                   have b1 : Below wr.heap.size wr w1 := (((Below.refl _ wr).alloc (Nat.le_refl _) _).drew).grown g1 (by rw [World.size_drew, World.size_alloc]; omega) (fun g hg => by cases hg; exact Nat.le_refl _)
                   obtain ⟨ad1, eA, _⟩ := hT1 0 x rfl
                   subst e1 eA
                   have HN2 : Hid (News w1 (some ad) j ((T.take j).map sv)) := by
                     have h := ((HTx.out.below b1).takeS j).news
                     rw [List.length_take, Nat.min_eq_left (by omega)] at h
                     exact h
                   have HN3 := Lib.hid (hT1.news.2 ad1 rfl)
                   have hr4 : r + 1 ≤ w1.heap.size := Nat.le_trans hr1 b1.size)
                | (refine step_grown rfl _ _ rfl (r + 1) (some ad) j (T.take j) rfl (by rw [List.length_take]; omega) HN2.out ad1 (T.length - j + 1) c1 (x :: T.drop j) rfl (by rw [List.length_cons, List.length_drop]) HN3.out (by omega) (by omega) hr4 ?_
                   intro v2 w2 o3 b2
                   have o4 : w2.ownsRow (r + 1) 9 1 v2 (insB x T).length ((insB x T).map sv) := by
                     rw [insB_len, hins.out, show T.length + 1 = j + (T.length - j + 1) from by omega]
                     exact o3
                   have HB2 := Lib.hid (b1.trans (b2.mono b1.size))
                   have HO4 := Lib.hid o4))
              go_wp2_with fail
              go_roundg (gk - 1)
              case measure => omega
              case rel => exact ⟨S ++ [x], insB x T, _, rfl, HM.out.below HB2.out HM.out.lt, HI.out.below HB2.out, HO4.out, insB_rsn hR hxS2.out.1, fun z => by rw [insB_mem, List.mem_append, List.mem_singleton, hST]; exact Or.comm, by rw [insB_len, List.length_append, List.length_singleton, HTS.out], hxS2.out.2.1, by rw [List.length_append, List.length_singleton]; omega, hlo2, hhi, HB'.out.trans (HB2.out.mono HB'.out.size)⟩
            · have hji : ¬ (j : Int) < T.length := by omega
              have hjT : j = T.length := by omega
              cases A with
              | none =>
                have hT0 : T.length = 0 := by
                  rcases HO.out.2 with ⟨_, h⟩ | ⟨g, _, _, h, _⟩
                  · exact h
                  · cases h
                have hc0 : c = 0 := by
                  rcases HO.out.2 with ⟨h, _⟩ | ⟨g, _, _, h, _⟩
                  · exact (Value.slice.inj h).2.2
                  · cases h
                have hT1 : Hid (T = []) := List.eq_nil_of_length_eq_zero hT0
                subst hjT
                rw [hc0, hT0]
                clear hj0 hjl hjc hj hji hc0 hTc
                go_wp2_with fail
                have b1 : Below wr.heap.size wr (wr.alloc (.cells #[.string x] 9)).drew := ((Below.refl _ wr).alloc (Nat.le_refl _) _).drew
                have HN2 : Hid (News (wr.alloc (.cells #[.string x] 9)).drew none 0 (([] : List ByteArray).map sv)) := ⟨fun _ => rfl, fun a e k u hu => by cases hu⟩
                have HN3 : Hid (∀ j u, ([x].map sv)[j]? = some u → (wr.alloc (.cells #[.string x] 9)).drew.cell? ((⟨wr.heap.size, 0, none⟩ : Addr).add j) = some u) := one_cell wr x
                have hr4 : r + 1 ≤ (wr.alloc (.cells #[.string x] 9)).drew.heap.size := Nat.le_trans hr1 b1.size
                go_region_law (first
                  | (refine step_grown rfl _ _ rfl (r + 1) none 0 ([] : List ByteArray) rfl rfl HN2.out ⟨wr.heap.size, 0, none⟩ 1 1 [x] rfl rfl HN3.out (by omega) (by omega) hr4 ?_
                     intro v2 w2 o3 b2
                     have o4 : w2.ownsRow (r + 1) 9 1 v2 (insB x T).length ((insB x T).map sv) := by
                       rw [insB_len, hins.out, hT1.out]
                       exact o3
                     have HB2 := Lib.hid (b1.trans (b2.mono b1.size))
                     have HO4 := Lib.hid o4))
                go_wp2_with fail
                go_roundg (gk - 1)
                case measure => omega
                case rel => exact ⟨S ++ [x], insB x T, _, rfl, HM.out.below HB2.out HM.out.lt, HI.out.below HB2.out, HO4.out, insB_rsn hR hxS2.out.1, fun z => by rw [insB_mem, List.mem_append, List.mem_singleton, hST]; exact Or.comm, by rw [insB_len, List.length_append, List.length_singleton, HTS.out], hxS2.out.2.1, by rw [List.length_append, List.length_singleton]; omega, hlo2, hhi, HB'.out.trans (HB2.out.mono HB'.out.size)⟩
              | some ad =>
                by_cases hcj : c = j
                · subst hjT
                  go_wp2_with fail
                  have b1 : Below wr.heap.size wr (wr.alloc (.cells #[.string x] 9)).drew := ((Below.refl _ wr).alloc (Nat.le_refl _) _).drew
                  have HN2 : Hid (News (wr.alloc (.cells #[.string x] 9)).drew (some ad) T.length (T.map sv)) := (HTx.out.below b1).news
                  have HN3 : Hid (∀ j u, ([x].map sv)[j]? = some u → (wr.alloc (.cells #[.string x] 9)).drew.cell? ((⟨wr.heap.size, 0, none⟩ : Addr).add j) = some u) := one_cell wr x
                  have hr4 : r + 1 ≤ (wr.alloc (.cells #[.string x] 9)).drew.heap.size := Nat.le_trans hr1 b1.size
                  go_region_law (first
                    | (refine step_grown rfl _ _ rfl (r + 1) (some ad) T.length T rfl rfl HN2.out ⟨wr.heap.size, 0, none⟩ 1 1 [x] rfl rfl HN3.out (by omega) (by omega) hr4 ?_
                       intro v2 w2 o3 b2
                       have o4 : w2.ownsRow (r + 1) 9 1 v2 (insB x T).length ((insB x T).map sv) := by
                         rw [insB_len, hins.out, List.take_length, List.drop_length]
                         exact o3
                       have HB2 := Lib.hid (b1.trans (b2.mono b1.size))
                       have HO4 := Lib.hid o4))
                  go_wp2_with fail
                  go_roundg (gk - 1)
                  case measure => omega
                  case rel => exact ⟨S ++ [x], insB x T, _, rfl, HM.out.below HB2.out HM.out.lt, HI.out.below HB2.out, HO4.out, insB_rsn hR hxS2.out.1, fun z => by rw [insB_mem, List.mem_append, List.mem_singleton, hST]; exact Or.comm, by rw [insB_len, List.length_append, List.length_singleton, HTS.out], hxS2.out.2.1, by rw [List.length_append, List.length_singleton]; omega, hlo2, hhi, HB'.out.trans (HB2.out.mono HB'.out.size)⟩
                · subst hjT
                  go_wp2_with fail
                  have b1 : Below wr.heap.size wr (wr.alloc (.cells #[.string x] 9)).drew := ((Below.refl _ wr).alloc (Nat.le_refl _) _).drew
                  have HN2 : Hid (News (wr.alloc (.cells #[.string x] 9)).drew (some ad) T.length (T.map sv)) := (HTx.out.below b1).news
                  have HN3 : Hid (∀ j u, ([x].map sv)[j]? = some u → (wr.alloc (.cells #[.string x] 9)).drew.cell? ((⟨wr.heap.size, 0, none⟩ : Addr).add j) = some u) := one_cell wr x
                  have hr4 : r + 1 ≤ (wr.alloc (.cells #[.string x] 9)).drew.heap.size := Nat.le_trans hr1 b1.size
                  go_region_law (first
                    | (refine step_grown rfl _ _ rfl (r + 1) (some ad) T.length T rfl rfl HN2.out ⟨wr.heap.size, 0, none⟩ 1 1 [x] rfl rfl HN3.out (by omega) (by omega) hr4 ?_
                       intro v2 w2 o3 b2
                       have o4 : w2.ownsRow (r + 1) 9 1 v2 (insB x T).length ((insB x T).map sv) := by
                         rw [insB_len, hins.out, List.take_length, List.drop_length]
                         exact o3
                       have HB2 := Lib.hid (b1.trans (b2.mono b1.size))
                       have HO4 := Lib.hid o4))
                  go_wp2_with fail
                  go_roundg (gk - 1)
                  case measure => omega
                  case rel => exact ⟨S ++ [x], insB x T, _, rfl, HM.out.below HB2.out HM.out.lt, HI.out.below HB2.out, HO4.out, insB_rsn hR hxS2.out.1, fun z => by rw [insB_mem, List.mem_append, List.mem_singleton, hST]; exact Or.comm, by rw [insB_len, List.length_append, List.length_singleton, HTS.out], hxS2.out.2.1, by rw [List.length_append, List.length_singleton]; omega, hlo2, hhi, HB'.out.trans (HB2.out.mono HB'.out.size)⟩
    case pos =>
    have hli : (0 : Int) < next.length := by omega
    have hne : next ≠ [] := fun e => by rw [e] at hl; exact absurd hl (by decide)
    have hn3 := hn2 hne
    obtain ⟨n', hn'⟩ : ∃ n', gk = n' + 1 := ⟨gk - 1, by omega⟩
    rw [hn', closedGo, if_neg hne] at hgo
    obtain ⟨R, hR⟩ : ∃ R, lvlO G next had [] la wo = R := ⟨_, rfl⟩
    rw [hR] at hgo
    have HG := Lib.hid hgo
    have h0 : Hid (LvRel G next NA R had.length wr.heap.size w.heap.size w (.int .i64 0) (.bool la) (.bool wo) (.slice none 0 0) wr) :=
      ⟨0, had, [], la, wo, _, rfl, rfl, rfl, rfl, Nat.zero_le _, hnd, ⟨hN, hM, own_nil _ _ _ _, hlo, hM.lt, Nat.le_refl _, hB⟩, Nat.le_refl _, by simp, by omega, by rw [List.drop_zero]; exact hR⟩
    clear hgo hn1 hn2 hN hM hB hR hlo hnd
    go_wp2_with fail
    generalize wr.heap.size = base at *
    go_loopw [31, 7, 8, 11] (fun i lv wv mv wx => LvRel G next NA R had.length base w.heap.size w i lv wv mv wx) (fun i _ _ _ _ => next.length - (intOf i).toNat)
    case atStart => exact h0.out
    case round =>
      clear h0
      obtain ⟨k, had1, more, la, wo, mv, rfl, rfl, rfl, rfl, hk, hnd, hX, hm1, hm2, hm3, he⟩ := hrel
      by_cases hlt : k < next.length
      · have hki : (k : Int) < next.length := by omega
        have hx := List.getElem?_eq_getElem hlt
        obtain ⟨ad, rfl, hb, g0⟩ := hX.nx k next[k] hx
        have hdr : next.drop k = next[k] :: next.drop (k + 1) := List.drop_eq_getElem_cons hlt
        rw [hdr, lvlO] at he
        clear hdr hx
        generalize next[k] = x at *
        have hlk := run_look hX.set x
        rw [hx_get] at hlk
        cases hm : memB x had1
        case true =>
          rw [hm] at hlk
          rw [hm, if_pos rfl] at he
          clear hm
          go_wp2_with fail
          go_roundw
          case rel => exact ⟨k + 1, had1, more, la, wo, _, by rw [Int.natCast_add]; rfl, rfl, rfl, rfl, hlt, hnd, hX, hm1, hm2, by omega, he⟩
          case measure => simp [intOf]; omega
        case false =>
        rw [hm] at hlk
        rw [hm, if_neg (by decide)] at he
        have C := Lib.hid (CG.out wr hX.bel x)
        have HX := Lib.hid hX
        have HEq := Lib.hid he
        have HNd := Lib.hid (memB_app hm hnd)
        have HMm := Lib.hid hm
        clear hX he hm
        generalize G x = gx at C HEq
        obtain ⟨s, e⟩ := gx
        simp only at C
        go_wp2_with fail
        (with_reducible refine C.out.mono ?_)
        clear C hlk g0
        rintro _ w2 ⟨rfl, b2⟩
        have HX2 := Lib.hid (HX.out.below b2)
        clear HX b2
        by_cases hez : e = 0
        case neg =>
          have heb : (e != 0) = true := by rw [bne_iff_ne]; exact hez
          have h7 : (loadR (s, e)).2 = 7 := by unfold loadR; rw [if_pos hez]
          rw [if_pos h7] at HEq
          clear h7 HNd HMm
          go_wp2_with fail
          go_roundw
          case rel => exact ⟨k + 1, had1, more, true, wo, _, by rw [Int.natCast_add]; rfl, rfl, rfl, rfl, hlt, hnd, HX2.out, hm1, hm2, by omega, HEq.out⟩
          case measure => simp [intOf]; omega
        case pos =>
        subst hez
        have CD := Lib.hid (RefDecode_any s w2)
        have hld : loadR (s, (0 : Int)) = if (decO s.data.toList).2 ≠ 0 then (Ob.none, 2) else ((decO s.data.toList).1, 0) := by
          unfold loadR
          rw [if_neg (by simp)]
        have hfc : (decO s.data.toList).2 = 0 → (decO s.data.toList).1.ents.length ≤ 64 ∧ (decO s.data.toList).1.pars.length ≤ 4 := fun h => ⟨(good_facts (dec_only h).2.1).ents, (good_facts (dec_only h).2.1).pars⟩
        rw [hld] at HEq
        have HFc := Lib.hid hfc
        clear hld hfc
        generalize decO s.data.toList = D at *
        obtain ⟨o, e2⟩ := D
        simp only at CD HEq HFc
        unfold DEnd at CD
        go_wp2_with fail
        (with_reducible refine CD.out.mono ?_)
        clear CD
        rintro _ w3 ⟨p, hx3, oin, b3⟩
        unfold obArr at hx3
        subst hx3
        have hX3 := HX2.out.below b3
        have NB : Below w3.heap.size w3 (w3.alloc (.cells (obArr o p) 53)) := (Below.refl _ _).alloc (Nat.le_refl _) _
        have A3 : Arr (w3.alloc (.cells (obArr o p) 53)) w3.heap.size 53 (obArr o p) := Arr.new _ _ _
        have hst : Hid (Lv next (some ad) base w.heap.size w had1 more mv (w3.alloc (.cells (obArr o p) 53)) ∧ Arr (w3.alloc (.cells (obArr o p) 53)) w3.heap.size 53 (obArr o p) ∧ ObIn (w3.alloc (.cells (obArr o p) 53)) (w3.alloc (.cells (obArr o p) 53)).heap.size o p) :=
          ⟨hX3.below NB, A3, (oin.below NB).mono NB.size⟩
        clear hX3 NB A3 oin b3 HX2
        go_upto_region 14 with fail
        refine wp_forget (fun V => Lv next (some ad) base w.heap.size w had1 more mv V ∧ Arr V w3.heap.size 53 (obArr o p) ∧ ObIn V V.heap.size o p) (by exact hst.out) ?_
        clear hst
        generalize w3.heap.size = q5
        rintro V ⟨hX, AO, hO⟩
        by_cases hd : e2 = 0
        case neg =>
          have heb : (e2 != 0) = true := by rw [bne_iff_ne]; exact hd
          have HEq2 : Hid (lvlO G (next.drop (k + 1)) had1 more la true = R) := by
            have h := HEq.out
            rw [if_pos hd, if_neg (by simp), if_pos rfl] at h
            exact h
          have HX := Lib.hid hX
          clear HEq HNd HMm HFc AO hO hX
          go_wp2_with fail
          go_roundw
          case rel => exact ⟨k + 1, had1, more, la, true, _, by rw [Int.natCast_add]; rfl, rfl, rfl, rfl, hlt, hnd, HX.out, hm1, hm2, by omega, HEq2.out⟩
          case measure => simp [intOf]; omega
        case pos =>
        subst hd
        have HEq2 : Hid (lvlO G (next.drop (k + 1)) (had1 ++ [x]) (more ++ linksL o) la wo = R) := by
          have h := HEq.out
          rw [if_neg (by simp), if_neg (by simp), if_neg (by simp)] at h
          exact h
        obtain ⟨hents, hpars⟩ := HFc.out rfl
        have hll : (linksL o).length ≤ 64 := linksL_len hents hpars
        have HM1 := Lib.hid hX.set
        clear HEq HFc hnd
        go_upto_region 17 with (refine wpList_up rfl _ _ _ (.inl rfl) w.heap.size _ HM1.out rfl x true rfl rfl ?_; intro W' hM' k')
        have hX2 := hX.up HMm.out hM' k'
        have AO2 := arr_mapS AO hX.set k'
        have hO2 := hO.map hX.set k'
        clear hX AO hO hM' k' HM1 HMm
        have CL := Lib.hid (RefLinks_far o p W' hO2 (by omega) (by omega))
        go_wp2_with (refine wpList_load_row rfl 53 _ rfl q5 rfl 53 _ (0, 0) _ AO2 Tryz.underlying53 rfl (obInfo _ _) ?_)
        (with_reducible refine CL.out.mono ?_)
        clear CL AO2 hO2
        rintro _ V2 ⟨LA, lc, rfl, hL, b4, _⟩
        have HX3 := Lib.hid (hX2.below b4)
        have HN := Lib.hid hL.news
        clear hX2 b4 hL
        generalize linksL o = T at *
        go_wp2_with (at_builtin; refine wpList_app _ rfl _ _ 22 rfl base 9 si _ 1 16 Tryz.underlying22 Hsi.out Sz0.out Sz1.out Sz2.out rfl (by decide) mv more.length (more.map sv) rfl HX3.out.own LA T.length lc (T.map sv) rfl (by rw [List.length_map, Nat.mul_one]) HN.out (sv_one _) (by unfold maxLen; omega) (by omega) HX3.out.size ?_)
        intro v' w' o1 k1
        have HX4 := Lib.hid (HX3.out.app o1 k1)
        clear HX3 HN o1 k1
        go_wp2_with fail
        go_roundw
        case rel => exact ⟨k + 1, had1 ++ [x], more ++ T, la, wo, _, by rw [Int.natCast_add]; rfl, rfl, rfl, rfl, hlt, HNd.out, HX4.out, by rw [List.length_append]; omega, by rw [List.length_append, List.length_append, List.length_singleton]; omega, by rw [List.length_append, List.length_singleton]; omega, HEq2.out⟩
        case measure => simp [intOf]; omega
      · obtain rfl : k = next.length := by omega
        have hki : ¬ (next.length : Int) < next.length := by omega
        rw [List.drop_length, lvlO] at he
        subst he
        have hG := HG.out
        simp only at hG
        have hlen := run_lenS hX.set 3
        rw [hx_len] at hlen
        obtain ⟨MA, mc, rfl, _, hT, _⟩ := own_texts hX.own
        by_cases hf : 400 < had1.length
        · rw [if_pos hf] at hG
          have hfi : (400 : Int) < had1.length := by omega
          have hC : Hid (ClRelS G ans w.heap.size w n' (.slice MA more.length mc) (.bool la) (.bool wo) (.bool true) wr) :=
            ⟨more, had1, la, wo, true, MA, mc, rfl, rfl, rfl, rfl, hT, hnd, hX.set, hX.lo, hX.bel, fun _ => hG.symm, fun e => by cases e⟩
          clear hX hT hG HG
          go_wp2_with fail
          go_roundg n'
          case measure => omega
          case rel => exact hC.out
        · rw [if_neg hf] at hG
          have hfi : ¬ (400 : Int) < had1.length := by omega
          have hC : Hid (ClRelS G ans w.heap.size w n' (.slice MA more.length mc) (.bool la) (.bool wo) (.bool false) wr) :=
            ⟨more, had1, la, wo, false, MA, mc, rfl, rfl, rfl, rfl, hT, hnd, hX.set, hX.lo, hX.bel, (fun e => by cases e), fun _ => ⟨by omega, by omega, hG, fun _ => by omega, fun hne2 => by
              have : 0 < more.length := List.length_pos_iff.2 hne2
              omega⟩⟩
          clear hX hT hG HG
          go_wp2_with fail
          go_roundg n'
          case measure => omega
          case rel => exact hC.out
end Go.Proofs.YtmikfmcgddmplaaGreatDoor

/- ref.Closed at ref.Sweep$1: its contract. -/
namespace Go.Proofs.YtmikfmcgddmplaaGreatDoor
open Go.RowKit

set_option maxRecDepth 100000 in
set_option maxHeartbeats 8000000 in
theorem Closed_rf (G : ByteArray → ByteArray × Int) (U : List ByteArray) (UA : Option Addr) (uc : Nat) (q : Nat) (w : World)
    (CG0 : ∀ W, Below w.heap.size w W → ∀ x, Calls Tryz.prog 35 #[.string x, .pointer (some ⟨q, 0, none⟩)] W fun e w' => e = .returned (.tuple #[.string (G x).1, .int .i64 (G x).2]) ∧ Below W.heap.size W w')
    (hU : Txs w w.heap.size UA U) (hul : U.length ≤ 1048576) :
    Calls Tryz.prog 8 #[.func (.func 35) #[] #[.pointer (some ⟨q, 0, none⟩)], .slice UA U.length uc] w (RhEnd w (closedO G U)) := by
  have hmm : ∀ W : World, (Instr.makeMap 62 none).run Tryz.prog W = .ok (.map (some W.heap.size)) (W.alloc (.map #[] 0)) := fun _ => rfl
  have CG := Lib.hid CG0
  clear CG0
  obtain ⟨si, hsi, sz0, sz1, sz2⟩ := info_parts info_str
  have Hsi := Lib.hid hsi
  have Sz0 := Lib.hid sz0
  have Sz1 := Lib.hid sz1
  have Sz2 := Lib.hid sz2
  clear hsi sz0 sz1 sz2
  have hgo : closedGo G 403 U [] false false = closedO G U := rfl
  generalize closedO G U = ans at *
  have b1 : Below w.heap.size w (w.alloc (.map #[] 0)) := (Below.refl _ _).alloc (Nat.le_refl _) _
  have h1 : Hid (ClRelS G ans w.heap.size w 403 (.slice UA U.length uc) (.bool false) (.bool false) (.bool false) (w.alloc (.map #[] 0))) :=
    ⟨U, [], false, false, false, UA, uc, rfl, rfl, rfl, rfl, (hU.below b1).mono b1.size, List.nodup_nil, MapAt.new w, Nat.le_refl _, b1, (fun e => by cases e), fun _ => ⟨by omega, by simp, hgo, (fun _ => by omega), fun _ => by simp⟩⟩
  clear hgo b1 hU
  go_enter Tryz.func8, Tryz.ntmps8
  go_wp2_with fail
  go_loopg [10, 7, 8, 9] 403 (fun n nv lv wv mv wr => ClRelS G ans w.heap.size w n nv lv wv mv wr)
  case atStart => exact h1.out
  case round =>
    clear h1 hmm
    obtain ⟨next, had, la, wo, many, NA, nc, rfl, rfl, rfl, rfl, hN, hnd, hM, hlo, hB, hyes, hno⟩ := hrel
    cases many
    case true =>
      have HA : Hid (ans = ([], 6)) := hyes rfl
      have HB := Lib.hid hB
      clear hyes hno hN hM
      by_cases hl : 0 < next.length
      · have hli : (0 : Int) < next.length := by omega
        go_wp2_with fail
        go_ret2
        exact ⟨none, 0, by rw [HA.out]; rfl, by rw [HA.out]; exact Txs.nil _ _ _, HB.out⟩
      · have hli : ¬ (0 : Int) < next.length := by omega
        go_wp2_with fail
        go_ret2
        exact ⟨none, 0, by rw [HA.out]; rfl, by rw [HA.out]; exact Txs.nil _ _ _, HB.out⟩
    case false =>
    obtain ⟨hnl, hh4, hgo, hn1, hn2⟩ := hno rfl
    clear hyes hno
    by_cases hl : 0 < next.length
    case neg =>
      have hnil : next = [] := List.eq_nil_of_length_eq_zero (by omega)
      obtain ⟨n', hn'⟩ : ∃ n', gk = n' + 1 := ⟨gk - 1, by have := hn1 hnil; omega⟩
      have hli : ¬ (0 : Int) < next.length := by omega
      rw [hn', hnil, closedGo, if_pos rfl] at hgo
      have HG := Lib.hid hgo
      have HB := Lib.hid hB
      clear hgo hn1 hn2 hN
      cases la
      case true =>
        have HA : Hid (ans = ([], 7)) := HG.out.symm
        clear HG hM
        go_wp2_with fail
        go_ret2
        exact ⟨none, 0, by rw [HA.out]; rfl, by rw [HA.out]; exact Txs.nil _ _ _, HB.out⟩
      case false =>
      cases wo
      case true =>
        have HA : Hid (ans = ([], 2)) := HG.out.symm
        clear HG hM
        go_wp2_with fail
        go_ret2
        exact ⟨none, 0, by rw [HA.out]; rfl, by rw [HA.out]; exact Txs.nil _ _ _, HB.out⟩
      case false =>
      have HA : Hid (ans = (sortB had, 0)) := HG.out.symm
      clear HG
      have hrg := run_range_map (P := Tryz.prog) wr 62 _ _ w.heap.size _ _ Tryz.underlying62 hM
      rw [hx_len] at hrg
      have hst : Hid (LsRel had w.heap.size wr.heap.size w had.length (.slice none 0 0) (wr.alloc (.mapIter (some w.heap.size) had.length #[] had.length))) := by
        have bb : Below wr.heap.size wr (wr.alloc (.mapIter (some w.heap.size) had.length #[] had.length)) := (Below.refl _ _).alloc (Nat.le_refl _) _
        exact ⟨[], [], _, rfl, hM.below bb hM.lt, ItrS.start, own_nil _ _ _ _, List.Pairwise.nil, (fun z => Iff.rfl), rfl, List.nodup_nil, by simp, hlo, hM.lt, HB.out.trans (bb.mono HB.out.size)⟩
      clear hM HB hn'
      go_wp2_with fail
      clear hrg
      generalize wr.heap.size = r at *
      go_loopg [17] had.length (fun gf v wx => LsRel had w.heap.size r w gf v wx)
      case atStart => exact hst.out
      case round =>
        clear hst
        obtain ⟨S, T, v, rfl, hM, hI, hO, hR, hST, hTS, hSn, hgf, hlo2, hhi, hB⟩ := hrel
        rcases itrS_next hnd hM hI (by omega) with ⟨hall, hnx⟩ | ⟨x, W', hxH, hxS, hnx, hent, hM', k', hI'⟩
        case inl =>
          have hsub : ∀ z ∈ S, z ∈ had := by
            obtain ⟨_, _, _, h, _⟩ := hI
            exact h
          have hT : T = sortB had := rsn_ext T (sortB had) hR (sortB_rsn hnd) (fun z => by rw [hST, sortB_mem]; exact ⟨hsub z, hall z⟩)
          obtain ⟨A, c, rfl, _, hTx, _⟩ := own_texts hO
          have HH : Hid (RhEnd w ans (.returned (.tuple #[.slice A T.length c, .int .i64 0])) wr) := by
            show RhEnd _ _ _ _
            rw [HA.out, ← hT]
            exact ⟨A, c, rfl, hTx, hB⟩
          clear hM hI hO hR hST hTS hB hall hT hTx
          go_wp2_with fail
          go_ret2
          exact HH.out
        case inr =>
          have hsub : ∀ z ∈ S ++ [x], z ∈ had := by
            obtain ⟨_, _, _, h, _⟩ := hI'
            exact h
          have hSn' : (S ++ [x]).Nodup := by
            obtain ⟨_, _, h, _⟩ := hI'
            exact h
          have hln := nodup_len (S ++ [x]) had hSn' hsub
          rw [List.length_append, List.length_singleton] at hln
          have hxT : x ∉ T := fun h => hxS ((hST x).1 h)
          have hO' : W'.ownsRow (r + 1) 9 1 v T.length (T.map sv) := own_kp hO (Kp.gb k') (fun g hg e => by have := own_row_ge hO g hg; have := Option.some.inj e; omega)
          have hB' : Below w.heap.size w W' := hB.grown k' hB.size (fun g hg => by cases hg; omega)
          have hr1 : r + 1 ≤ W'.heap.size := by
            obtain ⟨_, h, _⟩ := hI'
            exact (Array.getElem?_eq_some_iff.1 h).1
          have HM := Lib.hid hM'
          have HI := Lib.hid hI'
          have HO := Lib.hid hO'
          have HB' := Lib.hid hB'
          have hxS2 := Lib.hid (And.intro hxT (And.intro hSn' hsub))
          have hTl : T.length ≤ 400 := by omega
          have HTS := Lib.hid hTS
          have hgf2 : T.length + gk = had.length := by omega
          have hgf3 : 1 ≤ gk := by omega
          clear hTS
          obtain ⟨A, c, hv, hTc, hTx, hAb⟩ := own_texts hO'
          subst hv
          have HTx := Lib.hid hTx
          clear hM hI hO hB k' hM' hI' hO' hB' hxT hSn' hsub hTx
          go_wp2_with fail
          clear hnx hent
          go_loopw [19] (fun v wx => LiRel T x W' v wx) (fun v _ => T.length - (intOf v).toNat)
          case atStart => exact ⟨0, rfl, rfl, Nat.zero_le _, by rw [List.drop_zero, Nat.zero_add]⟩
          case round =>
            obtain ⟨j, rfl, rfl, hj, hls⟩ := hrel
            have hex : ((j < T.length ∧ ∃ y, T[j]? = some y ∧ ltB y x = false) ∨ ¬ j < T.length) ∧ lessN x T = j ∨ (∃ y, T[j]? = some y ∧ ltB y x = true ∧ lessN x T = (j + 1) + lessN x (T.drop (j + 1))) := by
              by_cases hlt : j < T.length
              · have hx := List.getElem?_eq_getElem hlt
                rw [List.drop_eq_getElem_cons hlt, lessN] at hls
                cases hq : ltB T[j] x
                · rw [hq, if_neg (by decide)] at hls
                  exact .inl ⟨.inl ⟨hlt, _, hx, hq⟩, by omega⟩
                · rw [hq, if_pos rfl] at hls
                  exact .inr ⟨_, hx, hq, by omega⟩
              · rw [List.drop_eq_nil_of_le (by omega), lessN] at hls
                exact .inl ⟨.inr hlt, by omega⟩
            clear hls
            rcases hex with ⟨hex, hls⟩ | ⟨y, hy, hyx, hls⟩
            case inr =>
              have hlt : j < T.length := (List.getElem?_eq_some_iff.1 hy).1
              have hji : (j : Int) < T.length := by omega
              obtain ⟨ad, rfl, _, g0⟩ := HTx.out j y hy
              have hb : Op.bytesLess y.toList x.toList = true := hyx
              have HLs := Lib.hid hls
              clear hy hyx hls
              go_wp2_with fail
              go_roundw
              case rel => exact ⟨j + 1, by rw [Int.natCast_add]; rfl, rfl, hlt, HLs.out⟩
              case measure => simp [intOf]; omega
            case inl =>
            have HLs := Lib.hid hls
            have hins : Hid (insB x T = T.take j ++ x :: T.drop j) := by
              show _ = _
              unfold insB
              rw [hls]
            have hj0 : (0 : Int) ≤ (j : Int) := by omega
            have hjl : (j : Int) ≤ (T.length : Int) := by omega
            have hjc : (j : Int) ≤ (c : Int) := by omega
            clear hls
            rcases hex with ⟨hlt, y, hy, hyx⟩ | hlt
            · have hji : (j : Int) < T.length := by omega
              have hcj : ¬ c = j := by omega
              obtain ⟨ad, rfl, _, g0⟩ := HTx.out j y hy
              have hb : Op.bytesLess y.toList x.toList = false := hyx
              clear hy hyx
              go_wp2_with fail
              have HN1 : Hid (News (wr.alloc (.cells #[.string x] 9)).drew (some (ad.add j)) (T.length - j) ((T.drop j).map sv)) := (news_drop (HTx.out.below (((Below.refl _ wr).alloc (Nat.le_refl _) _).drew)) j hlt)
              have hr3 : r + 1 ≤ (wr.alloc (.cells #[.string x] 9)).drew.heap.size := by rw [World.size_drew, World.size_alloc]; omega
              go_region_law (first
                | (refine step_app _ rfl _ _ 22 rfl (r + 1) 9 si _ 1 16 Tryz.underlying22 Hsi.out Sz0.out Sz1.out Sz2.out rfl (by decide) (.slice (some ⟨wr.heap.size, 0, none⟩) 1 1) 1 ([x].map sv) rfl (by exact own_one hr1) (some (ad.add j)) (T.length - j) (c - j) ((T.drop j).map sv) rfl (by rw [List.length_map, List.length_drop, Nat.mul_one]) (by exact HN1.out) (sv_one _) (by unfold maxLen; omega) (by omega) (by exact hr3) ?_
                   intro v1 w1 o1 g1
                   have o2 : w1.ownsRow (r + 1) 9 1 v1 (x :: T.drop j).length ((x :: T.drop j).map sv) := by
                     rw [List.length_cons, List.length_drop, Nat.add_comm (T.length - j) 1]
                     exact o1
                   obtain ⟨A1, c1, e1, _, hT1, _⟩ := own_texts o2
                   rw [List.length_cons, List.length_drop] at e1
                   have b1 : Below wr.heap.size wr w1 := (((Below.refl _ wr).alloc (Nat.le_refl _) _).drew).grown g1 (by rw [World.size_drew, World.size_alloc]; omega) (fun g hg => by cases hg; exact Nat.le_refl _)
                   obtain ⟨ad1, eA, _⟩ := hT1 0 x rfl
                   subst e1 eA
                   have HN2 : Hid (News w1 (some ad) j ((T.take j).map sv)) := by
                     have h := ((HTx.out.below b1).takeS j).news
                     rw [List.length_take, Nat.min_eq_left (by omega)] at h
                     exact h
                   have HN3 := Lib.hid (hT1.news.2 ad1 rfl)
                   have hr4 : r + 1 ≤ w1.heap.size := Nat.le_trans hr1 b1.size)
                | (refine step_grown rfl _ _ rfl (r + 1) (some ad) j (T.take j) rfl (by rw [List.length_take]; omega) HN2.out ad1 (T.length - j + 1) c1 (x :: T.drop j) rfl (by rw [List.length_cons, List.length_drop]) HN3.out (by omega) (by omega) hr4 ?_
                   intro v2 w2 o3 b2
                   have o4 : w2.ownsRow (r + 1) 9 1 v2 (insB x T).length ((insB x T).map sv) := by
                     rw [insB_len, hins.out, show T.length + 1 = j + (T.length - j + 1) from by omega]
                     exact o3
                   have HB2 := Lib.hid (b1.trans (b2.mono b1.size))
                   have HO4 := Lib.hid o4))
              go_wp2_with fail
              go_roundg (gk - 1)
              case measure => omega
              case rel => exact ⟨S ++ [x], insB x T, _, rfl, HM.out.below HB2.out HM.out.lt, HI.out.below HB2.out, HO4.out, insB_rsn hR hxS2.out.1, fun z => by rw [insB_mem, List.mem_append, List.mem_singleton, hST]; exact Or.comm, by rw [insB_len, List.length_append, List.length_singleton, HTS.out], hxS2.out.2.1, by rw [List.length_append, List.length_singleton]; omega, hlo2, hhi, HB'.out.trans (HB2.out.mono HB'.out.size)⟩
            · have hji : ¬ (j : Int) < T.length := by omega
              have hjT : j = T.length := by omega
              cases A with
              | none =>
                have hT0 : T.length = 0 := by
                  rcases HO.out.2 with ⟨_, h⟩ | ⟨g, _, _, h, _⟩
                  · exact h
                  · cases h
                have hc0 : c = 0 := by
                  rcases HO.out.2 with ⟨h, _⟩ | ⟨g, _, _, h, _⟩
                  · exact (Value.slice.inj h).2.2
                  · cases h
                have hT1 : Hid (T = []) := List.eq_nil_of_length_eq_zero hT0
                subst hjT
                rw [hc0, hT0]
                clear hj0 hjl hjc hj hji hc0 hTc
                go_wp2_with fail
                have b1 : Below wr.heap.size wr (wr.alloc (.cells #[.string x] 9)).drew := ((Below.refl _ wr).alloc (Nat.le_refl _) _).drew
                have HN2 : Hid (News (wr.alloc (.cells #[.string x] 9)).drew none 0 (([] : List ByteArray).map sv)) := ⟨fun _ => rfl, fun a e k u hu => by cases hu⟩
                have HN3 : Hid (∀ j u, ([x].map sv)[j]? = some u → (wr.alloc (.cells #[.string x] 9)).drew.cell? ((⟨wr.heap.size, 0, none⟩ : Addr).add j) = some u) := one_cell wr x
                have hr4 : r + 1 ≤ (wr.alloc (.cells #[.string x] 9)).drew.heap.size := Nat.le_trans hr1 b1.size
                go_region_law (first
                  | (refine step_grown rfl _ _ rfl (r + 1) none 0 ([] : List ByteArray) rfl rfl HN2.out ⟨wr.heap.size, 0, none⟩ 1 1 [x] rfl rfl HN3.out (by omega) (by omega) hr4 ?_
                     intro v2 w2 o3 b2
                     have o4 : w2.ownsRow (r + 1) 9 1 v2 (insB x T).length ((insB x T).map sv) := by
                       rw [insB_len, hins.out, hT1.out]
                       exact o3
                     have HB2 := Lib.hid (b1.trans (b2.mono b1.size))
                     have HO4 := Lib.hid o4))
                go_wp2_with fail
                go_roundg (gk - 1)
                case measure => omega
                case rel => exact ⟨S ++ [x], insB x T, _, rfl, HM.out.below HB2.out HM.out.lt, HI.out.below HB2.out, HO4.out, insB_rsn hR hxS2.out.1, fun z => by rw [insB_mem, List.mem_append, List.mem_singleton, hST]; exact Or.comm, by rw [insB_len, List.length_append, List.length_singleton, HTS.out], hxS2.out.2.1, by rw [List.length_append, List.length_singleton]; omega, hlo2, hhi, HB'.out.trans (HB2.out.mono HB'.out.size)⟩
              | some ad =>
                by_cases hcj : c = j
                · subst hjT
                  go_wp2_with fail
                  have b1 : Below wr.heap.size wr (wr.alloc (.cells #[.string x] 9)).drew := ((Below.refl _ wr).alloc (Nat.le_refl _) _).drew
                  have HN2 : Hid (News (wr.alloc (.cells #[.string x] 9)).drew (some ad) T.length (T.map sv)) := (HTx.out.below b1).news
                  have HN3 : Hid (∀ j u, ([x].map sv)[j]? = some u → (wr.alloc (.cells #[.string x] 9)).drew.cell? ((⟨wr.heap.size, 0, none⟩ : Addr).add j) = some u) := one_cell wr x
                  have hr4 : r + 1 ≤ (wr.alloc (.cells #[.string x] 9)).drew.heap.size := Nat.le_trans hr1 b1.size
                  go_region_law (first
                    | (refine step_grown rfl _ _ rfl (r + 1) (some ad) T.length T rfl rfl HN2.out ⟨wr.heap.size, 0, none⟩ 1 1 [x] rfl rfl HN3.out (by omega) (by omega) hr4 ?_
                       intro v2 w2 o3 b2
                       have o4 : w2.ownsRow (r + 1) 9 1 v2 (insB x T).length ((insB x T).map sv) := by
                         rw [insB_len, hins.out, List.take_length, List.drop_length]
                         exact o3
                       have HB2 := Lib.hid (b1.trans (b2.mono b1.size))
                       have HO4 := Lib.hid o4))
                  go_wp2_with fail
                  go_roundg (gk - 1)
                  case measure => omega
                  case rel => exact ⟨S ++ [x], insB x T, _, rfl, HM.out.below HB2.out HM.out.lt, HI.out.below HB2.out, HO4.out, insB_rsn hR hxS2.out.1, fun z => by rw [insB_mem, List.mem_append, List.mem_singleton, hST]; exact Or.comm, by rw [insB_len, List.length_append, List.length_singleton, HTS.out], hxS2.out.2.1, by rw [List.length_append, List.length_singleton]; omega, hlo2, hhi, HB'.out.trans (HB2.out.mono HB'.out.size)⟩
                · subst hjT
                  go_wp2_with fail
                  have b1 : Below wr.heap.size wr (wr.alloc (.cells #[.string x] 9)).drew := ((Below.refl _ wr).alloc (Nat.le_refl _) _).drew
                  have HN2 : Hid (News (wr.alloc (.cells #[.string x] 9)).drew (some ad) T.length (T.map sv)) := (HTx.out.below b1).news
                  have HN3 : Hid (∀ j u, ([x].map sv)[j]? = some u → (wr.alloc (.cells #[.string x] 9)).drew.cell? ((⟨wr.heap.size, 0, none⟩ : Addr).add j) = some u) := one_cell wr x
                  have hr4 : r + 1 ≤ (wr.alloc (.cells #[.string x] 9)).drew.heap.size := Nat.le_trans hr1 b1.size
                  go_region_law (first
                    | (refine step_grown rfl _ _ rfl (r + 1) (some ad) T.length T rfl rfl HN2.out ⟨wr.heap.size, 0, none⟩ 1 1 [x] rfl rfl HN3.out (by omega) (by omega) hr4 ?_
                       intro v2 w2 o3 b2
                       have o4 : w2.ownsRow (r + 1) 9 1 v2 (insB x T).length ((insB x T).map sv) := by
                         rw [insB_len, hins.out, List.take_length, List.drop_length]
                         exact o3
                       have HB2 := Lib.hid (b1.trans (b2.mono b1.size))
                       have HO4 := Lib.hid o4))
                  go_wp2_with fail
                  go_roundg (gk - 1)
                  case measure => omega
                  case rel => exact ⟨S ++ [x], insB x T, _, rfl, HM.out.below HB2.out HM.out.lt, HI.out.below HB2.out, HO4.out, insB_rsn hR hxS2.out.1, fun z => by rw [insB_mem, List.mem_append, List.mem_singleton, hST]; exact Or.comm, by rw [insB_len, List.length_append, List.length_singleton, HTS.out], hxS2.out.2.1, by rw [List.length_append, List.length_singleton]; omega, hlo2, hhi, HB'.out.trans (HB2.out.mono HB'.out.size)⟩
    case pos =>
    have hli : (0 : Int) < next.length := by omega
    have hne : next ≠ [] := fun e => by rw [e] at hl; exact absurd hl (by decide)
    have hn3 := hn2 hne
    obtain ⟨n', hn'⟩ : ∃ n', gk = n' + 1 := ⟨gk - 1, by omega⟩
    rw [hn', closedGo, if_neg hne] at hgo
    obtain ⟨R, hR⟩ : ∃ R, lvlO G next had [] la wo = R := ⟨_, rfl⟩
    rw [hR] at hgo
    have HG := Lib.hid hgo
    have h0 : Hid (LvRel G next NA R had.length wr.heap.size w.heap.size w (.int .i64 0) (.bool la) (.bool wo) (.slice none 0 0) wr) :=
      ⟨0, had, [], la, wo, _, rfl, rfl, rfl, rfl, Nat.zero_le _, hnd, ⟨hN, hM, own_nil _ _ _ _, hlo, hM.lt, Nat.le_refl _, hB⟩, Nat.le_refl _, by simp, by omega, by rw [List.drop_zero]; exact hR⟩
    clear hgo hn1 hn2 hN hM hB hR hlo hnd
    go_wp2_with fail
    generalize wr.heap.size = base at *
    go_loopw [31, 7, 8, 11] (fun i lv wv mv wx => LvRel G next NA R had.length base w.heap.size w i lv wv mv wx) (fun i _ _ _ _ => next.length - (intOf i).toNat)
    case atStart => exact h0.out
    case round =>
      clear h0
      obtain ⟨k, had1, more, la, wo, mv, rfl, rfl, rfl, rfl, hk, hnd, hX, hm1, hm2, hm3, he⟩ := hrel
      by_cases hlt : k < next.length
      · have hki : (k : Int) < next.length := by omega
        have hx := List.getElem?_eq_getElem hlt
        obtain ⟨ad, rfl, hb, g0⟩ := hX.nx k next[k] hx
        have hdr : next.drop k = next[k] :: next.drop (k + 1) := List.drop_eq_getElem_cons hlt
        rw [hdr, lvlO] at he
        clear hdr hx
        generalize next[k] = x at *
        have hlk := run_look hX.set x
        rw [hx_get] at hlk
        cases hm : memB x had1
        case true =>
          rw [hm] at hlk
          rw [hm, if_pos rfl] at he
          clear hm
          go_wp2_with fail
          go_roundw
          case rel => exact ⟨k + 1, had1, more, la, wo, _, by rw [Int.natCast_add]; rfl, rfl, rfl, rfl, hlt, hnd, hX, hm1, hm2, by omega, he⟩
          case measure => simp [intOf]; omega
        case false =>
        rw [hm] at hlk
        rw [hm, if_neg (by decide)] at he
        have C := Lib.hid (CG.out wr hX.bel x)
        have HX := Lib.hid hX
        have HEq := Lib.hid he
        have HNd := Lib.hid (memB_app hm hnd)
        have HMm := Lib.hid hm
        clear hX he hm
        generalize G x = gx at C HEq
        obtain ⟨s, e⟩ := gx
        simp only at C
        go_wp2_with fail
        (with_reducible refine C.out.mono ?_)
        clear C hlk g0
        rintro _ w2 ⟨rfl, b2⟩
        have HX2 := Lib.hid (HX.out.below b2)
        clear HX b2
        by_cases hez : e = 0
        case neg =>
          have heb : (e != 0) = true := by rw [bne_iff_ne]; exact hez
          have h7 : (loadR (s, e)).2 = 7 := by unfold loadR; rw [if_pos hez]
          rw [if_pos h7] at HEq
          clear h7 HNd HMm
          go_wp2_with fail
          go_roundw
          case rel => exact ⟨k + 1, had1, more, true, wo, _, by rw [Int.natCast_add]; rfl, rfl, rfl, rfl, hlt, hnd, HX2.out, hm1, hm2, by omega, HEq.out⟩
          case measure => simp [intOf]; omega
        case pos =>
        subst hez
        have CD := Lib.hid (RefDecode_any s w2)
        have hld : loadR (s, (0 : Int)) = if (decO s.data.toList).2 ≠ 0 then (Ob.none, 2) else ((decO s.data.toList).1, 0) := by
          unfold loadR
          rw [if_neg (by simp)]
        have hfc : (decO s.data.toList).2 = 0 → (decO s.data.toList).1.ents.length ≤ 64 ∧ (decO s.data.toList).1.pars.length ≤ 4 := fun h => ⟨(good_facts (dec_only h).2.1).ents, (good_facts (dec_only h).2.1).pars⟩
        rw [hld] at HEq
        have HFc := Lib.hid hfc
        clear hld hfc
        generalize decO s.data.toList = D at *
        obtain ⟨o, e2⟩ := D
        simp only at CD HEq HFc
        unfold DEnd at CD
        go_wp2_with fail
        (with_reducible refine CD.out.mono ?_)
        clear CD
        rintro _ w3 ⟨p, hx3, oin, b3⟩
        unfold obArr at hx3
        subst hx3
        have hX3 := HX2.out.below b3
        have NB : Below w3.heap.size w3 (w3.alloc (.cells (obArr o p) 53)) := (Below.refl _ _).alloc (Nat.le_refl _) _
        have A3 : Arr (w3.alloc (.cells (obArr o p) 53)) w3.heap.size 53 (obArr o p) := Arr.new _ _ _
        have hst : Hid (Lv next (some ad) base w.heap.size w had1 more mv (w3.alloc (.cells (obArr o p) 53)) ∧ Arr (w3.alloc (.cells (obArr o p) 53)) w3.heap.size 53 (obArr o p) ∧ ObIn (w3.alloc (.cells (obArr o p) 53)) (w3.alloc (.cells (obArr o p) 53)).heap.size o p) :=
          ⟨hX3.below NB, A3, (oin.below NB).mono NB.size⟩
        clear hX3 NB A3 oin b3 HX2
        go_upto_region 14 with fail
        refine wp_forget (fun V => Lv next (some ad) base w.heap.size w had1 more mv V ∧ Arr V w3.heap.size 53 (obArr o p) ∧ ObIn V V.heap.size o p) (by exact hst.out) ?_
        clear hst
        generalize w3.heap.size = q5
        rintro V ⟨hX, AO, hO⟩
        by_cases hd : e2 = 0
        case neg =>
          have heb : (e2 != 0) = true := by rw [bne_iff_ne]; exact hd
          have HEq2 : Hid (lvlO G (next.drop (k + 1)) had1 more la true = R) := by
            have h := HEq.out
            rw [if_pos hd, if_neg (by simp), if_pos rfl] at h
            exact h
          have HX := Lib.hid hX
          clear HEq HNd HMm HFc AO hO hX
          go_wp2_with fail
          go_roundw
          case rel => exact ⟨k + 1, had1, more, la, true, _, by rw [Int.natCast_add]; rfl, rfl, rfl, rfl, hlt, hnd, HX.out, hm1, hm2, by omega, HEq2.out⟩
          case measure => simp [intOf]; omega
        case pos =>
        subst hd
        have HEq2 : Hid (lvlO G (next.drop (k + 1)) (had1 ++ [x]) (more ++ linksL o) la wo = R) := by
          have h := HEq.out
          rw [if_neg (by simp), if_neg (by simp), if_neg (by simp)] at h
          exact h
        obtain ⟨hents, hpars⟩ := HFc.out rfl
        have hll : (linksL o).length ≤ 64 := linksL_len hents hpars
        have HM1 := Lib.hid hX.set
        clear HEq HFc hnd
        go_upto_region 17 with (refine wpList_up rfl _ _ _ (.inl rfl) w.heap.size _ HM1.out rfl x true rfl rfl ?_; intro W' hM' k')
        have hX2 := hX.up HMm.out hM' k'
        have AO2 := arr_mapS AO hX.set k'
        have hO2 := hO.map hX.set k'
        clear hX AO hO hM' k' HM1 HMm
        have CL := Lib.hid (RefLinks_far o p W' hO2 (by omega) (by omega))
        go_wp2_with (refine wpList_load_row rfl 53 _ rfl q5 rfl 53 _ (0, 0) _ AO2 Tryz.underlying53 rfl (obInfo _ _) ?_)
        (with_reducible refine CL.out.mono ?_)
        clear CL AO2 hO2
        rintro _ V2 ⟨LA, lc, rfl, hL, b4, _⟩
        have HX3 := Lib.hid (hX2.below b4)
        have HN := Lib.hid hL.news
        clear hX2 b4 hL
        generalize linksL o = T at *
        go_wp2_with (at_builtin; refine wpList_app _ rfl _ _ 22 rfl base 9 si _ 1 16 Tryz.underlying22 Hsi.out Sz0.out Sz1.out Sz2.out rfl (by decide) mv more.length (more.map sv) rfl HX3.out.own LA T.length lc (T.map sv) rfl (by rw [List.length_map, Nat.mul_one]) HN.out (sv_one _) (by unfold maxLen; omega) (by omega) HX3.out.size ?_)
        intro v' w' o1 k1
        have HX4 := Lib.hid (HX3.out.app o1 k1)
        clear HX3 HN o1 k1
        go_wp2_with fail
        go_roundw
        case rel => exact ⟨k + 1, had1 ++ [x], more ++ T, la, wo, _, by rw [Int.natCast_add]; rfl, rfl, rfl, rfl, hlt, HNd.out, HX4.out, by rw [List.length_append]; omega, by rw [List.length_append, List.length_append, List.length_singleton]; omega, by rw [List.length_append, List.length_singleton]; omega, HEq2.out⟩
        case measure => simp [intOf]; omega
      · obtain rfl : k = next.length := by omega
        have hki : ¬ (next.length : Int) < next.length := by omega
        rw [List.drop_length, lvlO] at he
        subst he
        have hG := HG.out
        simp only at hG
        have hlen := run_lenS hX.set 3
        rw [hx_len] at hlen
        obtain ⟨MA, mc, rfl, _, hT, _⟩ := own_texts hX.own
        by_cases hf : 400 < had1.length
        · rw [if_pos hf] at hG
          have hfi : (400 : Int) < had1.length := by omega
          have hC : Hid (ClRelS G ans w.heap.size w n' (.slice MA more.length mc) (.bool la) (.bool wo) (.bool true) wr) :=
            ⟨more, had1, la, wo, true, MA, mc, rfl, rfl, rfl, rfl, hT, hnd, hX.set, hX.lo, hX.bel, fun _ => hG.symm, fun e => by cases e⟩
          clear hX hT hG HG
          go_wp2_with fail
          go_roundg n'
          case measure => omega
          case rel => exact hC.out
        · rw [if_neg hf] at hG
          have hfi : ¬ (400 : Int) < had1.length := by omega
          have hC : Hid (ClRelS G ans w.heap.size w n' (.slice MA more.length mc) (.bool la) (.bool wo) (.bool false) wr) :=
            ⟨more, had1, la, wo, false, MA, mc, rfl, rfl, rfl, rfl, hT, hnd, hX.set, hX.lo, hX.bel, (fun e => by cases e), fun _ => ⟨by omega, by omega, hG, fun _ => by omega, fun hne2 => by
              have : 0 < more.length := List.length_pos_iff.2 hne2
              omega⟩⟩
          clear hX hT hG HG
          go_wp2_with fail
          go_roundg n'
          case measure => omega
          case rel => exact hC.out
end Go.Proofs.YtmikfmcgddmplaaGreatDoor

/- ref.fileName, GoodDisk, at: their contracts. -/
namespace Go.Proofs.YtmikfmcgddmplaaGreatDoor
open Go.RowKit

theorem conv_name (s : ByteArray) (w : World) : ∃ cap W, (convert 9 105 (.string s)).run Tryz.prog w = .ok (.slice (some ⟨w.heap.size, 0, none⟩) s.size cap) W ∧
    (∀ (k : Nat) (h : k < s.size), W.cell? ⟨w.heap.size, k, none⟩ = some (.int .u8 (s[k].toNat : Int))) ∧ Below w.heap.size w W := by
  refine ⟨_, _, run_bytes_of_string w 9 105 5 s Tryz.underlying9 Tryz.underlying105 Tryz.underlying5, fun k hk => ?_, (Below.refl _ _).drew.alloc (by simp) _⟩
  have hh : (w.drew.alloc (.cells (bytesRow s (grownCap w s.size 0 5)) 5 ((bytesRow s (grownCap w s.size 0 5)).size, (bytesRow s (grownCap w s.size 0 5)).size + 1))).heap[w.heap.size]? = some (.cells (bytesRow s (grownCap w s.size 0 5)) 5 ((bytesRow s (grownCap w s.size 0 5)).size, (bytesRow s (grownCap w s.size 0 5)).size + 1)) := heap_alloc_new w.drew _
  rw [cell_of_row _ _ k _ _ _ hh]
  rw [bytesRow_at s _ k hk]
  rfl
theorem inName_int (c : UInt8) : inName c = ((decide ((97 : Int) ≤ c.toNat) && decide ((c.toNat : Int) ≤ 122)) || (decide ((48 : Int) ≤ c.toNat) && decide ((c.toNat : Int) ≤ 57)) || ((c.toNat : Int) == 46) || ((c.toNat : Int) == 45)) := by
  have e1 : decide ((97 : Int) ≤ c.toNat) = decide (97 ≤ c.toNat) := decide_eq_decide.2 (by omega)
  have e2 : decide ((c.toNat : Int) ≤ 122) = decide (c.toNat ≤ 122) := decide_eq_decide.2 (by omega)
  have e3 : decide ((48 : Int) ≤ c.toNat) = decide (48 ≤ c.toNat) := decide_eq_decide.2 (by omega)
  have e4 : decide ((c.toNat : Int) ≤ 57) = decide (c.toNat ≤ 57) := decide_eq_decide.2 (by omega)
  have e5 : ((c.toNat : Int) == 46) = decide (c.toNat = 46) := by rw [show ((c.toNat : Int) == 46) = decide ((c.toNat : Int) = 46) from rfl]; exact decide_eq_decide.2 (by omega)
  have e6 : ((c.toNat : Int) == 45) = decide (c.toNat = 45) := by rw [show ((c.toNat : Int) == 45) = decide ((c.toNat : Int) = 45) from rfl]; exact decide_eq_decide.2 (by omega)
  rw [e1, e2, e3, e4, e5, e6]
  rfl
def FnRel (s : ByteArray) (W : World) (i : Value) (wr : World) : Prop :=
  ∃ k : Nat, k ≤ s.size ∧ i = .int .i64 (k : Int) ∧ (s.data.toList.take k).all inName = true ∧ wr = W
set_option maxRecDepth 100000 in
set_option maxHeartbeats 1000000 in
theorem fileName_any (s : ByteArray) (hs : s.size ≤ 140737488355340) (w : World) : Calls Tryz.prog 67 #[.string s] w fun e w' => e = .returned (.bool (named s)) ∧ Below w.heap.size w w' := by
  obtain ⟨cap, W, hcv, hcell, hB⟩ := conv_name s w
  have HC := Lib.hid hcell
  clear hcell
  have hz : s.data.toList.length = s.size := rfl
  have hN : named s = (decide (1 ≤ s.size) && decide (s.size ≤ 80) && s.data.toList.all inName) := rfl
  have HN := Lib.hid hN
  clear hN
  generalize named s = N at *
  go_enter Tryz.func67, Tryz.ntmps67
  go_wp2_with fail
  go_loopw [8] (fun i wr => FnRel s W i wr) (fun i _ => s.size - (intOf i).toNat)
  case atStart => exact ⟨0, Nat.zero_le _, rfl, by simp, rfl⟩
  case round =>
    obtain ⟨k, hk, rfl, ha, rfl⟩ := hrel
    by_cases hlt : k < s.size
    · have hj : (k : Int) < s.size := by omega
      have g0 := HC.out k hlt
      have hx : s.data.toList[k]? = some s[k] := by
        rw [List.getElem?_eq_getElem (by omega)]
        rfl
      have HI := Lib.hid (inName_int s[k])
      have HYes : Hid (inName s[k] = true → (s.data.toList.take (k + 1)).all inName = true) := fun hb => by
        obtain ⟨hk', e⟩ := List.getElem?_eq_some_iff.1 hx
        rw [List.take_succ_eq_append_getElem hk', e, List.all_append, ha]
        simp [hb]
      have HNo : Hid (inName s[k] = false → N = false) := fun hb => by
        rw [HN.out, show s.data.toList.all inName = false from by
          rw [List.all_eq_false]
          exact ⟨_, List.mem_of_getElem? hx, by rw [hb]; simp⟩, Bool.and_false]
      clear hx ha
      generalize inName s[k] = I at *
      generalize (s[k].toNat : Int) = z at *
      by_cases h1 : 97 ≤ z
      · by_cases h2 : z ≤ 122
        · have hy := Lib.hid (HYes.out (by rw [HI.out]; simp [h1, h2]))
          clear HYes HNo HI
          go_wp2_with fail
          go_roundw
          case rel => exact ⟨k + 1, hlt, by rw [Int.natCast_add]; rfl, hy.out, (by first | rfl | trivial)⟩
          case measure => simp [intOf]; omega
        · have hno := Lib.hid (HNo.out (by rw [HI.out]; simp [h2, show ¬ z ≤ 57 by omega, show ¬ z = 46 by omega, show ¬ z = 45 by omega]))
          have h3 : 48 ≤ z := by omega
          have h4 : ¬ z ≤ 57 := by omega
          have h5 : (z == 46) = false := by rw [beq_eq_false_iff_ne]; omega
          have h6 : (z == 45) = false := by rw [beq_eq_false_iff_ne]; omega
          clear HYes HNo HI
          go_wp2_with fail
          go_ret
          exact ⟨by rw [hno.out]; rfl, hB⟩
      · by_cases h3 : 48 ≤ z
        · by_cases h4 : z ≤ 57
          · have hy := Lib.hid (HYes.out (by rw [HI.out]; simp [h3, h4]))
            clear HYes HNo HI
            go_wp2_with fail
            go_roundw
            case rel => exact ⟨k + 1, hlt, by rw [Int.natCast_add]; rfl, hy.out, (by first | rfl | trivial)⟩
            case measure => simp [intOf]; omega
          · have hno := Lib.hid (HNo.out (by rw [HI.out]; simp [h1, h4, show ¬ z = 46 by omega, show ¬ z = 45 by omega]))
            have h5 : (z == 46) = false := by rw [beq_eq_false_iff_ne]; omega
            have h6 : (z == 45) = false := by rw [beq_eq_false_iff_ne]; omega
            clear HYes HNo HI
            go_wp2_with fail
            go_ret
            exact ⟨by rw [hno.out]; rfl, hB⟩
        · by_cases h5 : z = 46
          · have hy := Lib.hid (HYes.out (by rw [HI.out]; simp [h5]))
            subst h5
            clear HYes HNo HI
            go_wp2_with fail
            go_roundw
            case rel => exact ⟨k + 1, hlt, by rw [Int.natCast_add]; rfl, hy.out, (by first | rfl | trivial)⟩
            case measure => simp [intOf]; omega
          · by_cases h6 : z = 45
            · have hy := Lib.hid (HYes.out (by rw [HI.out]; simp [h6]))
              subst h6
              clear HYes HNo HI h5
              go_wp2_with fail
              go_roundw
              case rel => exact ⟨k + 1, hlt, by rw [Int.natCast_add]; rfl, hy.out, (by first | rfl | trivial)⟩
              case measure => simp [intOf]; omega
            · have hno := Lib.hid (HNo.out (by rw [HI.out]; simp [h1, h3, h5, h6]))
              have h5' : (z == 46) = false := by rw [beq_eq_false_iff_ne]; exact h5
              have h6' : (z == 45) = false := by rw [beq_eq_false_iff_ne]; exact h6
              clear HYes HNo HI h5 h6
              go_wp2_with fail
              go_ret
              exact ⟨by rw [hno.out]; rfl, hB⟩
    · obtain rfl : k = s.size := by omega
      have hj : ¬ (s.size : Int) < s.size := by omega
      rw [← hz, List.take_length] at ha
      have HN2 : Hid (N = (decide (1 ≤ s.size) && decide (s.size ≤ 80))) := by show _ = _; rw [HN.out, ha, Bool.and_true]
      clear HN ha hz
      by_cases h1 : 1 ≤ s.size
      · have i1 : (1 : Int) ≤ s.size := by omega
        by_cases h2 : s.size ≤ 80
        · have i2 : (s.size : Int) ≤ 80 := by omega
          go_wp2_with fail
          go_ret
          exact ⟨by rw [HN2.out, decide_eq_true h1, decide_eq_true h2]; rfl, hB⟩
        · have i2 : ¬ (s.size : Int) ≤ 80 := by omega
          go_wp2_with fail
          go_ret
          exact ⟨by rw [HN2.out, decide_eq_true h1, decide_eq_false h2]; rfl, hB⟩
      · have i1 : ¬ (1 : Int) ≤ s.size := by omega
        go_wp2_with fail
        go_ret
        exact ⟨by rw [HN2.out, decide_eq_false h1]; rfl, hB⟩
theorem le_not_lt (a b : ByteArray) : (Op.bytesLess a.toList b.toList || a.toList == b.toList) = !ltB b a := by
  rcases ltB_tri b a with h | rfl | h
  · have h1 : Op.bytesLess a.toList b.toList = false := ltB_asym h
    have h2 : (a.toList == b.toList) = false := by
      rw [beq_eq_false_iff_ne, toList_data, toList_data]
      exact fun q => ltB_ne h (bytes_eq q).symm
    rw [h1, h2, h]
    rfl
  · rw [ltB_irr]; simp
  · have h1 : Op.bytesLess a.toList b.toList = true := h
    rw [h1, ltB_asym h]
    rfl
/-- where GoodDisk stands -/
def RgRel (L : List Fl) (A : Option Addr) (c : Nat) (z : Int) (w : World) (b i : Value) (wr : World) : Prop :=
  ∃ (k : Nat) (s : ByteArray), k ≤ L.length ∧ i = .int .i64 (k : Int) ∧ b = .string s ∧ Arr wr w.heap.size 37 (dkArr L A c z) ∧ Below w.heap.size w wr ∧ goodL ⟨#[]⟩ L = goodL s (L.drop k)
set_option maxRecDepth 100000 in
set_option maxHeartbeats 1000000 in
theorem GoodDisk_any (L : List Fl) (A : Option Addr) (c : Nat) (z : Int) (w : World) (hP : Fls w w.heap.size A L) (hz : Sized L) (hl : L.length ≤ 140737488355328) :
    Calls Tryz.prog 65 #[.agg (dkArr L A c z)] w fun e w' => e = .returned (.bool (goodD L)) ∧ Below w.heap.size w w' := by
  have A0 : Arr (w.alloc (.cells (dkArr L A c z) 37)) w.heap.size 37 (dkArr L A c z) := Arr.new _ _ _
  have b0 : Below w.heap.size w (w.alloc (.cells (dkArr L A c z) 37)) := (Below.refl _ _).alloc (Nat.le_refl _) _
  have hG : goodD L = (decide (L.length ≤ 400) && goodL ⟨#[]⟩ L) := rfl
  have HG := Lib.hid hG
  clear hG
  generalize goodD L = G at *
  go_enter Tryz.func65, Tryz.ntmps65
  go_upto_region 1 with fail
  refine wp_forget (fun V => Arr V w.heap.size 37 (dkArr L A c z) ∧ Below w.heap.size w V) (by exact ⟨A0, b0⟩) ?_
  clear A0 b0
  rintro V ⟨A0, b0⟩
  have c0 : V.cell? ⟨w.heap.size, 0, none⟩ = some (.slice A L.length c) := A0.cell 0
  have h1 : Hid (RgRel L A c z w (.string ⟨#[]⟩) (.int .i64 0) V) := ⟨0, ⟨#[]⟩, Nat.zero_le _, rfl, rfl, A0, b0, by rw [List.drop_zero]⟩
  clear A0 b0
  go_wp2_with fail
  go_loopw [3, 9] (fun b i wr => RgRel L A c z w b i wr) (fun _ i _ => L.length - (intOf i).toNat)
  case atStart => exact h1.out
  case round =>
    clear h1 c0
    clear V
    obtain ⟨k, s, hk, rfl, rfl, A1, bel, he⟩ := hrel
    by_cases hlt : k < L.length
    · have hj : (k : Int) < L.length := by omega
      have hx : L[k]? = some L[k] := List.getElem?_eq_getElem hlt
      obtain ⟨ad, rfl, hbl, h0, h1, h2⟩ := hP k L[k] hx
      have g0 := (bel.cell hbl).trans h0
      have g1 := (bel.cell (p := ⟨(ad.add (k * 3)).block, (ad.add (k * 3)).off + 1, none⟩) hbl).trans h1
      have g2 := (bel.cell (p := ⟨(ad.add (k * 3)).block, (ad.add (k * 3)).off + 2, none⟩) hbl).trans h2
      have hs := hz L[k] (List.getElem_mem hlt)
      rw [List.drop_eq_getElem_cons hlt, goodL] at he
      clear h0 h1 h2 hx
      generalize L[k] = x at *
      have HE := Lib.hid he
      clear he
      have bb : Below wr.heap.size wr ((wr.alloc (.cells flZero 68)).setRow wr.heap.size (flArr x)) := below_setRow ((Below.refl _ _).alloc (Nat.le_refl _) _) (Nat.le_refl _) _
      have AX : Arr ((wr.alloc (.cells flZero 68)).setRow wr.heap.size (flArr x)) wr.heap.size 68 (flArr x) := (Arr.new _ _ _).row _
      go_upto_region 5 with (refine wpList_store_row rfl 68 _ _ rfl wr.heap.size (flArr x) rfl rfl 68 flZero (Arr.new wr _ _) (flInfo _) rfl (flArr_one _) ?_)
      refine wp_forget (fun V => Arr V w.heap.size 37 (dkArr L (some ad) c z) ∧ Below w.heap.size w V ∧ Arr V wr.heap.size 68 (flArr x)) (by exact ⟨A1.below bb A1.lt, bel.trans (bb.mono bel.size), AX⟩) ?_
      clear bb AX A1 bel g0 g1 g2
      generalize wr.heap.size = q
      rintro V ⟨A1, bel, AX⟩
      have c0 : V.cell? ⟨q, 0, none⟩ = some (.string x.name) := AX.cell 0
      have CN := Lib.hid (fileName_any x.name (by omega) V)
      have HF : Hid (fits x = decide (x.safe.size + x.tail.size ≤ 1048576)) := rfl
      have HL := Lib.hid (le_not_lt x.name s)
      generalize named x.name = N at *
      cases N
      · go_wp2_with fail
        (with_reducible refine CN.out.mono ?_)
        rintro _ V2 ⟨rfl, b2⟩
        go_wp2_with fail
        go_ret
        exact ⟨by rw [HG.out, HE.out]; simp, bel.trans (b2.mono bel.size)⟩
      go_wp2_with fail
      (with_reducible refine CN.out.mono ?_)
      clear CN c0
      rintro _ V2 ⟨rfl, b2⟩
      replace A1 := A1.below b2 A1.lt
      replace AX := AX.below b2 AX.lt
      replace bel := bel.trans (b2.mono bel.size)
      clear b2
      have c0 : V2.cell? ⟨q, 0, none⟩ = some (.string x.name) := AX.cell 0
      have c1 : V2.cell? ⟨q, 1, none⟩ = some (.string x.safe) := AX.cell 1
      have c2 : V2.cell? ⟨q, 2, none⟩ = some (.string x.tail) := AX.cell 2
      cases hq : ltB s x.name with
      | false =>
        have hle : (Op.bytesLess x.name.toList s.toList || x.name.toList == s.toList) = true := by rw [HL.out, hq]; rfl
        clear HL
        go_wp2_with fail
        go_ret
        exact ⟨by rw [HG.out, HE.out, hq]; simp, bel⟩
      | true =>
        have hle : (Op.bytesLess x.name.toList s.toList || x.name.toList == s.toList) = false := by rw [HL.out, hq]; rfl
        clear HL
        by_cases hbig : 1048576 < x.safe.size + x.tail.size
        · have hF : Hid (fits x = false) := by show _ = _; rw [HF.out]; exact decide_eq_false (by omega)
          by_cases hb1 : 1048576 < x.safe.size
          · have hj1 : (1048576 : Int) < x.safe.size := by omega
            go_wp2_with fail
            go_ret
            exact ⟨by rw [HG.out, HE.out, hF.out]; simp, bel⟩
          · have hj1 : ¬ (1048576 : Int) < x.safe.size := by omega
            have hj2 : (1048576 : Int) < (x.safe.size : Int) + x.tail.size := by omega
            go_wp2_with fail
            go_ret
            exact ⟨by rw [HG.out, HE.out, hF.out]; simp, bel⟩
        · have hF : Hid (fits x = true) := by show _ = _; rw [HF.out]; exact decide_eq_true (by omega)
          have hj1 : ¬ (1048576 : Int) < x.safe.size := by omega
          have hj2 : ¬ (1048576 : Int) < (x.safe.size : Int) + x.tail.size := by omega
          have HE2 : Hid (goodL ⟨#[]⟩ L = goodL x.name (L.drop (k + 1))) := by show _ = _; rw [HE.out, hF.out, hq]; rfl
          clear HE hF HF hq
          go_wp2_with fail
          go_roundw
          case rel => exact ⟨k + 1, x.name, hlt, by rw [Int.natCast_add]; rfl, rfl, A1, bel, HE2.out⟩
          case measure => simp [intOf]; omega
    · obtain rfl : k = L.length := by omega
      have hj : ¬ (L.length : Int) < L.length := by omega
      rw [List.drop_length] at he
      have HE : Hid (G = decide (L.length ≤ 400)) := by show _ = _; rw [HG.out, he]; simp [goodL]
      clear he HG
      have c0 : wr.cell? ⟨w.heap.size, 0, none⟩ = some (.slice A L.length c) := A1.cell 0
      by_cases h4 : L.length ≤ 400
      · have i4 : (L.length : Int) ≤ 400 := by omega
        go_wp2_with fail
        go_ret
        exact ⟨by rw [HE.out, decide_eq_true h4]; rfl, bel⟩
      · have i4 : ¬ (L.length : Int) ≤ 400 := by omega
        go_wp2_with fail
        go_ret
        exact ⟨by rw [HE.out, decide_eq_false h4]; rfl, bel⟩
end Go.Proofs.YtmikfmcgddmplaaGreatDoor

/- ref.at, CopyDisk, SameDisk, ReadFile: their contracts. -/
namespace Go.Proofs.YtmikfmcgddmplaaGreatDoor
open Go.RowKit

/-- where a file of this name stands, or -1 -/
def atP (n : ByteArray) (L : List Fl) : Int := if hasN n L then (low n L : Int) else -1
theorem at_yes {n : ByteArray} {L : List Fl} {b : ByteArray} (hr : ris b L) {k : Nat} {f : Fl} (hk : L[k]? = some f) (hn : f.name = n) : atP n L = (k : Int) := by
  have hlt := (List.getElem?_eq_some_iff.1 hk).1
  have h1 : hasN n L = true := by
    unfold hasN getF
    rw [List.find?_isSome]
    exact ⟨f, List.mem_of_getElem? hk, decide_eq_true hn⟩
  obtain ⟨f', _, h2, h3, h4⟩ := has_some hr h1
  have e1 : ¬ k < low n L := fun h => by
    have := (low_split n L b hr k f hk).2 h
    rw [hn, ltB_irr] at this
    cases this
  have e2 : ¬ low n L < k := fun h => by
    have hp : ∀ (L : List Fl) (b : ByteArray), ris b L → ∀ (i j : Nat) (x y : Fl), i < j → L[i]? = some x → L[j]? = some y → ltB x.name y.name = true := fun L => by
      induction L with
      | nil => intro b _ i j x y _ hi _; simp at hi
      | cons g l ih =>
        intro b hr i j x y hij hi hj
        cases j with
        | zero => omega
        | succ j =>
          rw [List.getElem?_cons_succ] at hj
          cases i with
          | zero =>
            simp at hi
            subst hi
            exact ris_lt hr.2 y (List.mem_of_getElem? hj)
          | succ i =>
            rw [List.getElem?_cons_succ] at hi
            exact ih g.name hr.2 i j x y (by omega) hi hj
    have := hp L b hr _ _ _ _ h h2 hk
    rw [h3, hn, ltB_irr] at this
    cases this
  unfold atP
  rw [if_pos h1]
  omega
theorem at_no {n : ByteArray} {L : List Fl} (h : ∀ (k : Nat) (f : Fl), L[k]? = some f → f.name ≠ n) : atP n L = -1 := by
  unfold atP hasN
  rw [if_neg]
  intro hs
  cases hg : getF n L with
  | none => rw [hg] at hs; cases hs
  | some f =>
    obtain ⟨h1, h2⟩ := getF_name hg
    obtain ⟨k, hk, rfl⟩ := List.getElem_of_mem h2
    exact h k _ (List.getElem?_eq_getElem hk) h1
def AtRel (L : List Fl) (n : ByteArray) (A : Option Addr) (c : Nat) (z : Int) (w : World) (i : Value) (wr : World) : Prop :=
  ∃ k : Nat, k ≤ L.length ∧ i = .int .i64 (k : Int) ∧ Arr wr w.heap.size 37 (dkArr L A c z) ∧ Below w.heap.size w wr ∧ ∀ (j : Nat) (f : Fl), j < k → L[j]? = some f → f.name ≠ n
set_option maxRecDepth 100000 in
set_option maxHeartbeats 1000000 in
theorem at_any (L : List Fl) (n : ByteArray) (A : Option Addr) (c : Nat) (z : Int) (w : World) (hP : Fls w w.heap.size A L) (hl : L.length ≤ 140737488355328) (hr : ris ⟨#[]⟩ L) :
    Calls Tryz.prog 66 #[.agg #[.slice A L.length c, .int .i64 z], .string n] w fun e w' => e = .returned (.int .i64 (atP n L)) ∧ Below w.heap.size w w' := by
  have A0 : Arr (w.alloc (.cells (dkArr L A c z) 37)) w.heap.size 37 (dkArr L A c z) := Arr.new _ _ _
  have b0 : Below w.heap.size w (w.alloc (.cells (dkArr L A c z) 37)) := (Below.refl _ _).alloc (Nat.le_refl _) _
  have HY := Lib.hid (fun k f h1 h2 => at_yes (n := n) hr (k := k) (f := f) h1 h2)
  have HNo := Lib.hid (fun h => at_no (n := n) (L := L) h)
  generalize atP n L = P at *
  go_enter Tryz.func66, Tryz.ntmps66
  go_upto_region 1 with fail
  refine wp_forget (fun V => Arr V w.heap.size 37 (dkArr L A c z) ∧ Below w.heap.size w V) (by exact ⟨A0, b0⟩) ?_
  clear A0 b0
  rintro V ⟨A0, b0⟩
  have c0 : V.cell? ⟨w.heap.size, 0, none⟩ = some (.slice A L.length c) := A0.cell 0
  have h1 : Hid (AtRel L n A c z w (.int .i64 0) V) := ⟨0, Nat.zero_le _, rfl, A0, b0, fun j f h => by omega⟩
  clear A0 b0
  go_wp2_with fail
  go_loopw [10] (fun i wr => AtRel L n A c z w i wr) (fun i _ => L.length - (intOf i).toNat)
  case atStart => exact h1.out
  case round =>
    clear h1 c0
    clear V
    obtain ⟨k, hk, rfl, A1, bel, hno⟩ := hrel
    by_cases hlt : k < L.length
    · have hj : (k : Int) < L.length := by omega
      have hx : L[k]? = some L[k] := List.getElem?_eq_getElem hlt
      obtain ⟨ad, rfl, hbl, h0, h1, h2⟩ := hP k L[k] hx
      have g0 := (bel.cell hbl).trans h0
      have g1 := (bel.cell (p := ⟨(ad.add (k * 3)).block, (ad.add (k * 3)).off + 1, none⟩) hbl).trans h1
      have g2 := (bel.cell (p := ⟨(ad.add (k * 3)).block, (ad.add (k * 3)).off + 2, none⟩) hbl).trans h2
      have HYk : Hid (L[k].name = n → P = (k : Int)) := fun h => HY.out k _ hx h
      have HNk : Hid (L[k].name ≠ n → ∀ (j : Nat) (f : Fl), j < k + 1 → L[j]? = some f → f.name ≠ n) := fun h j f hj hf => by
        by_cases e : j = k
        · subst e
          rw [hx] at hf
          cases hf
          exact h
        · exact hno j f (by omega) hf
      clear h0 h1 h2 hx hno
      generalize L[k] = x at *
      have bb : Below wr.heap.size wr ((wr.alloc (.cells flZero 68)).setRow wr.heap.size (flArr x)) := below_setRow ((Below.refl _ _).alloc (Nat.le_refl _) _) (Nat.le_refl _) _
      have AX : Arr ((wr.alloc (.cells flZero 68)).setRow wr.heap.size (flArr x)) wr.heap.size 68 (flArr x) := (Arr.new _ _ _).row _
      go_upto_region 4 with (refine wpList_store_row rfl 68 _ _ rfl wr.heap.size (flArr x) rfl rfl 68 flZero (Arr.new wr _ _) (flInfo _) rfl (flArr_one _) ?_)
      refine wp_forget (fun V => Arr V w.heap.size 37 (dkArr L (some ad) c z) ∧ Below w.heap.size w V ∧ Arr V wr.heap.size 68 (flArr x)) (by exact ⟨A1.below bb A1.lt, bel.trans (bb.mono bel.size), AX⟩) ?_
      clear bb AX A1 bel g0 g1 g2
      generalize wr.heap.size = q
      rintro V ⟨A1, bel, AX⟩
      have c0 : V.cell? ⟨q, 0, none⟩ = some (.string x.name) := AX.cell 0
      cases hq : x.name.toList == n.toList
      · have hne := Lib.hid (HNk.out (fun e => by rw [e] at hq; simp at hq))
        clear HYk HNk
        go_wp2_with fail
        go_roundw
        case rel => exact ⟨k + 1, hlt, by rw [Int.natCast_add]; rfl, A1, bel, hne.out⟩
        case measure => simp [intOf]; omega
      · have hy := Lib.hid (HYk.out ((sameB_iff _ _).1 hq))
        clear HYk HNk
        go_wp2_with fail
        go_ret
        exact ⟨by rw [hy.out]; rfl, bel⟩
    · obtain rfl : k = L.length := by omega
      have hj : ¬ (L.length : Int) < L.length := by omega
      have hy := Lib.hid (HNo.out (fun k f hk => hno k f (List.getElem?_eq_some_iff.1 hk).1 hk))
      clear hno
      go_wp2_with fail
      go_ret
      exact ⟨by rw [hy.out]; rfl, bel⟩
set_option maxRecDepth 100000 in
set_option maxHeartbeats 1000000 in
theorem RefSameDisk_any (L M : List Fl) (A B : Option Addr) (c d : Nat) (z y : Int) (w : World) (hP : Fls w w.heap.size A L) (hQ : Fls w w.heap.size B M) (hl : L.length ≤ 140737488355328) (hm : M.length ≤ 140737488355328) :
    Calls Tryz.prog 19 #[.agg #[.slice A L.length c, .int .i64 z], .agg #[.slice B M.length d, .int .i64 y]] w fun e w' => e = .returned (.bool (decide ((⟨L, z⟩ : Dk) = ⟨M, y⟩))) ∧ Below w.heap.size w w' := by
  have h0 := Lib.hid (two_start w L M A B c d z y)
  have HD : Hid (∀ b : Bool, ((⟨L, z⟩ : Dk) = ⟨M, y⟩ ↔ b = true) → decide ((⟨L, z⟩ : Dk) = ⟨M, y⟩) = b) := fun b hb => by
    cases b with
    | true => exact decide_eq_true (hb.2 rfl)
    | false => exact decide_eq_false (fun e => by have := hb.1 e; cases this)
  have HI : Hid ((⟨L, z⟩ : Dk) = ⟨M, y⟩ ↔ L = M ∧ z = y) := by show _ ↔ _; simp
  generalize decide ((⟨L, z⟩ : Dk) = ⟨M, y⟩) = D at *
  go_enter Tryz.func19, Tryz.ntmps19
  go_upto_region 1 with fail
  refine wp_forget (fun V => Two w L M A B c d z y V) (by exact h0.out) ?_
  clear h0
  intro V T
  have c0 : V.cell? ⟨w.heap.size, 0, none⟩ = some (.slice A L.length c) := T.a.cell 0
  have c1 : V.cell? ⟨w.heap.size, 1, none⟩ = some (.int .i64 z) := T.a.cell 1
  have d0 : V.cell? ⟨w.heap.size + 1, 0, none⟩ = some (.slice B M.length d) := T.b.cell 0
  have d1 : V.cell? ⟨w.heap.size + 1, 1, none⟩ = some (.int .i64 y) := T.b.cell 1
  by_cases hlen : L.length = M.length
  case neg =>
    have hlb : ((L.length : Int) != M.length) = true := by rw [bne_iff_ne]; omega
    have HF : Hid (D = false) := HD.out false (by rw [HI.out]; exact ⟨fun ⟨e, _⟩ => absurd (by rw [e]) hlen, fun e => by cases e⟩)
    clear hlen HD HI
    go_wp2_with fail
    go_ret
    exact ⟨by rw [HF.out]; rfl, T.bel⟩
  have hlb : ((L.length : Int) != M.length) = false := by rw [hlen]; simp
  by_cases hzy : z = y
  case neg =>
    have hzb : (z != y) = true := by rw [bne_iff_ne]; exact hzy
    have HF : Hid (D = false) := HD.out false (by rw [HI.out]; exact ⟨fun ⟨_, e⟩ => absurd e hzy, fun e => by cases e⟩)
    clear hlen hzy HD HI
    go_wp2_with fail
    go_ret
    exact ⟨by rw [HF.out]; rfl, T.bel⟩
  have hzb : (z != y) = false := by rw [hzy]; simp
  have HR : Hid (SdRel w L M A B c d z y (.int .i64 0) V) := ⟨0, Nat.zero_le _, rfl, rfl, T⟩
  have HZ := Lib.hid hzy
  have HLn := Lib.hid hlen
  clear T hzy hlen
  go_wp2_with fail
  clear c0 c1 d0 d1 hlb hzb
  go_loopw [23] (fun i wr => SdRel w L M A B c d z y i wr) (fun i _ => M.length - (intOf i).toNat)
  case atStart => exact HR.out
  case round =>
    clear HR
    obtain ⟨k, hk, rfl, ht, T⟩ := hrel
    have hlen := HLn.out
    have c0 : wr.cell? ⟨w.heap.size, 0, none⟩ = some (.slice A L.length c) := T.a.cell 0
    have d0 : wr.cell? ⟨w.heap.size + 1, 0, none⟩ = some (.slice B M.length d) := T.b.cell 0
    have HT := Lib.hid ht
    clear ht
    by_cases hlt : k < M.length
    · have hlt2 : k < L.length := by omega
      have hj : (k : Int) < L.length := by omega
      have hj2 : (k : Int) < M.length := by omega
      obtain ⟨ad, rfl, hbl, h0, h1, h2⟩ := hP k L[k] (List.getElem?_eq_getElem hlt2)
      obtain ⟨ad2, rfl, hbl2, h0', h1', h2'⟩ := hQ k M[k] (List.getElem?_eq_getElem hlt)
      have g0 := (T.bel.cell hbl).trans h0
      have g1 := (T.bel.cell (p := ⟨(ad.add (k * 3)).block, (ad.add (k * 3)).off + 1, none⟩) hbl).trans h1
      have g2 := (T.bel.cell (p := ⟨(ad.add (k * 3)).block, (ad.add (k * 3)).off + 2, none⟩) hbl).trans h2
      have g3 := (T.bel.cell hbl2).trans h0'
      have g4 := (T.bel.cell (p := ⟨(ad2.add (k * 3)).block, (ad2.add (k * 3)).off + 1, none⟩) hbl2).trans h1'
      have g5 := (T.bel.cell (p := ⟨(ad2.add (k * 3)).block, (ad2.add (k * 3)).off + 2, none⟩) hbl2).trans h2'
      have HS := Lib.hid (fun e => take_same HT.out hlt2 hlt e)
      have HN : Hid (L[k] ≠ M[k] → D = false) := fun h => HD.out false (by rw [HI.out]; exact ⟨fun ⟨e, _⟩ => by subst e; exact absurd rfl h, fun e => by cases e⟩)
      clear h0 h1 h2 h0' h1' h2' HT hlen
      generalize L[k] = x at *
      generalize M[k] = x' at *
      obtain ⟨x1, x2, x3⟩ := x
      obtain ⟨y1, y2, y3⟩ := x'
      simp only at g0 g1 g2 g3 g4 g5
      have hne := neF_run x1 y1 x2 y2 x3 y3
      cases hq : neF ⟨x1, x2, x3⟩ ⟨y1, y2, y3⟩
      · have HS2 := Lib.hid (HS.out ((neF_iff _ _).1 hq))
        rw [hq] at hne
        clear HS HN hq
        go_wp2_with fail
        go_quiet (fail)
        go_wp2_with fail
        refine ⟨⟨k + 1, hlt, by go_num, HS2.out, T.drewN _⟩, by simp [intOf]; omega⟩
      · have HF := Lib.hid (HN.out (fun e => by have := (neF_iff _ _).2 e; rw [this] at hq; cases hq))
        rw [hq] at hne
        clear HS HN hq
        go_wp2_with fail
        go_quiet (fail)
        go_wp2_with fail
        go_ret
        exact ⟨by rw [HF.out]; rfl, below_drewN T.bel _⟩
    · obtain rfl : k = M.length := by omega
      have hj : ¬ (M.length : Int) < L.length := by omega
      have HF : Hid (D = true) := HD.out true (by
        rw [HI.out]
        refine ⟨fun _ => rfl, fun _ => ⟨?_, HZ.out⟩⟩
        have := HT.out
        rwa [List.take_length, List.take_of_length_le (by omega)] at this)
      clear HT hlen
      go_wp2_with fail
      go_ret
      exact ⟨by rw [HF.out]; rfl, T.bel⟩
set_option maxRecDepth 100000 in
set_option maxHeartbeats 1000000 in
theorem ReadFile_any (L : List Fl) (n : ByteArray) (A : Option Addr) (c : Nat) (z : Int) (w : World) (hP : Fls w w.heap.size A L) (hz : Sized L) (hl : L.length ≤ 140737488355328) :
    Calls Tryz.prog 39 #[.agg #[.slice A L.length c, .int .i64 z], .string n] w fun e w' => e = .returned (.tuple #[.string (readD ⟨L, z⟩ n).1, .int .i64 (readD ⟨L, z⟩ n).2]) ∧ Below w.heap.size w w' := by
  have A0 : Arr (w.alloc (.cells (dkArr L A c z) 37)) w.heap.size 37 (dkArr L A c z) := Arr.new _ _ _
  have b0 : Below w.heap.size w (w.alloc (.cells (dkArr L A c z) 37)) := (Below.refl _ _).alloc (Nat.le_refl _) _
  have HS : Hid (readD ⟨L, z⟩ n = if !goodD L then ((⟨#[]⟩, 3) : ByteArray × Int) else match getF n L with
    | none => (⟨#[]⟩, 7)
    | some f => (f.safe ++ f.tail, 0)) := rfl
  generalize readD ⟨L, z⟩ n = Q at *
  go_enter Tryz.func39, Tryz.ntmps39
  go_upto_region 1 with fail
  refine wp_forget (fun V => Arr V w.heap.size 37 (dkArr L A c z) ∧ Below w.heap.size w V) (by exact ⟨A0, b0⟩) ?_
  clear A0 b0
  rintro V ⟨A0, b0⟩
  have c0 : V.cell? ⟨w.heap.size, 0, none⟩ = some (.slice A L.length c) := A0.cell 0
  have c1 : V.cell? ⟨w.heap.size, 1, none⟩ = some (.int .i64 z) := A0.cell 1
  have CG : Hid (Calls Tryz.prog 65 #[.agg #[.slice A L.length c, .int .i64 z]] V fun e w' => e = .returned (.bool (goodD L)) ∧ Below V.heap.size V w') := GoodDisk_any L A c z V (hP.up b0) hz hl
  cases hg : goodD L with
  | false =>
    rw [hg] at CG
    have HQ : Hid (Q = (⟨#[]⟩, 3)) := by show _ = _; rw [HS.out, hg]; rfl
    clear HS hg
    go_wp2_with fail
    (with_reducible refine CG.out.mono ?_)
    clear CG c0 c1
    rintro _ V2 ⟨rfl, b2⟩
    go_wp2_with fail
    go_ret2
    exact ⟨by rw [HQ.out]; rfl, b0.trans (b2.mono b0.size)⟩
  | true =>
    rw [hg] at CG
    obtain ⟨h4, hr, hall⟩ := (goodD_iff L).1 hg
    go_wp2_with fail
    (with_reducible refine CG.out.mono ?_)
    clear CG c0 c1
    rintro _ V2 ⟨rfl, b2⟩
    replace A0 := A0.below b2 A0.lt
    replace b0 := b0.trans (b2.mono b0.size)
    clear b2
    have c0 : V2.cell? ⟨w.heap.size, 0, none⟩ = some (.slice A L.length c) := A0.cell 0
    have c1 : V2.cell? ⟨w.heap.size, 1, none⟩ = some (.int .i64 z) := A0.cell 1
    have CF := Lib.hid (at_any L n A c z V2 (hP.up b0) hl hr)
    unfold atP at CF
    cases hbn : hasN n L with
    | false =>
      rw [hbn, if_neg (by simp)] at CF
      have HQ : Hid (Q = (⟨#[]⟩, 7)) := by
        show _ = _
        rw [HS.out, hg]
        unfold hasN at hbn
        cases hgf : getF n L with
        | none => rfl
        | some f => rw [hgf] at hbn; cases hbn
      clear HS hg hbn
      go_wp2_with fail
      (with_reducible refine CF.out.mono ?_)
      clear CF c0 c1
      rintro _ V3 ⟨rfl, b4⟩
      go_wp2_with fail
      go_ret2
      exact ⟨by rw [HQ.out]; rfl, b0.trans (b4.mono b0.size)⟩
    | true =>
      rw [hbn, if_pos rfl] at CF
      obtain ⟨f, hgf, hx, hfn, hlt⟩ := has_some hr hbn
      clear hfn
      have HQ : Hid (Q = (f.safe ++ f.tail, 0)) := by show _ = _; rw [HS.out, hg, hgf]; rfl
      have hfit : f.safe.size + f.tail.size ≤ 1048576 := by
        have := (hall f (List.mem_of_getElem? hx)).2
        unfold fits at this
        exact of_decide_eq_true this
      have hli : (low n L : Int) < L.length := by omega
      have hl0 : ¬ (low n L : Int) < 0 := by omega
      generalize low n L = i at *
      clear HS hg hbn hgf hall hr
      go_wp2_with fail
      (with_reducible refine CF.out.mono ?_)
      clear CF c0 c1
      rintro _ V3 ⟨rfl, b4⟩
      replace A0 := A0.below b4 A0.lt
      replace b0 := b0.trans (b4.mono b0.size)
      obtain ⟨ad, rfl, hbk, d0, d1, d2⟩ := (hP.up b0) i f hx
      have c0 : V3.cell? ⟨w.heap.size, 0, none⟩ = some (.slice (some ad) L.length c) := A0.cell 0
      clear b4 hx
      go_wp2_with fail
      have hcc : ¬ 9223372036854775807 < f.safe.size + f.tail.size := by omega
      go_quiet (fail)
      go_wp2_with fail
      go_ret2
      exact ⟨by rw [HQ.out]; rfl, below_drewN b0 _⟩
end Go.Proofs.YtmikfmcgddmplaaGreatDoor

/- The digest of three letters, by the program. -/
namespace Go.Proofs.YtmikfmcgddmplaaGreatDoor
open Go.RowKit

theorem Sum_abc (w : World) (ht : Tab w) : Calls Tryz.prog 92 #[.string ⟨#[97, 98, 99]⟩] w fun e w' => e = .returned (.string (bs abcDigest)) ∧ Below w.heap.size w w' := by
  have h := Sum_any ⟨#[97, 98, 99]⟩ (by decide) w ht
  rw [show (ByteArray.mk #[97, 98, 99]).data.toList = [97, 98, 99] from rfl, sha_abc] at h
  exact h
end Go.Proofs.YtmikfmcgddmplaaGreatDoor

/- sum.Good, sum.Add, sum.End: their contracts. -/
namespace Go.Proofs.YtmikfmcgddmplaaGreatDoor
open Go.RowKit

/-- A state of whatever content, as a value. -/
def stx (hs : List UInt32) (r : ByteArray) (m : Int) : Value := .agg (sarr hs r m)
/-- Is it one that something may have led to? -/
def okS (r : ByteArray) (m : Int) : Prop := 0 ≤ m ∧ m < 1152921504606846976 ∧ (r.size : Int) = m % 64

end Go.Proofs.YtmikfmcgddmplaaGreatDoor

/- sum.Add where it errs, sum.End: their contracts. -/
namespace Go.Proofs.YtmikfmcgddmplaaGreatDoor
open Go.RowKit

end Go.Proofs.YtmikfmcgddmplaaGreatDoor

/- A state is equal to itself, as the program compares. -/
namespace Go.Proofs.YtmikfmcgddmplaaGreatDoor
open Go.RowKit

set_option maxRecDepth 100000 in
set_option maxHeartbeats 1000000 in
theorem eq8_run (d : Nat) (h0 h1 h2 h3 h4 h5 h6 h7 : UInt32) (w : World) :
    (Op.equalIn (d + 2) 85 (.agg #[.int .u32 (wd h0), .int .u32 (wd h1), .int .u32 (wd h2), .int .u32 (wd h3), .int .u32 (wd h4), .int .u32 (wd h5), .int .u32 (wd h6), .int .u32 (wd h7)])
      (.agg #[.int .u32 (wd h0), .int .u32 (wd h1), .int .u32 (wd h2), .int .u32 (wd h3), .int .u32 (wd h4), .int .u32 (wd h5), .int .u32 (wd h6), .int .u32 (wd h7)])).run Tryz.prog w = .ok true w := by
  have hs : ∀ w, (sizeOf 84).run Tryz.prog w = .ok 1 w := fun w => by kernel_rfl
  have ha : ∀ w, (isAgg 84).run Tryz.prog w = .ok false w := fun w => by kernel_rfl
  have hi : ∀ (a : Int) (w : World), (Op.equalIn (d + 1) 84 (.int .u32 a) (.int .u32 a)).run Tryz.prog w = .ok true w := fun a w => by
    rw [run_equalIn_int w d _ .u32 .u32 a a Tryz.underlying84]; simp
  rw [Op.equalIn]
  simp [run_underlying Tryz.underlying85, hs, part, ha, hi, Std.Legacy.Range.forIn_eq_forIn_range', List.range', Std.Legacy.Range.size]

set_option maxRecDepth 100000 in
set_option maxHeartbeats 1000000 in
theorem eqS_run (hs : List UInt32) (h8 : hs.length = 8) (r : ByteArray) (m : Int) (w : World) :
    (binOp .eql 165 (.agg (sarr hs r m)) (.agg (sarr hs r m))).run Tryz.prog w = .ok (.bool true) w := by
  obtain ⟨h0, h1, h2, h3, h4, h5, h6, h7, rfl⟩ := eight h8
  have e : sarr [h0, h1, h2, h3, h4, h5, h6, h7] r m = #[.int .u32 (wd h0), .int .u32 (wd h1), .int .u32 (wd h2), .int .u32 (wd h3), .int .u32 (wd h4), .int .u32 (wd h5), .int .u32 (wd h6), .int .u32 (wd h7), .string r, .int .i64 m] := rfl
  rw [e]
  have q := eq8_run 9997 h0 h1 h2 h3 h4 h5 h6 h7 w
  go_simp

section
variable {P : Program} {ops : Array Oper} {rest : List Oper} {o : Oper} {a : Act} {w : World} {Q : Exit → Act → World → Prop}
/-- a whole row is loaded, where the guard says yes -/
theorem wpList_load_row_ws (hw : Region.wanted o (yielded ops a.tmps) = true) (ty : TypeId) (x : Operand) (ho : o.op = .load ty x)
    (g : Nat) (hx : a.eval x = .pointer (some ⟨g, 0, none⟩)) (t : TypeId) (cs : Array Value) (fr : Nat × Nat) (d : TypeDesc) (hg : w.heap[g]? = some (.cells cs t fr))
    (hu : P.underlying ty = some d) (hd : (match d with | .struct _ | .array _ _ => true | _ => false) = true) (hi : (P.info? ty).map (·.size) = some cs.size)
    (h : wpList P ops Q rest (a.put o.dst (.agg cs)) w) : wpList P ops Q (o :: rest) a w :=
  BigFrame.wpList_want hw fun _ hK => wp_load_row ty x ho g hx t cs fr d hg hu hd hi (hK _ _ h)
/-- two values are compared, where the guard says yes: the guard's look and the comparison are run by the caller -/
theorem wpList_binop_w (hw : Region.wanted o (yielded ops a.tmps) = true) (op : BinOp) (t : TypeId) (x y : Operand) (ty : TypeId) (ho : o.op = .binOp op t x y ty) (u v r : Value)
    (hx : a.eval x = u) (hy : a.eval y = v) (hq : (eqGuard op t x y u v).run P w = .ok () w) (hr : (binOp op t u v).run P w = .ok r w)
    (h : wpList P ops Q rest (a.put o.dst r) w) : wpList P ops Q (o :: rest) a w := by
  refine BigFrame.wpList_want hw fun K hK => ?_
  unfold Oper.wp execOp
  simp only [ho, hx, hy, Sem.run_bind, hq, hr, Result.andThen_ok, Sem.run_pure, Oper.upon_value]
  exact hK _ _ h
end
theorem eqGuardS (x y : Operand) (u v : Array Value) (w : World) : (eqGuard .eql 165 x y (.agg u) (.agg v)).run Tryz.prog w = .ok () w := by
  have he : Tryz.prog.eqGuardType Tryz.prog.depth 165 = false := by kernel_rfl
  simp [eqGuard, he]
end Go.Proofs.YtmikfmcgddmplaaGreatDoor

/- keep.abc answers true. -/
namespace Go.Proofs.YtmikfmcgddmplaaGreatDoor
open Go.RowKit

end Go.Proofs.YtmikfmcgddmplaaGreatDoor

/- keep.SumParts: the walk. -/
namespace Go.Proofs.YtmikfmcgddmplaaGreatDoor
open Go.RowKit

/-- The state behind bytes. -/
def stA (l : List UInt8) : Array Value := sarr (blocks startH l) (bs (restOf l)) (l.length : Int)
theorem stA_ok (l : List UInt8) (h : l.length < 1152921504606846976) : okS (bs (restOf l)) (l.length : Int) :=
  ⟨by omega, by omega, by rw [bs_size, restOf_length]; omega⟩
theorem stA_info (l : List UInt8) : (Tryz.prog.info? 165).map (·.size) = some (stA l).size := infoS _ (blocks_len8 _ _ rfl) _ _
theorem stA_size (l : List UInt8) : (stA l).size = 10 := sarr_size _ (blocks_len8 _ _ rfl) _ _
theorem stA_one (l : List UInt8) : (stA l).all (·.oneCell') = true := sarr_one _ _ _
theorem stA_eq (l : List UInt8) (w : World) : (binOp .eql 165 (.agg (stA l)) (.agg (stA l))).run Tryz.prog w = .ok (.bool true) w := eqS_run _ (blocks_len8 _ _ rfl) _ _ w
theorem Begin_A (w : World) : Calls Tryz.prog 131 #[] w fun e w' => e = .returned (.agg (stA [])) ∧ Below w.heap.size w w' := by
  have h := Begin_any w
  have e : stA [] = sarr startH ⟨#[]⟩ ((0 : Nat) : Int) := by unfold stA; rw [blocks_end _ _ (by simp)]; rfl
  rw [e]
  exact h
theorem sha_length (l : List UInt8) : (sha l).length = 32 := digest_length _ (blocks_len8 _ _ (blocks_len8 _ _ rfl))

/-- one state of the law's own in memory -/
def PW1 (g : Nat) (A : Array Value) (w W : World) : Prop := Arr W g 165 A ∧ w.heap.size ≤ g ∧ Tab W ∧ Below w.heap.size w W
theorem PW1.below {g : Nat} {A : Array Value} {w W W' : World} (h : PW1 g A w W) (hb : Below W.heap.size W W') : PW1 g A w W' :=
  ⟨h.1.below hb h.1.lt, h.2.1, h.2.2.1.below hb h.2.2.1.1, h.2.2.2.trans (hb.mono h.2.2.2.size)⟩
theorem PW1.row {g : Nat} {A : Array Value} {w W : World} (h : PW1 g A w W) (hw : 1 < w.heap.size) (B : Array Value) : PW1 g B w (W.setRow g B) :=
  ⟨h.1.row B, h.2.1, h.2.2.1.below (below_setRow (Below.refl w.heap.size W) h.2.1 B) hw, below_setRow h.2.2.2 h.2.1 B⟩
theorem PW1.start {A : Array Value} {w W : World} (ht : Tab W) (hb : Below w.heap.size w W) (hw : 1 < w.heap.size) :
    PW1 W.heap.size A w ((W.alloc (.cells zeroS 165)).setRow W.heap.size A) :=
  PW1.row (A := zeroS) ⟨Arr.new _ _ _, hb.size, ht.alloc _, hb.alloc hb.size _⟩ hw A

end Go.Proofs.YtmikfmcgddmplaaGreatDoor
