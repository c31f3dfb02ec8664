/- Texts in one: StClsL, StOnwP, StQueue, StRefIn, ORefSame. -/
import Derived.Test.YtmikfmcgddmplaaGreatDoorUnhexW
import Derived.Test.YtmikfmcgddmplaaGreatDoorWStep
import Derived.Test.YtmikfmcgddmplaaGreatDoorORefDec
import Derived.Test.YtmikfmcgddmplaaGreatDoorOLinks
import Derived.Test.YtmikfmcgddmplaaGreatDoorLists
import Derived.Test.YtmikfmcgddmplaaGreatDoorStSearch
import Derived.Test.YtmikfmcgddmplaaGreatDoorOMapB
import Derived.Test.YtmikfmcgddmplaaGreatDoorStOnP
import Derived.Test.YtmikfmcgddmplaaGreatDoorOApp
import Derived.Test.YtmikfmcgddmplaaGreatDoorDkCh4
import Derived.ArgAppend
import Derived.Test.YtmikfmcgddmplaaGreatDoorDkSpec
import Derived.Test.YtmikfmcgddmplaaGreatDoorOMem
import Derived.Test.YtmikfmcgddmplaaGreatDoorBw
/- ref.Closed at law.tells$1: its contract. -/
namespace Go.Proofs.YtmikfmcgddmplaaGreatDoor
open Go.RowKit

/-- texts stay where a map changes -/
theorem Txs.map {w w' : World} {B gh : Nat} {A : Option Addr} {T : List ByteArray} {l : List KV} (h : Txs w B A T) (hM : MapAt w gh l) (k : w.grownBy w' (some gh)) (hB : B ≤ w.heap.size) : Txs w' B A T := fun j x hx => by
  obtain ⟨ad, e, hb, hc⟩ := h j x hx
  refine ⟨ad, e, hb, (World.cell?_of_block (k.block _ (by omega) (fun e2 => ?_))).trans hc⟩
  have e3 : (ad.add j).block = gh := Option.some.inj e2
  unfold World.cell? at hc
  rw [e3, show w.heap[gh]? = _ from hM] at hc
  cases hc
theorem own_mapS {w : World} {base : Nat} {e : TypeId} {size g : Nat} {v : Value} {n : Nat} {xs : List Value} {l : List KV} (h : w.ownsRow base e size v n xs) (h' : MapAt w g l) : v.ownBlock ≠ some g := fun q => by
  rcases h.2 with ⟨rfl, _⟩ | ⟨k, cap, cur, rfl, _, hg, _⟩
  · cases q
  · cases q
    have := hg.symm.trans h'
    cases this
/-- what a level keeps: the ids of the level, the ids found, what is next -/
structure Lv (next : List ByteArray) (NA : Option Addr) (base gh : Nat) (w : World) (had more : List ByteArray) (m : Value) (W : World) : Prop where
  nx : Txs W base NA next
  set : MapAt W gh (hx had)
  own : W.ownsRow base 9 1 m more.length (more.map sv)
  lo : w.heap.size ≤ gh
  hi : gh < base
  size : base ≤ W.heap.size
  bel : Below w.heap.size w W
section
variable {next had more : List ByteArray} {NA : Option Addr} {base gh : Nat} {w W W' : World} {m : Value}
theorem Lv.below (h : Lv next NA base gh w had more m W) (b : Below W.heap.size W W') : Lv next NA base gh w had more m W' :=
  ⟨h.nx.below (b.mono h.size), h.set.below b h.set.lt, own_kp h.own (Kp.bel (X := fun _ => False) b) (fun _ _ x => x), h.lo, h.hi, Nat.le_trans h.size b.size, h.bel.trans (b.mono h.bel.size)⟩
theorem Lv.up (h : Lv next NA base gh w had more m W) {x : ByteArray} (hx' : memB x had = false) (hM : MapAt W' gh (upL x true (hx had))) (k : W.grownBy W' (some gh)) : Lv next NA base gh w (had ++ [x]) more m W' := by
  have hlo := h.lo
  rw [hx_up hx'] at hM
  exact ⟨h.nx.map h.set k h.size, hM, own_kp h.own (Kp.gb k) (fun g hg e => own_mapS h.own h.set (by rw [hg]; exact e.symm)), h.lo, h.hi, Nat.le_trans h.size k.size, h.bel.grown k h.bel.size (fun g hg => by cases hg; exact hlo)⟩
theorem Lv.app (h : Lv next NA base gh w had more m W) {m' : Value} {T : List ByteArray} (o : W'.ownsRow base 9 1 m' (more.length + T.length) (more.map sv ++ T.map sv)) (k : W.grownBy W' m.ownBlock) : Lv next NA base gh w had (more ++ T) m' W' := by
  have hlo := h.lo
  have hhi := h.hi
  have hb : Below base W W' := Below.grown (Below.refl _ _) k h.size (fun g hg => own_row_ge h.own g hg)
  refine ⟨h.nx.below hb, h.set.kept k (own_mapS h.own h.set).symm, ?_, h.lo, h.hi, Nat.le_trans h.size k.size, h.bel.trans (hb.mono (by omega))⟩
  rw [List.length_append, List.map_append]
  exact o
end
/-- where a level stands: k of its ids are looked at -/
def LvRel (G : ByteArray → ByteArray × Int) (next : List ByteArray) (NA : Option Addr) (R : List ByteArray × List ByteArray × Bool × Bool) (h0 base gh : Nat) (w : World) (i lv wv mv : Value) (wr : World) : Prop :=
  ∃ (k : Nat) (had more : List ByteArray) (la wo : Bool) (m0 : Value), i = .int .i64 (k : Int) ∧ lv = .bool la ∧ wv = .bool wo ∧ m0 = mv ∧ k ≤ next.length ∧ had.Nodup ∧ Lv next NA base gh w had more m0 wr ∧
    h0 ≤ had.length ∧ more.length + 64 * h0 ≤ 64 * had.length ∧ had.length ≤ h0 + k ∧ lvlO G (next.drop k) had more la wo = R
/-- where the document's Closed stands: n levels more at most -/
def ClRelS (G : ByteArray → ByteArray × Int) (ans : List ByteArray × Int) (gh : Nat) (w : World) (n : Nat) (nv lv wv mv : Value) (wr : World) : Prop :=
  ∃ (next had : List ByteArray) (la wo many : Bool) (A : Option Addr) (c : Nat), nv = .slice A next.length c ∧ lv = .bool la ∧ wv = .bool wo ∧ mv = .bool many ∧ Txs wr wr.heap.size A next ∧ had.Nodup ∧ MapAt wr gh (hx had) ∧ w.heap.size ≤ gh ∧ Below w.heap.size w wr ∧
    (many = true → ans = ([], 6)) ∧ (many = false → next.length ≤ 1048576 ∧ had.length ≤ 400 ∧ closedGo G n next had la wo = ans ∧ (next = [] → 1 ≤ n) ∧ (next ≠ [] → 402 ≤ n + had.length))
theorem run_lenS {w : World} {b : Nat} {l : List KV} (h : MapAt w b l) (ty : TypeId) : (Builtin.len_ #[62] ty #[.map (some b)]).run Tryz.prog w = .ok (.int .i64 (l.length : Int)) w := by
  simp [Builtin.len_, run_underlying Tryz.underlying62, MapKept.run_getObj_map h, goInt, Result.andThen, mkEs_len]
theorem Ens.map {w w' : World} {B gh : Nat} {A : Option Addr} {L : List Ent} {l : List KV} (h : Ens w B A L) (hM : MapAt w gh l) (k : w.grownBy w' (some gh)) (hB : B ≤ w.heap.size) : Ens w' B A L := fun j x hx => by
  obtain ⟨ad, e, hb, h0, h1, h2⟩ := h j x hx
  have hne : some gh ≠ some (ad.add (j * 3)).block := fun e2 => by
    have e3 : (ad.add (j * 3)).block = gh := (Option.some.inj e2).symm
    unfold World.cell? at h0
    rw [e3, show w.heap[gh]? = _ from hM] at h0
    cases h0
  have hk : w'.heap[(ad.add (j * 3)).block]? = w.heap[(ad.add (j * 3)).block]? := k.block _ (by omega) (fun e => hne e.symm)
  exact ⟨ad, e, hb, (World.cell?_of_block hk).trans h0, (World.cell?_of_block (a := ⟨(ad.add (j * 3)).block, (ad.add (j * 3)).off + 1, none⟩) hk).trans h1, (World.cell?_of_block (a := ⟨(ad.add (j * 3)).block, (ad.add (j * 3)).off + 2, none⟩) hk).trans h2⟩
theorem ObIn.map {w w' : World} {gh : Nat} {o : Ob} {p : At} {l : List KV} (h : ObIn w w.heap.size o p) (hM : MapAt w gh l) (k : w.grownBy w' (some gh)) : ObIn w' w'.heap.size o p :=
  ⟨(h.ents.map hM k (Nat.le_refl _)).mono k.size, (h.pars.map hM k (Nat.le_refl _)).mono k.size, h.room⟩
theorem arr_mapS {w w' : World} {g gh : Nat} {t : TypeId} {cs : Array Value} {l : List KV} (h : Arr w g t cs) (hM : MapAt w gh l) (k : w.grownBy w' (some gh)) : Arr w' g t cs := h.kept k (fun e => by
  have e2 := Option.some.inj e
  subst e2
  have := (show w.heap[g]? = _ from h).symm.trans hM
  cases this)
theorem memB_app {x : ByteArray} {H : List ByteArray} (h : memB x H = false) (hn : H.Nodup) : (H ++ [x]).Nodup := by
  rw [List.nodup_append]
  refine ⟨hn, by simp, fun a ha b hb e => ?_⟩
  rw [List.mem_singleton.1 hb] at e
  rw [e] at ha
  rw [memB_iff.2 ha] at h
  cases h
theorem own_one {W : World} {x : ByteArray} {B : Nat} (hB : B ≤ W.heap.size) : (W.alloc (.cells #[.string x] 9)).ownsRow B 9 1 (.slice (some ⟨W.heap.size, 0, none⟩) 1 1) 1 ([x].map sv) :=
  ⟨rfl, .inr ⟨W.heap.size, 1, #[.string x], rfl, hB, heap_alloc_new W _, Nat.le_refl _, by unfold maxLen; omega, rfl, rfl⟩⟩
theorem one_cell (wr : World) (x : ByteArray) : ∀ j u, ([x].map sv)[j]? = some u → (wr.alloc (.cells #[.string x] 9)).drew.cell? ((⟨wr.heap.size, 0, none⟩ : Addr).add j) = some u := fun j u h => by
  cases j with
  | zero =>
    rw [← Option.some.inj h]
    exact (Arr.new wr _ _).cell 0
  | succ j => simp at h
/-- append onto a slice that has no room: a row of its own -/
theorem run_app_grown (W : World) (base : Nat) (ty : TypeId) (A : Option Addr) (i : Nat) (T0 : List ByteArray) (hT : T0.length = i) (hA : News W A i (T0.map sv)) (ad2 : Addr) (m c2 : Nat) (N : List ByteArray) (hN : N.length = m)
    (hn : ∀ j u, (N.map sv)[j]? = some u → W.cell? (ad2.add j) = some u) (hm : 0 < m) (hl : i + m ≤ 1000) (hb : base ≤ W.heap.size) :
    ∃ v' w', (Builtin.append_ #[22, 22] ty #[.slice A i i, .slice (some ad2) m c2]).run Tryz.prog W = .ok v' w' ∧ w'.ownsRow base 9 1 v' (i + m) ((T0 ++ N).map sv) ∧ Below W.heap.size W w' := by
  obtain ⟨si, hsi, sz0, sz1, sz2⟩ := info_parts info_str
  have hlN : (N.map sv).length = m := by rw [List.length_map, hN]
  have hl0 : (T0.map sv).length = i := by rw [List.length_map, hT]
  have hb2 : ∀ o, Below W.heap.size W (W.drew.alloc o) := fun o => ((Below.refl _ W).drew).alloc (Nat.le_refl _) _
  cases A with
  | none =>
    obtain rfl := hA.1 rfl
    obtain rfl : T0 = [] := List.eq_nil_of_length_eq_zero hT
    have hr := run_append_nil (P := Tryz.prog) W 22 ty 9 si _ Tryz.underlying22 hsi sz0 ad2 m c2 (N.map sv) (by rw [sz1, hlN, Nat.mul_one]) hn hm (by omega) (by rw [sz2]; omega)
    have hge := grownCap_ge W m 0 9
    have hcm : grownCap W m 0 9 ≤ maxLen := grownCap_le_maxLen W m 0 9 (by unfold maxLen; omega)
    generalize grownCap W m 0 9 = cap at *
    refine ⟨_, _, hr, ?_, hb2 _⟩
    rw [Nat.zero_add, List.nil_append]
    refine ⟨by rw [hlN, Nat.mul_one], .inr ⟨W.heap.size, _, _, rfl, hb, heap_alloc_new W.drew _, hge, hcm, ?_, ?_⟩⟩
    · rw [Array.size_append, size_zeroCells]
      show (N.map sv).length + (cap - m) * 1 = cap * 1
      omega
    · rw [Array.toList_append, Nat.mul_one]
      exact List.take_left' hlN
  | some ad =>
    have hr := run_append_grow (P := Tryz.prog) W 22 ty 9 si _ Tryz.underlying22 hsi sz0 ad i i (T0.map sv) (by rw [sz1, hl0, Nat.mul_one]) (hA.2 ad rfl) ad2 m c2 (N.map sv) (by rw [sz1, hlN, Nat.mul_one]) hn (by omega) (by omega) (growslice_fits (by omega) (by rw [sz2]; omega))
    have hge := grownCap_ge W (i + m) i 9
    have hcm : grownCap W (i + m) i 9 ≤ maxLen := grownCap_le_maxLen W (i + m) i 9 (by unfold maxLen; omega)
    generalize grownCap W (i + m) i 9 = cap at *
    refine ⟨_, _, hr, ?_, hb2 _⟩
    have hll : ((T0 ++ N).map sv).length = i + m := by rw [List.length_map, List.length_append, hT, hN]
    refine ⟨by rw [hll, Nat.mul_one], .inr ⟨W.heap.size, _, _, rfl, hb, heap_alloc_new W.drew _, hge, hcm, ?_, ?_⟩⟩
    · rw [Array.size_append, Array.size_append, size_zeroCells]
      show (T0.map sv).length + (N.map sv).length + (cap - (i + m)) * 1 = cap * 1
      omega
    · rw [Array.toList_append, Array.toList_append, Nat.mul_one, List.map_append]
      exact List.take_left' (by rw [List.length_append, hl0, hlN])
theorem step_grown {W : World} {ops : Array Oper} {o : Oper} {a : Act} {K : Act → World → Prop} {Q : Exit → Act → World → Prop} {E : Prop} (hgd : o.guard = none) (s x : Operand)
    (ho : o.op = .call { callee := .builtin .append, args := #[s, x], argTypes := #[22, 22] })
    (base : Nat) (A : Option Addr) (i : Nat) (T0 : List ByteArray) (hs : a.eval s = .slice A i i) (hT : T0.length = i) (hA : News W A i (T0.map sv)) (ad2 : Addr) (m c2 : Nat) (N : List ByteArray) (hx : a.eval x = .slice (some ad2) m c2) (hN : N.length = m)
    (hn : ∀ j u, (N.map sv)[j]? = some u → W.cell? (ad2.add j) = some u) (hm : 0 < m) (hl : i + m ≤ 1000) (hb : base ≤ W.heap.size)
    (h : ∀ v' w', w'.ownsRow base 9 1 v' (i + m) ((T0 ++ N).map sv) → Below W.heap.size W w' → K (a.put o.dst v') w') :
    if Region.wanted o (yielded ops a.tmps) = true then Oper.wp Tryz.prog o a W K Q else E := by
  have hw : Region.wanted o (yielded ops a.tmps) = true := by simp [Region.wanted, hgd]
  rw [if_pos hw]
  obtain ⟨v', w', hr, h1, h2⟩ := run_app_grown W base o.type A i T0 hT hA ad2 m c2 N hN hn hm hl hb
  unfold Oper.wp execOp
  simp only [ho, resolve, invoke, builtin, Sem.run_bind, Sem.run_pure, Result.andThen_ok, List.map_toArray, List.map_cons, List.map_nil, hs, hx, hr]
  exact h v' w' h1 h2
theorem Txs.takeS {w : World} {B : Nat} {A : Option Addr} {T : List ByteArray} (h : Txs w B A T) (n : Nat) : Txs w B A (T.take n) := fun k x hx => by
  rw [List.getElem?_take] at hx
  split at hx
  · exact h k x hx
  · cases hx
theorem news_drop {W : World} {B : Nat} {ad : Addr} {T : List ByteArray} (h : Txs W B (some ad) T) (j : Nat) (_hj : j < T.length) : News W (some (ad.add j)) (T.length - j) ((T.drop j).map sv) := by
  refine ⟨fun e => (by cases e), fun a e k u hu => ?_⟩
  cases e
  rw [List.getElem?_map, List.getElem?_drop] at hu
  cases hx : T[j + k]? with
  | none => rw [hx] at hu; cases hu
  | some y =>
    rw [hx] at hu
    obtain ⟨a, e, _, hc⟩ := h (j + k) y hx
    cases e
    rw [← Option.some.inj hu]
    by_cases hk : k = 0
    · subst hk
      rw [show (ad.add j).add 0 = ad.add j from if_pos rfl]
      exact hc
    · rw [add_add ad j k hk] at hc
      rw [add_next _ k hk]
      exact hc
theorem ItrS.below {b r : Nat} {H S : List ByteArray} {W W' : World} (h : ItrS b r H S W) (k : Below W.heap.size W W') : ItrS b r H S W' := by
  obtain ⟨seen, h1, h2⟩ := h
  exact ⟨seen, (k.block r (Array.getElem?_eq_some_iff.1 h1).1).trans h1, h2⟩
/-- where the sorting by insertion stands: S: the ids shown, T: those sorted -/
def LsRel (had : List ByteArray) (gh r : Nat) (w : World) (gf : Nat) (v : Value) (wx : World) : Prop :=
  ∃ (S T : List ByteArray) (v0 : Value), v0 = v ∧ MapAt wx gh (hx had) ∧ ItrS gh r had S wx ∧ wx.ownsRow (r + 1) 9 1 v0 T.length (T.map sv) ∧ Rsn T ∧ (∀ z, z ∈ T ↔ z ∈ S) ∧ T.length = S.length ∧ S.Nodup ∧ S.length + gf = had.length ∧ w.heap.size ≤ gh ∧ gh < r ∧ Below w.heap.size w wx
/-- where the place of an id is sought -/
def LiRel (T : List ByteArray) (x : ByteArray) (W : World) (v : Value) (wx : World) : Prop := ∃ j : Nat, v = .int .i64 (j : Int) ∧ wx = W ∧ j ≤ T.length ∧ lessN x T = j + lessN x (T.drop j)
set_option maxRecDepth 100000 in
set_option maxHeartbeats 8000000 in
theorem Closed_te (M : List KT) (U : List ByteArray) (UA : Option Addr) (uc : Nat) (gm q : Nat) (w : World) (hq : Arr w q 58 #[.map (some gm)]) (hM : MapX w gm (tx M)) (hU : Txs w w.heap.size UA U) (hul : U.length ≤ 1048576) :
    Calls Tryz.prog 8 #[.func (.func 26) #[] #[.pointer (some ⟨q, 0, none⟩)], .slice UA U.length uc] w (RhEnd w (closedO (tellT M) U)) := by
  have hmm : ∀ W : World, (Instr.makeMap 62 none).run Tryz.prog W = .ok (.map (some W.heap.size)) (W.alloc (.map #[] 0)) := fun _ => rfl
  have CG : Hid (∀ W, Below w.heap.size w W → ∀ x, Calls Tryz.prog 26 #[.string x, .pointer (some ⟨q, 0, none⟩)] W fun e w' => e = .returned (.tuple #[.string (tellT M x).1, .int .i64 (tellT M x).2]) ∧ Below W.heap.size W w') := fun W b x =>
    getter_te M x gm q W (hq.below b hq.lt) (hM.below b hM.lt)
  obtain ⟨si, hsi, sz0, sz1, sz2⟩ := info_parts info_str
  have Hsi := Lib.hid hsi
  have Sz0 := Lib.hid sz0
  have Sz1 := Lib.hid sz1
  have Sz2 := Lib.hid sz2
  clear hsi sz0 sz1 sz2
  generalize tellT M = G at *
  have hgo : closedGo G 403 U [] false false = closedO G U := rfl
  generalize closedO G U = ans at *
  have b1 : Below w.heap.size w (w.alloc (.map #[] 0)) := (Below.refl _ _).alloc (Nat.le_refl _) _
  have h1 : Hid (ClRelS G ans w.heap.size w 403 (.slice UA U.length uc) (.bool false) (.bool false) (.bool false) (w.alloc (.map #[] 0))) :=
    ⟨U, [], false, false, false, UA, uc, rfl, rfl, rfl, rfl, (hU.below b1).mono b1.size, List.nodup_nil, MapAt.new w, Nat.le_refl _, b1, (fun e => by cases e), fun _ => ⟨by omega, by simp, hgo, (fun _ => by omega), fun _ => by simp⟩⟩
  clear hgo b1 hU hq hM
  go_enter Tryz.func8, Tryz.ntmps8
  go_wp2_with fail
  go_loopg [10, 7, 8, 9] 403 (fun n nv lv wv mv wr => ClRelS G ans w.heap.size w n nv lv wv mv wr)
  case atStart => exact h1.out
  case round =>
    clear h1 hmm
    obtain ⟨next, had, la, wo, many, NA, nc, rfl, rfl, rfl, rfl, hN, hnd, hM, hlo, hB, hyes, hno⟩ := hrel
    cases many
    case true =>
      have HA : Hid (ans = ([], 6)) := hyes rfl
      have HB := Lib.hid hB
      clear hyes hno hN hM
      by_cases hl : 0 < next.length
      · have hli : (0 : Int) < next.length := by omega
        go_wp2_with fail
        go_ret2
        exact ⟨none, 0, by rw [HA.out]; rfl, by rw [HA.out]; exact Txs.nil _ _ _, HB.out⟩
      · have hli : ¬ (0 : Int) < next.length := by omega
        go_wp2_with fail
        go_ret2
        exact ⟨none, 0, by rw [HA.out]; rfl, by rw [HA.out]; exact Txs.nil _ _ _, HB.out⟩
    case false =>
    obtain ⟨hnl, hh4, hgo, hn1, hn2⟩ := hno rfl
    clear hyes hno
    by_cases hl : 0 < next.length
    case neg =>
      have hnil : next = [] := List.eq_nil_of_length_eq_zero (by omega)
      obtain ⟨n', hn'⟩ : ∃ n', gk = n' + 1 := ⟨gk - 1, by have := hn1 hnil; omega⟩
      have hli : ¬ (0 : Int) < next.length := by omega
      rw [hn', hnil, closedGo, if_pos rfl] at hgo
      have HG := Lib.hid hgo
      have HB := Lib.hid hB
      clear hgo hn1 hn2 hN
      cases la
      case true =>
        have HA : Hid (ans = ([], 7)) := HG.out.symm
        clear HG hM
        go_wp2_with fail
        go_ret2
        exact ⟨none, 0, by rw [HA.out]; rfl, by rw [HA.out]; exact Txs.nil _ _ _, HB.out⟩
      case false =>
      cases wo
      case true =>
        have HA : Hid (ans = ([], 2)) := HG.out.symm
        clear HG hM
        go_wp2_with fail
        go_ret2
        exact ⟨none, 0, by rw [HA.out]; rfl, by rw [HA.out]; exact Txs.nil _ _ _, HB.out⟩
      case false =>
      have HA : Hid (ans = (sortB had, 0)) := HG.out.symm
      clear HG
      have hrg := run_range_map (P := Tryz.prog) wr 62 _ _ w.heap.size _ _ Tryz.underlying62 hM
      rw [hx_len] at hrg
      have hst : Hid (LsRel had w.heap.size wr.heap.size w had.length (.slice none 0 0) (wr.alloc (.mapIter (some w.heap.size) had.length #[] had.length))) := by
        have bb : Below wr.heap.size wr (wr.alloc (.mapIter (some w.heap.size) had.length #[] had.length)) := (Below.refl _ _).alloc (Nat.le_refl _) _
        exact ⟨[], [], _, rfl, hM.below bb hM.lt, ItrS.start, own_nil _ _ _ _, List.Pairwise.nil, (fun z => Iff.rfl), rfl, List.nodup_nil, by simp, hlo, hM.lt, HB.out.trans (bb.mono HB.out.size)⟩
      clear hM HB hn'
      go_wp2_with fail
      clear hrg
      generalize wr.heap.size = r at *
      go_loopg [17] had.length (fun gf v wx => LsRel had w.heap.size r w gf v wx)
      case atStart => exact hst.out
      case round =>
        clear hst
        obtain ⟨S, T, v, rfl, hM, hI, hO, hR, hST, hTS, hSn, hgf, hlo2, hhi, hB⟩ := hrel
        rcases itrS_next hnd hM hI (by omega) with ⟨hall, hnx⟩ | ⟨x, W', hxH, hxS, hnx, hent, hM', k', hI'⟩
        case inl =>
          have hsub : ∀ z ∈ S, z ∈ had := by
            obtain ⟨_, _, _, h, _⟩ := hI
            exact h
          have hT : T = sortB had := rsn_ext T (sortB had) hR (sortB_rsn hnd) (fun z => by rw [hST, sortB_mem]; exact ⟨hsub z, hall z⟩)
          obtain ⟨A, c, rfl, _, hTx, _⟩ := own_texts hO
          have HH : Hid (RhEnd w ans (.returned (.tuple #[.slice A T.length c, .int .i64 0])) wr) := by
            show RhEnd _ _ _ _
            rw [HA.out, ← hT]
            exact ⟨A, c, rfl, hTx, hB⟩
          clear hM hI hO hR hST hTS hB hall hT hTx
          go_wp2_with fail
          go_ret2
          exact HH.out
        case inr =>
          have hsub : ∀ z ∈ S ++ [x], z ∈ had := by
            obtain ⟨_, _, _, h, _⟩ := hI'
            exact h
          have hSn' : (S ++ [x]).Nodup := by
            obtain ⟨_, _, h, _⟩ := hI'
            exact h
          have hln := nodup_len (S ++ [x]) had hSn' hsub
          rw [List.length_append, List.length_singleton] at hln
          have hxT : x ∉ T := fun h => hxS ((hST x).1 h)
          have hO' : W'.ownsRow (r + 1) 9 1 v T.length (T.map sv) := own_kp hO (Kp.gb k') (fun g hg e => by have := own_row_ge hO g hg; have := Option.some.inj e; omega)
          have hB' : Below w.heap.size w W' := hB.grown k' hB.size (fun g hg => by cases hg; omega)
          have hr1 : r + 1 ≤ W'.heap.size := by
            obtain ⟨_, h, _⟩ := hI'
            exact (Array.getElem?_eq_some_iff.1 h).1
          have HM := Lib.hid hM'
          have HI := Lib.hid hI'
          have HO := Lib.hid hO'
          have HB' := Lib.hid hB'
          have hxS2 := Lib.hid (And.intro hxT (And.intro hSn' hsub))
          have hTl : T.length ≤ 400 := by omega
          have HTS := Lib.hid hTS
          have hgf2 : T.length + gk = had.length := by omega
          have hgf3 : 1 ≤ gk := by omega
          clear hTS
          obtain ⟨A, c, hv, hTc, hTx, hAb⟩ := own_texts hO'
          subst hv
          have HTx := Lib.hid hTx
          clear hM hI hO hB k' hM' hI' hO' hB' hxT hSn' hsub hTx
          go_wp2_with fail
          clear hnx hent
          go_loopw [19] (fun v wx => LiRel T x W' v wx) (fun v _ => T.length - (intOf v).toNat)
          case atStart => exact ⟨0, rfl, rfl, Nat.zero_le _, by rw [List.drop_zero, Nat.zero_add]⟩
          case round =>
            obtain ⟨j, rfl, rfl, hj, hls⟩ := hrel
            have hex : ((j < T.length ∧ ∃ y, T[j]? = some y ∧ ltB y x = false) ∨ ¬ j < T.length) ∧ lessN x T = j ∨ (∃ y, T[j]? = some y ∧ ltB y x = true ∧ lessN x T = (j + 1) + lessN x (T.drop (j + 1))) := by
              by_cases hlt : j < T.length
              · have hx := List.getElem?_eq_getElem hlt
                rw [List.drop_eq_getElem_cons hlt, lessN] at hls
                cases hq : ltB T[j] x
                · rw [hq, if_neg (by decide)] at hls
                  exact .inl ⟨.inl ⟨hlt, _, hx, hq⟩, by omega⟩
                · rw [hq, if_pos rfl] at hls
                  exact .inr ⟨_, hx, hq, by omega⟩
              · rw [List.drop_eq_nil_of_le (by omega), lessN] at hls
                exact .inl ⟨.inr hlt, by omega⟩
            clear hls
            rcases hex with ⟨hex, hls⟩ | ⟨y, hy, hyx, hls⟩
            case inr =>
              have hlt : j < T.length := (List.getElem?_eq_some_iff.1 hy).1
              have hji : (j : Int) < T.length := by omega
              obtain ⟨ad, rfl, _, g0⟩ := HTx.out j y hy
              have hb : Op.bytesLess y.toList x.toList = true := hyx
              have HLs := Lib.hid hls
              clear hy hyx hls
              go_wp2_with fail
              go_roundw
              case rel => exact ⟨j + 1, by rw [Int.natCast_add]; rfl, rfl, hlt, HLs.out⟩
              case measure => simp [intOf]; omega
            case inl =>
            have HLs := Lib.hid hls
            have hins : Hid (insB x T = T.take j ++ x :: T.drop j) := by
              show _ = _
              unfold insB
              rw [hls]
            have hj0 : (0 : Int) ≤ (j : Int) := by omega
            have hjl : (j : Int) ≤ (T.length : Int) := by omega
            have hjc : (j : Int) ≤ (c : Int) := by omega
            clear hls
            rcases hex with ⟨hlt, y, hy, hyx⟩ | hlt
            · have hji : (j : Int) < T.length := by omega
              have hcj : ¬ c = j := by omega
              obtain ⟨ad, rfl, _, g0⟩ := HTx.out j y hy
              have hb : Op.bytesLess y.toList x.toList = false := hyx
              clear hy hyx
              go_wp2_with fail
              have HN1 : Hid (News (wr.alloc (.cells #[.string x] 9)).drew (some (ad.add j)) (T.length - j) ((T.drop j).map sv)) := (news_drop (HTx.out.below (((Below.refl _ wr).alloc (Nat.le_refl _) _).drew)) j hlt)
              have hr3 : r + 1 ≤ (wr.alloc (.cells #[.string x] 9)).drew.heap.size := by rw [World.size_drew, World.size_alloc]; omega
              go_region_law (first
                | (refine step_app _ rfl _ _ 22 rfl (r + 1) 9 si _ 1 16 Tryz.underlying22 Hsi.out Sz0.out Sz1.out Sz2.out rfl (by decide) (.slice (some ⟨wr.heap.size, 0, none⟩) 1 1) 1 ([x].map sv) rfl (by exact own_one hr1) (some (ad.add j)) (T.length - j) (c - j) ((T.drop j).map sv) rfl (by rw [List.length_map, List.length_drop, Nat.mul_one]) (by exact HN1.out) (sv_one _) (by unfold maxLen; omega) (by omega) (by exact hr3) ?_
                   intro v1 w1 o1 g1
                   have o2 : w1.ownsRow (r + 1) 9 1 v1 (x :: T.drop j).length ((x :: T.drop j).map sv) := by
                     rw [List.length_cons, List.length_drop, Nat.add_comm (T.length - j) 1]
                     exact o1
                   obtain ⟨A1, c1, e1, _, hT1, _⟩ := own_texts o2
                   rw [List.length_cons, List.length_drop] at e1
                   have b1 : Below wr.heap.size wr w1 := (((Below.refl _ wr).alloc (Nat.le_refl _) _).drew).grown g1 (by rw [World.size_drew, World.size_alloc]; omega) (fun g hg => by cases hg; exact Nat.le_refl _)
                   obtain ⟨ad1, eA, _⟩ := hT1 0 x rfl
                   subst e1 eA
                   have HN2 : Hid (News w1 (some ad) j ((T.take j).map sv)) := by
                     have h := ((HTx.out.below b1).takeS j).news
                     rw [List.length_take, Nat.min_eq_left (by omega)] at h
                     exact h
                   have HN3 := Lib.hid (hT1.news.2 ad1 rfl)
                   have hr4 : r + 1 ≤ w1.heap.size := Nat.le_trans hr1 b1.size)
                | (refine step_grown rfl _ _ rfl (r + 1) (some ad) j (T.take j) rfl (by rw [List.length_take]; omega) HN2.out ad1 (T.length - j + 1) c1 (x :: T.drop j) rfl (by rw [List.length_cons, List.length_drop]) HN3.out (by omega) (by omega) hr4 ?_
                   intro v2 w2 o3 b2
                   have o4 : w2.ownsRow (r + 1) 9 1 v2 (insB x T).length ((insB x T).map sv) := by
                     rw [insB_len, hins.out, show T.length + 1 = j + (T.length - j + 1) from by omega]
                     exact o3
                   have HB2 := Lib.hid (b1.trans (b2.mono b1.size))
                   have HO4 := Lib.hid o4))
              go_wp2_with fail
              go_roundg (gk - 1)
              case measure => omega
              case rel => exact ⟨S ++ [x], insB x T, _, rfl, HM.out.below HB2.out HM.out.lt, HI.out.below HB2.out, HO4.out, insB_rsn hR hxS2.out.1, fun z => by rw [insB_mem, List.mem_append, List.mem_singleton, hST]; exact Or.comm, by rw [insB_len, List.length_append, List.length_singleton, HTS.out], hxS2.out.2.1, by rw [List.length_append, List.length_singleton]; omega, hlo2, hhi, HB'.out.trans (HB2.out.mono HB'.out.size)⟩
            · have hji : ¬ (j : Int) < T.length := by omega
              have hjT : j = T.length := by omega
              cases A with
              | none =>
                have hT0 : T.length = 0 := by
                  rcases HO.out.2 with ⟨_, h⟩ | ⟨g, _, _, h, _⟩
                  · exact h
                  · cases h
                have hc0 : c = 0 := by
                  rcases HO.out.2 with ⟨h, _⟩ | ⟨g, _, _, h, _⟩
                  · exact (Value.slice.inj h).2.2
                  · cases h
                have hT1 : Hid (T = []) := List.eq_nil_of_length_eq_zero hT0
                subst hjT
                rw [hc0, hT0]
                clear hj0 hjl hjc hj hji hc0 hTc
                go_wp2_with fail
                have b1 : Below wr.heap.size wr (wr.alloc (.cells #[.string x] 9)).drew := ((Below.refl _ wr).alloc (Nat.le_refl _) _).drew
                have HN2 : Hid (News (wr.alloc (.cells #[.string x] 9)).drew none 0 (([] : List ByteArray).map sv)) := ⟨fun _ => rfl, fun a e k u hu => by cases hu⟩
                have HN3 : Hid (∀ j u, ([x].map sv)[j]? = some u → (wr.alloc (.cells #[.string x] 9)).drew.cell? ((⟨wr.heap.size, 0, none⟩ : Addr).add j) = some u) := one_cell wr x
                have hr4 : r + 1 ≤ (wr.alloc (.cells #[.string x] 9)).drew.heap.size := Nat.le_trans hr1 b1.size
                go_region_law (first
                  | (refine step_grown rfl _ _ rfl (r + 1) none 0 ([] : List ByteArray) rfl rfl HN2.out ⟨wr.heap.size, 0, none⟩ 1 1 [x] rfl rfl HN3.out (by omega) (by omega) hr4 ?_
                     intro v2 w2 o3 b2
                     have o4 : w2.ownsRow (r + 1) 9 1 v2 (insB x T).length ((insB x T).map sv) := by
                       rw [insB_len, hins.out, hT1.out]
                       exact o3
                     have HB2 := Lib.hid (b1.trans (b2.mono b1.size))
                     have HO4 := Lib.hid o4))
                go_wp2_with fail
                go_roundg (gk - 1)
                case measure => omega
                case rel => exact ⟨S ++ [x], insB x T, _, rfl, HM.out.below HB2.out HM.out.lt, HI.out.below HB2.out, HO4.out, insB_rsn hR hxS2.out.1, fun z => by rw [insB_mem, List.mem_append, List.mem_singleton, hST]; exact Or.comm, by rw [insB_len, List.length_append, List.length_singleton, HTS.out], hxS2.out.2.1, by rw [List.length_append, List.length_singleton]; omega, hlo2, hhi, HB'.out.trans (HB2.out.mono HB'.out.size)⟩
              | some ad =>
                by_cases hcj : c = j
                · subst hjT
                  go_wp2_with fail
                  have b1 : Below wr.heap.size wr (wr.alloc (.cells #[.string x] 9)).drew := ((Below.refl _ wr).alloc (Nat.le_refl _) _).drew
                  have HN2 : Hid (News (wr.alloc (.cells #[.string x] 9)).drew (some ad) T.length (T.map sv)) := (HTx.out.below b1).news
                  have HN3 : Hid (∀ j u, ([x].map sv)[j]? = some u → (wr.alloc (.cells #[.string x] 9)).drew.cell? ((⟨wr.heap.size, 0, none⟩ : Addr).add j) = some u) := one_cell wr x
                  have hr4 : r + 1 ≤ (wr.alloc (.cells #[.string x] 9)).drew.heap.size := Nat.le_trans hr1 b1.size
                  go_region_law (first
                    | (refine step_grown rfl _ _ rfl (r + 1) (some ad) T.length T rfl rfl HN2.out ⟨wr.heap.size, 0, none⟩ 1 1 [x] rfl rfl HN3.out (by omega) (by omega) hr4 ?_
                       intro v2 w2 o3 b2
                       have o4 : w2.ownsRow (r + 1) 9 1 v2 (insB x T).length ((insB x T).map sv) := by
                         rw [insB_len, hins.out, List.take_length, List.drop_length]
                         exact o3
                       have HB2 := Lib.hid (b1.trans (b2.mono b1.size))
                       have HO4 := Lib.hid o4))
                  go_wp2_with fail
                  go_roundg (gk - 1)
                  case measure => omega
                  case rel => exact ⟨S ++ [x], insB x T, _, rfl, HM.out.below HB2.out HM.out.lt, HI.out.below HB2.out, HO4.out, insB_rsn hR hxS2.out.1, fun z => by rw [insB_mem, List.mem_append, List.mem_singleton, hST]; exact Or.comm, by rw [insB_len, List.length_append, List.length_singleton, HTS.out], hxS2.out.2.1, by rw [List.length_append, List.length_singleton]; omega, hlo2, hhi, HB'.out.trans (HB2.out.mono HB'.out.size)⟩
                · subst hjT
                  go_wp2_with fail
                  have b1 : Below wr.heap.size wr (wr.alloc (.cells #[.string x] 9)).drew := ((Below.refl _ wr).alloc (Nat.le_refl _) _).drew
                  have HN2 : Hid (News (wr.alloc (.cells #[.string x] 9)).drew (some ad) T.length (T.map sv)) := (HTx.out.below b1).news
                  have HN3 : Hid (∀ j u, ([x].map sv)[j]? = some u → (wr.alloc (.cells #[.string x] 9)).drew.cell? ((⟨wr.heap.size, 0, none⟩ : Addr).add j) = some u) := one_cell wr x
                  have hr4 : r + 1 ≤ (wr.alloc (.cells #[.string x] 9)).drew.heap.size := Nat.le_trans hr1 b1.size
                  go_region_law (first
                    | (refine step_grown rfl _ _ rfl (r + 1) (some ad) T.length T rfl rfl HN2.out ⟨wr.heap.size, 0, none⟩ 1 1 [x] rfl rfl HN3.out (by omega) (by omega) hr4 ?_
                       intro v2 w2 o3 b2
                       have o4 : w2.ownsRow (r + 1) 9 1 v2 (insB x T).length ((insB x T).map sv) := by
                         rw [insB_len, hins.out, List.take_length, List.drop_length]
                         exact o3
                       have HB2 := Lib.hid (b1.trans (b2.mono b1.size))
                       have HO4 := Lib.hid o4))
                  go_wp2_with fail
                  go_roundg (gk - 1)
                  case measure => omega
                  case rel => exact ⟨S ++ [x], insB x T, _, rfl, HM.out.below HB2.out HM.out.lt, HI.out.below HB2.out, HO4.out, insB_rsn hR hxS2.out.1, fun z => by rw [insB_mem, List.mem_append, List.mem_singleton, hST]; exact Or.comm, by rw [insB_len, List.length_append, List.length_singleton, HTS.out], hxS2.out.2.1, by rw [List.length_append, List.length_singleton]; omega, hlo2, hhi, HB'.out.trans (HB2.out.mono HB'.out.size)⟩
    case pos =>
    have hli : (0 : Int) < next.length := by omega
    have hne : next ≠ [] := fun e => by rw [e] at hl; exact absurd hl (by decide)
    have hn3 := hn2 hne
    obtain ⟨n', hn'⟩ : ∃ n', gk = n' + 1 := ⟨gk - 1, by omega⟩
    rw [hn', closedGo, if_neg hne] at hgo
    obtain ⟨R, hR⟩ : ∃ R, lvlO G next had [] la wo = R := ⟨_, rfl⟩
    rw [hR] at hgo
    have HG := Lib.hid hgo
    have h0 : Hid (LvRel G next NA R had.length wr.heap.size w.heap.size w (.int .i64 0) (.bool la) (.bool wo) (.slice none 0 0) wr) :=
      ⟨0, had, [], la, wo, _, rfl, rfl, rfl, rfl, Nat.zero_le _, hnd, ⟨hN, hM, own_nil _ _ _ _, hlo, hM.lt, Nat.le_refl _, hB⟩, Nat.le_refl _, by simp, by omega, by rw [List.drop_zero]; exact hR⟩
    clear hgo hn1 hn2 hN hM hB hR hlo hnd
    go_wp2_with fail
    generalize wr.heap.size = base at *
    go_loopw [31, 7, 8, 11] (fun i lv wv mv wx => LvRel G next NA R had.length base w.heap.size w i lv wv mv wx) (fun i _ _ _ _ => next.length - (intOf i).toNat)
    case atStart => exact h0.out
    case round =>
      clear h0
      obtain ⟨k, had1, more, la, wo, mv, rfl, rfl, rfl, rfl, hk, hnd, hX, hm1, hm2, hm3, he⟩ := hrel
      by_cases hlt : k < next.length
      · have hki : (k : Int) < next.length := by omega
        have hx := List.getElem?_eq_getElem hlt
        obtain ⟨ad, rfl, hb, g0⟩ := hX.nx k next[k] hx
        have hdr : next.drop k = next[k] :: next.drop (k + 1) := List.drop_eq_getElem_cons hlt
        rw [hdr, lvlO] at he
        clear hdr hx
        generalize next[k] = x at *
        have hlk := run_look hX.set x
        rw [hx_get] at hlk
        cases hm : memB x had1
        case true =>
          rw [hm] at hlk
          rw [hm, if_pos rfl] at he
          clear hm
          go_wp2_with fail
          go_roundw
          case rel => exact ⟨k + 1, had1, more, la, wo, _, by rw [Int.natCast_add]; rfl, rfl, rfl, rfl, hlt, hnd, hX, hm1, hm2, by omega, he⟩
          case measure => simp [intOf]; omega
        case false =>
        rw [hm] at hlk
        rw [hm, if_neg (by decide)] at he
        have C := Lib.hid (CG.out wr hX.bel x)
        have HX := Lib.hid hX
        have HEq := Lib.hid he
        have HNd := Lib.hid (memB_app hm hnd)
        have HMm := Lib.hid hm
        clear hX he hm
        generalize G x = gx at C HEq
        obtain ⟨s, e⟩ := gx
        simp only at C
        go_wp2_with fail
        (with_reducible refine C.out.mono ?_)
        clear C hlk g0
        rintro _ w2 ⟨rfl, b2⟩
        have HX2 := Lib.hid (HX.out.below b2)
        clear HX b2
        by_cases hez : e = 0
        case neg =>
          have heb : (e != 0) = true := by rw [bne_iff_ne]; exact hez
          have h7 : (loadR (s, e)).2 = 7 := by unfold loadR; rw [if_pos hez]
          rw [if_pos h7] at HEq
          clear h7 HNd HMm
          go_wp2_with fail
          go_roundw
          case rel => exact ⟨k + 1, had1, more, true, wo, _, by rw [Int.natCast_add]; rfl, rfl, rfl, rfl, hlt, hnd, HX2.out, hm1, hm2, by omega, HEq.out⟩
          case measure => simp [intOf]; omega
        case pos =>
        subst hez
        have CD := Lib.hid (RefDecode_any s w2)
        have hld : loadR (s, (0 : Int)) = if (decO s.data.toList).2 ≠ 0 then (Ob.none, 2) else ((decO s.data.toList).1, 0) := by
          unfold loadR
          rw [if_neg (by simp)]
        have hfc : (decO s.data.toList).2 = 0 → (decO s.data.toList).1.ents.length ≤ 64 ∧ (decO s.data.toList).1.pars.length ≤ 4 := fun h => ⟨(good_facts (dec_only h).2.1).ents, (good_facts (dec_only h).2.1).pars⟩
        rw [hld] at HEq
        have HFc := Lib.hid hfc
        clear hld hfc
        generalize decO s.data.toList = D at *
        obtain ⟨o, e2⟩ := D
        simp only at CD HEq HFc
        unfold DEnd at CD
        go_wp2_with fail
        (with_reducible refine CD.out.mono ?_)
        clear CD
        rintro _ w3 ⟨p, hx3, oin, b3⟩
        unfold obArr at hx3
        subst hx3
        have hX3 := HX2.out.below b3
        have NB : Below w3.heap.size w3 (w3.alloc (.cells (obArr o p) 53)) := (Below.refl _ _).alloc (Nat.le_refl _) _
        have A3 : Arr (w3.alloc (.cells (obArr o p) 53)) w3.heap.size 53 (obArr o p) := Arr.new _ _ _
        have hst : Hid (Lv next (some ad) base w.heap.size w had1 more mv (w3.alloc (.cells (obArr o p) 53)) ∧ Arr (w3.alloc (.cells (obArr o p) 53)) w3.heap.size 53 (obArr o p) ∧ ObIn (w3.alloc (.cells (obArr o p) 53)) (w3.alloc (.cells (obArr o p) 53)).heap.size o p) :=
          ⟨hX3.below NB, A3, (oin.below NB).mono NB.size⟩
        clear hX3 NB A3 oin b3 HX2
        go_upto_region 14 with fail
        refine wp_forget (fun V => Lv next (some ad) base w.heap.size w had1 more mv V ∧ Arr V w3.heap.size 53 (obArr o p) ∧ ObIn V V.heap.size o p) (by exact hst.out) ?_
        clear hst
        generalize w3.heap.size = q5
        rintro V ⟨hX, AO, hO⟩
        by_cases hd : e2 = 0
        case neg =>
          have heb : (e2 != 0) = true := by rw [bne_iff_ne]; exact hd
          have HEq2 : Hid (lvlO G (next.drop (k + 1)) had1 more la true = R) := by
            have h := HEq.out
            rw [if_pos hd, if_neg (by simp), if_pos rfl] at h
            exact h
          have HX := Lib.hid hX
          clear HEq HNd HMm HFc AO hO hX
          go_wp2_with fail
          go_roundw
          case rel => exact ⟨k + 1, had1, more, la, true, _, by rw [Int.natCast_add]; rfl, rfl, rfl, rfl, hlt, hnd, HX.out, hm1, hm2, by omega, HEq2.out⟩
          case measure => simp [intOf]; omega
        case pos =>
        subst hd
        have HEq2 : Hid (lvlO G (next.drop (k + 1)) (had1 ++ [x]) (more ++ linksL o) la wo = R) := by
          have h := HEq.out
          rw [if_neg (by simp), if_neg (by simp), if_neg (by simp)] at h
          exact h
        obtain ⟨hents, hpars⟩ := HFc.out rfl
        have hll : (linksL o).length ≤ 64 := linksL_len hents hpars
        have HM1 := Lib.hid hX.set
        clear HEq HFc hnd
        go_upto_region 17 with (refine wpList_up rfl _ _ _ (.inl rfl) w.heap.size _ HM1.out rfl x true rfl rfl ?_; intro W' hM' k')
        have hX2 := hX.up HMm.out hM' k'
        have AO2 := arr_mapS AO hX.set k'
        have hO2 := hO.map hX.set k'
        clear hX AO hO hM' k' HM1 HMm
        have CL := Lib.hid (RefLinks_far o p W' hO2 (by omega) (by omega))
        go_wp2_with (refine wpList_load_row rfl 53 _ rfl q5 rfl 53 _ (0, 0) _ AO2 Tryz.underlying53 rfl (obInfo _ _) ?_)
        (with_reducible refine CL.out.mono ?_)
        clear CL AO2 hO2
        rintro _ V2 ⟨LA, lc, rfl, hL, b4, _⟩
        have HX3 := Lib.hid (hX2.below b4)
        have HN := Lib.hid hL.news
        clear hX2 b4 hL
        generalize linksL o = T at *
        go_wp2_with (at_builtin; refine wpList_app _ rfl _ _ 22 rfl base 9 si _ 1 16 Tryz.underlying22 Hsi.out Sz0.out Sz1.out Sz2.out rfl (by decide) mv more.length (more.map sv) rfl HX3.out.own LA T.length lc (T.map sv) rfl (by rw [List.length_map, Nat.mul_one]) HN.out (sv_one _) (by unfold maxLen; omega) (by omega) HX3.out.size ?_)
        intro v' w' o1 k1
        have HX4 := Lib.hid (HX3.out.app o1 k1)
        clear HX3 HN o1 k1
        go_wp2_with fail
        go_roundw
        case rel => exact ⟨k + 1, had1 ++ [x], more ++ T, la, wo, _, by rw [Int.natCast_add]; rfl, rfl, rfl, rfl, hlt, HNd.out, HX4.out, by rw [List.length_append]; omega, by rw [List.length_append, List.length_append, List.length_singleton]; omega, by rw [List.length_append, List.length_singleton]; omega, HEq2.out⟩
        case measure => simp [intOf]; omega
      · obtain rfl : k = next.length := by omega
        have hki : ¬ (next.length : Int) < next.length := by omega
        rw [List.drop_length, lvlO] at he
        subst he
        have hG := HG.out
        simp only at hG
        have hlen := run_lenS hX.set 3
        rw [hx_len] at hlen
        obtain ⟨MA, mc, rfl, _, hT, _⟩ := own_texts hX.own
        by_cases hf : 400 < had1.length
        · rw [if_pos hf] at hG
          have hfi : (400 : Int) < had1.length := by omega
          have hC : Hid (ClRelS G ans w.heap.size w n' (.slice MA more.length mc) (.bool la) (.bool wo) (.bool true) wr) :=
            ⟨more, had1, la, wo, true, MA, mc, rfl, rfl, rfl, rfl, hT, hnd, hX.set, hX.lo, hX.bel, fun _ => hG.symm, fun e => by cases e⟩
          clear hX hT hG HG
          go_wp2_with fail
          go_roundg n'
          case measure => omega
          case rel => exact hC.out
        · rw [if_neg hf] at hG
          have hfi : ¬ (400 : Int) < had1.length := by omega
          have hC : Hid (ClRelS G ans w.heap.size w n' (.slice MA more.length mc) (.bool la) (.bool wo) (.bool false) wr) :=
            ⟨more, had1, la, wo, false, MA, mc, rfl, rfl, rfl, rfl, hT, hnd, hX.set, hX.lo, hX.bel, (fun e => by cases e), fun _ => ⟨by omega, by omega, hG, fun _ => by omega, fun hne2 => by
              have : 0 < more.length := List.length_pos_iff.2 hne2
              omega⟩⟩
          clear hX hT hG HG
          go_wp2_with fail
          go_roundg n'
          case measure => omega
          case rel => exact hC.out
end Go.Proofs.YtmikfmcgddmplaaGreatDoor

/- The document's own Onward answers what Descends answers: plain. -/
namespace Go.Proofs.YtmikfmcgddmplaaGreatDoor
open Go.RowKit

/-- the document's Onward: what is to be looked at, what was looked at -/
def onwGo (G : ByteArray → ByteArray × Int) (to : ByteArray) : Nat → List ByteArray → List ByteArray → Bool
  | 0, _, _ => false
  | _ + 1, [], _ => false
  | n + 1, x :: work, had => if 400 ≤ had.length then false else if x = to then true else if memB x had = true then onwGo G to n work had else onwGo G to n (work ++ (loadR (G x)).1.pars) (had ++ [x])
theorem addAll_two : ∀ (U V T : List ByteArray), addAll (addAll T U) V = addAll T (U ++ V)
  | [], _, _ => rfl
  | x :: U, V, T => addAll_two U V (if memB x T = true then T else T ++ [x])
theorem onw_desc {G : ByteArray → ByteArray × Int} {to : ByteArray} : ∀ (n : Nat) (work had : List ByteArray), had.length ≤ 400 → to ∉ had → work.length + 5 * (400 - had.length) + 1 ≤ n →
    onwGo G to n work had = descGo G to (401 - had.length) (addAll had work) had.length
  | 0, work, had, _, _, hn => by omega
  | n + 1, [], had, hl, _, _ => by
    obtain ⟨m, hm⟩ : ∃ m, 401 - had.length = m + 1 := ⟨400 - had.length, by omega⟩
    rw [hm, onwGo, descGo]
    show false = if had.length < min (addAll had []).length 400 then _ else false
    rw [if_neg (by show ¬ had.length < min had.length 400; omega)]
  | n + 1, x :: work, had, hl, ht, hn => by
    obtain ⟨m, hm⟩ : ∃ m, 401 - had.length = m + 1 := ⟨400 - had.length, by omega⟩
    rw [List.length_cons] at hn
    rw [onwGo]
    by_cases hf : 400 ≤ had.length
    · rw [if_pos hf, hm, descGo, if_neg (by omega)]
    · rw [if_neg hf]
      have hstep : addAll had (x :: work) = addAll (if memB x had = true then had else had ++ [x]) work := rfl
      by_cases hx : memB x had = true
      · have hne : x ≠ to := fun e => ht (by rw [← e]; exact memB_iff.1 hx)
        rw [if_neg hne, if_pos hx, onw_desc n work had hl ht (by omega), hstep, if_pos hx]
      · rw [if_neg hx] at hstep
        obtain ⟨W, hW⟩ := addAll_pre work (had ++ [x])
        have hV : addAll had (x :: work) = had ++ [x] ++ W := by rw [hstep, hW]
        have hget : (addAll had (x :: work)).getD had.length ⟨#[]⟩ = x := by
          rw [hV, List.getD_eq_getElem?_getD, List.append_assoc, List.getElem?_append_right (Nat.le_refl _)]
          simp
        have hlen : had.length < (addAll had (x :: work)).length := by rw [hV]; simp
        have hcond : had.length < min (addAll had (x :: work)).length 400 := by omega
        rw [hm, descGo, if_pos hcond, hget]
        by_cases hto : x = to
        · rw [if_pos hto, if_pos hto]
        · rw [if_neg hto, if_neg hto, if_neg hx]
          have hp := loadR_pars (G x)
          have ih := onw_desc (G := G) (to := to) n (work ++ (loadR (G x)).1.pars) (had ++ [x]) (by rw [List.length_append, List.length_singleton]; omega)
            (fun q => by
              rcases List.mem_append.1 q with q | q
              · exact ht q
              · exact hto (List.mem_singleton.1 q).symm) (by rw [List.length_append, List.length_append, List.length_singleton]; omega)
          rw [ih, List.length_append, List.length_singleton, hstep, addAll_two, show 401 - (had.length + 1) = m from by omega]
theorem onward_desc (G : ByteArray → ByteArray × Int) (id to : ByteArray) (n : Nat) (hn : 2002 ≤ n) : onwGo G to n [id] [] = desc G id to :=
  onw_desc n [id] [] (by simp) (by simp) (by simp; omega)
end Go.Proofs.YtmikfmcgddmplaaGreatDoor

/- A queue of texts: a slice that has moved on in a block of one's own; its first taken, more put behind it: laws for the walk. -/
namespace Go.Proofs.YtmikfmcgddmplaaGreatDoor
open Go.RowKit

/-- the queue: its cells lie at an offset in a block of one's own -/
def QRow (w : World) (base : Nat) (v : Value) (T : List ByteArray) : Prop :=
  ∃ (g off cap : Nat) (C : List Value), v = .slice (some ⟨g, off, none⟩) T.length cap ∧ base ≤ g ∧ Arr w g 9 C.toArray ∧ T.length ≤ cap ∧ off + cap ≤ C.length ∧ cap ≤ maxLen ∧ ∀ (k : Nat) (x : ByteArray), T[k]? = some x → C[off + k]? = some (.string x)
section
variable {w w' : World} {base : Nat} {v : Value} {T : List ByteArray}
theorem QRow.below (h : QRow w base v T) (b : Below w.heap.size w w') : QRow w' base v T := by
  obtain ⟨g, off, cap, C, rfl, h1, h2, h3⟩ := h
  exact ⟨g, off, cap, C, rfl, h1, h2.below b h2.lt, h3⟩
theorem QRow.kept (h : QRow w base v T) {q : Option Nat} (k : w.grownBy w' q) (hq : v.ownBlock ≠ q) : QRow w' base v T := by
  obtain ⟨g, off, cap, C, rfl, h1, h2, h3⟩ := h
  exact ⟨g, off, cap, C, rfl, h1, (k.block g h2.lt (fun e => hq (by rw [← e]; rfl))).trans h2, h3⟩
theorem QRow.one (w : World) (x : ByteArray) : QRow (w.alloc (.cells #[.string x] 9)) w.heap.size (.slice (some ⟨w.heap.size, 0, none⟩) 1 1) [x] :=
  ⟨w.heap.size, 0, 1, [.string x], rfl, Nat.le_refl _, Arr.new w _ _, Nat.le_refl _, by simp, by decide, fun k y hy => by
    cases k with
    | zero =>
      have e : x = y := by simpa using hy
      rw [e]; rfl
    | succ k => simp at hy⟩
/-- the first of a queue, and what is behind it -/
theorem QRow.first {x : ByteArray} (h : QRow w base v (x :: T)) : ∃ (ad : Addr) (cap : Nat), v = .slice (some ad) (T.length + 1) cap ∧ w.cell? ad = some (.string x) ∧ T.length + 1 ≤ cap ∧ ad.block < w.heap.size ∧ base ≤ ad.block ∧
    QRow w base (.slice (if cap = 1 then some ad else some (ad.add 1)) T.length (cap - 1)) T := by
  obtain ⟨g, off, cap, C, rfl, h1, h2, h3, h4, h5, h6⟩ := h
  rw [List.length_cons] at h3
  refine ⟨⟨g, off, none⟩, cap, by rw [List.length_cons], ?_, h3, h2.lt, h1, ?_⟩
  · rw [h2.cell off, List.getElem?_toArray]
    exact h6 0 x rfl
  · by_cases hc : cap = 1
    · rw [if_pos hc]
      exact ⟨g, off, cap - 1, C, rfl, h1, h2, by omega, by omega, by omega, fun k y hy => by
        have := (List.getElem?_eq_some_iff.1 hy).1
        omega⟩
    · rw [if_neg hc]
      refine ⟨g, off + 1, cap - 1, C, by simp [Addr.add], h1, h2, by omega, by omega, by omega, fun k y hy => ?_⟩
      rw [show off + 1 + k = off + (k + 1) from by omega]
      exact h6 (k + 1) y (by simpa using hy)
theorem QRow.form (h : QRow w base v T) : ∃ A c, v = .slice A T.length c ∧ T.length ≤ c := by
  obtain ⟨g, off, cap, C, rfl, _, _, h3, _⟩ := h
  exact ⟨_, _, rfl, h3⟩
theorem QRow.block (h : QRow w base v T) : ∀ q, v.ownBlock = some q → base ≤ q ∧ q < w.heap.size := by
  obtain ⟨g, off, cap, C, rfl, h1, h2, _⟩ := h
  intro q hq
  have e : g = q := Option.some.inj hq
  subst e
  exact ⟨h1, h2.lt⟩
end
/-- more put behind a queue -/
theorem run_app_q (W : World) (base : Nat) (ty : TypeId) (v : Value) (T U : List ByteArray) (h : QRow W base v T) (A : Option Addr) (c : Nat) (hU : News W A U.length (U.map sv)) (hl : T.length + U.length ≤ 1000000) (hb : base ≤ W.heap.size) :
    ∃ v' w', (Builtin.append_ #[22, 22] ty #[v, .slice A U.length c]).run Tryz.prog W = .ok v' w' ∧ QRow w' base v' (T ++ U) ∧ W.grownBy w' v.ownBlock ∧ (v'.ownBlock = v.ownBlock ∨ v'.ownBlock = some W.heap.size) := by
  obtain ⟨si, hsi, sz0, sz1, sz2⟩ := info_parts info_str
  obtain ⟨g, off, cap, C, rfl, h1, h2, h3, h4, h5, h6⟩ := h
  have hUl : (U.map sv).length = U.length := List.length_map _
  cases A with
  | none =>
    have hz := hU.1 rfl
    have hU0 : U = [] := List.eq_nil_of_length_eq_zero hz
    subst hU0
    refine ⟨_, W, ?_, ⟨g, off, cap, C, by rw [List.append_nil], h1, h2, by rw [List.append_nil]; exact h3, h4, h5, by rw [List.append_nil]; exact h6⟩, World.grownBy.refl _ _, .inl rfl⟩
    simp [Builtin.append_, run_underlying Tryz.underlying22, sizeOf, typeInfo, hsi, Builtin.lenOf, Builtin.firstCells, h3, storeCells]
  | some ad =>
    have hn := hU.2 ad rfl
    by_cases hroom : T.length + U.length ≤ cap
    · have hin : ∀ j, j < (U.map sv).length → off + T.length * 1 + j < C.length := fun j hj => by rw [hUl] at hj; omega
      have hr := run_append_room_cells (P := Tryz.prog) W 22 ty 9 si Tryz.underlying22 hsi g off T.length cap ad U.length c (U.map sv) (by rw [hUl, sz1, Nat.mul_one]) hn (sv_one U) hroom
        (fun j hj => by rw [sz1, h2.cell, List.getElem?_toArray, List.getElem?_eq_getElem (hin j hj)]; rfl) (fun j hj => h2.free _)
      rw [sz1, Nat.mul_one] at hr
      have hfit : off + T.length + (U.map sv).length ≤ C.length := by rw [hUl]; omega
      refine ⟨_, _, hr, ⟨g, off, cap, layL C (off + T.length) (U.map sv), by rw [List.length_append], h1, arr_setCells (U.map sv) (off + T.length) C W h2 hfit, by rw [List.length_append]; exact hroom, by rw [layL_len hfit]; exact h4, h5, fun k x hx => ?_⟩, gb_setCells g (U.map sv) (off + T.length) W, .inl rfl⟩
      unfold layL
      by_cases hk : k < T.length
      · rw [List.getElem?_append_left hk] at hx
        rw [List.append_assoc, List.getElem?_append_left (by rw [List.length_take]; omega), List.getElem?_take_of_lt (by omega)]
        exact h6 k x hx
      · rw [List.getElem?_append_right (by omega)] at hx
        have hku := (List.getElem?_eq_some_iff.1 hx).1
        rw [List.append_assoc, List.getElem?_append_right (by rw [List.length_take]; omega), List.length_take, Nat.min_eq_left (by omega), show off + k - (off + T.length) = k - T.length from by omega, List.getElem?_append_left (by rw [hUl]; exact hku), List.getElem?_map, hx]
        rfl
    · have holds : ∀ j u, (T.map sv)[j]? = some u → W.cell? ((⟨g, off, none⟩ : Addr).add j) = some u := fun j u hj => by
        rw [List.getElem?_map] at hj
        cases hx : T[j]? with
        | none => rw [hx] at hj; cases hj
        | some x =>
          rw [hx] at hj
          have e : Value.string x = u := Option.some.inj hj
          have e2 : (⟨g, off, none⟩ : Addr).add j = ⟨g, off + j, none⟩ := by
            unfold Addr.add
            split
            · rename_i hj0; rw [hj0]; rfl
            · rfl
          rw [e2, h2.cell, List.getElem?_toArray, h6 j x hx, e]
      have hTl : (T.map sv).length = T.length := List.length_map _
      have hr := run_append_grow (P := Tryz.prog) W 22 ty 9 si _ Tryz.underlying22 hsi sz0 ⟨g, off, none⟩ T.length cap (T.map sv) (by rw [sz1, hTl, Nat.mul_one]) holds ad U.length c (U.map sv) (by rw [hUl, sz1, Nat.mul_one]) hn (by omega) (by omega) (growslice_fits (by omega) (by rw [sz2]; omega))
      have hge := grownCap_ge W (T.length + U.length) cap 9
      have hcm2 : grownCap W (T.length + U.length) cap 9 ≤ maxLen := grownCap_le_maxLen W (T.length + U.length) cap 9 (by unfold maxLen; omega)
      generalize grownCap W (T.length + U.length) cap 9 = cap' at *
      have AN := heap_alloc_new W.drew (.cells ((T.map sv).toArray ++ (U.map sv).toArray ++ Builtin.zeroCells (Value.string ⟨#[]⟩).cells (cap' - (T.length + U.length))) 9)
      have hsz : ((T.map sv).toArray ++ (U.map sv).toArray ++ Builtin.zeroCells (Value.string ⟨#[]⟩).cells (cap' - (T.length + U.length))).size = cap' := by
        rw [Array.size_append, Array.size_append, size_zeroCells]
        show (T.map sv).length + (U.map sv).length + (cap' - (T.length + U.length)) * 1 = cap'
        rw [hTl, hUl]
        omega
      refine ⟨_, _, hr, ⟨W.heap.size, 0, cap', ((T.map sv).toArray ++ (U.map sv).toArray ++ Builtin.zeroCells (Value.string ⟨#[]⟩).cells (cap' - (T.length + U.length))).toList, by rw [List.length_append], hb, by rw [Array.toArray_toList]; exact AN, by rw [List.length_append]; exact hge, by rw [Array.length_toList, hsz]; omega, hcm2, fun k x hx => ?_⟩, gb_below (((Below.refl _ W).drew).alloc (Nat.le_refl _) _), .inr rfl⟩
      rw [Array.toList_append, Array.toList_append, Nat.zero_add, List.getElem?_append_left (by
        rw [List.length_append]
        have := (List.getElem?_eq_some_iff.1 hx).1
        rw [List.length_append] at this
        show k < (T.map sv).length + (U.map sv).length
        omega)]
      show (T.map sv ++ U.map sv)[k]? = some (.string x)
      rw [← List.map_append, List.getElem?_map, hx]
      rfl
theorem wpList_app_q {ops : Array Oper} {rest : List Oper} {o : Oper} {a : Act} {w : World} {Q : Exit → Act → World → Prop} (hgd : o.guard = none) (s x : Operand)
    (ho : o.op = .call { callee := .builtin .append, args := #[s, x], argTypes := #[22, 22] }) (base : Nat) (v : Value) (T U : List ByteArray) (hs : a.eval s = v) (h : QRow w base v T)
    (A : Option Addr) (c : Nat) (hx : a.eval x = .slice A U.length c) (hU : News w A U.length (U.map sv)) (hl : T.length + U.length ≤ 1000000) (hb : base ≤ w.heap.size)
    (hn : ∀ v' w', QRow w' base v' (T ++ U) → w.grownBy w' v.ownBlock → (v'.ownBlock = v.ownBlock ∨ v'.ownBlock = some w.heap.size) → wpList Tryz.prog ops Q rest (a.put o.dst v') w') : wpList Tryz.prog ops Q (o :: rest) a w :=
  wpList_plain hgd fun K hK => by
    obtain ⟨v', w', hr, h2, h3, h4⟩ := run_app_q w base o.type v T U h A c hU hl hb
    unfold Oper.wp execOp
    simp only [ho, resolve, invoke, builtin, Sem.run_bind, Sem.run_pure, Result.andThen_ok, List.map_toArray, List.map_cons, List.map_nil, hs, hx, hr]
    exact hK _ _ (hn v' w' h2 h3 h4)
theorem QRow.empty (w : World) (g : Nat) {base : Nat} (hb : base ≤ g) (h : Arr w g 9 #[]) : QRow w base (.slice (some ⟨g, 0, none⟩) 0 0) [] := ⟨g, 0, 0, [], rfl, hb, h, Nat.le_refl _, Nat.le_refl _, Nat.zero_le _, fun k x hx => by simp at hx⟩
theorem QRow.txs {w : World} {base : Nat} {v : Value} {T : List ByteArray} (h : QRow w base v T) : ∃ A c, v = .slice A T.length c ∧ Txs w w.heap.size A T := by
  obtain ⟨g, off, cap, C, rfl, h1, h2, h3, h4, h5, h6⟩ := h
  refine ⟨_, _, rfl, fun k x hx => ⟨_, rfl, ?_⟩⟩
  have e2 : (⟨g, off, none⟩ : Addr).add k = ⟨g, off + k, none⟩ := by
    unfold Addr.add
    split
    · rename_i hk; rw [hk]; rfl
    · rfl
  rw [e2, h2.cell, List.getElem?_toArray]
  exact ⟨h2.lt, h6 k x hx⟩
end Go.Proofs.YtmikfmcgddmplaaGreatDoor

/- ref.in: its contract. -/
namespace Go.Proofs.YtmikfmcgddmplaaGreatDoor
open Go.RowKit

set_option maxRecDepth 100000 in
theorem refin_any (T : List ByteArray) (x : ByteArray) (hl : T.length ≤ 140737488355328) (A : Option Addr) (c : Nat) (w : World) (hT : Txs w w.heap.size A T) :
    Calls Tryz.prog 29 #[.slice A T.length c, .string x] w fun e w' => e = .returned (.bool (memB x T)) ∧ Below w.heap.size w w' := by
  go_enter Tryz.func29, Tryz.ntmps29
  go_wp2_with fail
  go_loopw [9] (fun i wr => ∃ k : Nat, k ≤ T.length ∧ i = .int .i64 (k : Int) ∧ x ∉ T.take k ∧ Below w.heap.size w wr) (fun i _ => T.length - (intOf i).toNat)
  case atStart => exact ⟨0, Nat.zero_le _, rfl, by simp, Below.refl _ _⟩
  case round =>
    obtain ⟨k, hk, rfl, hn, hB⟩ := hrel
    by_cases hlt : k < T.length
    · have hi : (k : Int) < T.length := by omega
      obtain ⟨ad, rfl, hbl, h0⟩ := hT k T[k] (List.getElem?_eq_getElem hlt)
      have g0 := (hB.cell hbl).trans h0
      have hmem : T[k] ∈ T := List.getElem_mem hlt
      have HS : Hid (x ≠ T[k] → x ∉ T.take (k + 1)) := fun h q => by
        rw [List.take_succ_eq_append_getElem hlt] at q
        rcases List.mem_append.1 q with q | q
        · exact hn q
        · exact h (List.mem_singleton.1 q)
      clear h0
      generalize T[k] = y at *
      cases hq : y.toList == x.toList
      · have HS2 := Lib.hid (HS.out (fun e => by rw [e] at hq; simp at hq))
        clear HS hn hmem
        go_wp2_with fail
        refine ⟨⟨k + 1, hlt, by go_num, HS2.out, hB⟩, by simp [intOf]; omega⟩
      · have he : Hid (memB x T = true) := memB_iff.2 (by rw [← (eqB_iff y x).1 hq]; exact hmem)
        clear HS hn hmem
        go_wp2_with fail
        go_ret
        exact ⟨by rw [he.out]; rfl, hB⟩
    · have hi : ¬ (k : Int) < T.length := by omega
      have he : Hid (memB x T = false) := by
        show _ = _
        rw [List.take_of_length_le (by omega)] at hn
        cases hm : memB x T
        · rfl
        · exact absurd (memB_iff.1 hm) hn
      clear hn hT
      go_wp2_with fail
      go_ret
      exact ⟨by rw [he.out]; rfl, hB⟩
end Go.Proofs.YtmikfmcgddmplaaGreatDoor

/- ref.SameStrings: its contract. -/
namespace Go.Proofs.YtmikfmcgddmplaaGreatDoor
open Go.RowKit

set_option maxRecDepth 100000 in
set_option maxHeartbeats 1000000 in
theorem RefStrings_any (T U : List ByteArray) (hl : T.length ≤ 281474976710656) (hu : U.length ≤ 281474976710656) (A A' : Option Addr) (c c' : Nat) (w : World) (hP : Txs w w.heap.size A T) (hQ : Txs w w.heap.size A' U) :
    Calls Tryz.prog 9 #[.slice A T.length c, .slice A' U.length c'] w fun e w' => e = .returned (.bool (decide (T = U))) ∧ Below w.heap.size w w' := by
  by_cases hlen : T.length = U.length
  · have hlb : ((T.length : Int) != U.length) = false := by rw [hlen]; simp
    rw [hlen] at hlb ⊢
    go_enter Tryz.func9, Tryz.ntmps9
    go_wp2_with fail
    go_loopw [13] (fun i wr => ∃ k : Nat, k ≤ U.length ∧ i = .int .i64 (k : Int) ∧ T.take k = U.take k ∧ Below w.heap.size w wr) (fun i _ => U.length - (intOf i).toNat)
    case atStart => exact ⟨0, Nat.zero_le _, rfl, rfl, Below.refl _ _⟩
    case round =>
      obtain ⟨k, hk, rfl, ht, hB⟩ := hrel
      have HT := Lib.hid ht
      clear ht
      by_cases hlt : k < U.length
      · have hlt2 : k < T.length := by omega
        obtain ⟨ad, rfl, hbl, h0⟩ := hP k T[k] (List.getElem?_eq_getElem hlt2)
        obtain ⟨ad2, rfl, hbl2, h1⟩ := hQ k U[k] (List.getElem?_eq_getElem hlt)
        have g0 := (hB.cell hbl).trans h0
        have g1 := (hB.cell hbl2).trans h1
        have hi : (k : Int) < U.length := by omega
        have HS := Lib.hid (fun e => take_eq_step HT.out hlt2 hlt e)
        have HN : Hid (T[k] ≠ U[k] → T ≠ U) := fun h e => by subst e; exact h rfl
        clear h0 h1 hP hQ HT
        generalize T[k] = x at *
        generalize U[k] = y at *
        cases hq : x.toList == y.toList
        · have hne : Hid (decide (T = U) = false) := decide_eq_false (HN.out (fun e => by rw [e] at hq; simp at hq))
          clear HS HN hlb
          go_wp2_with fail
          go_quiet (fail)
          go_wp2_with fail
          go_ret
          exact ⟨by rw [hne.out]; rfl, below_drewN hB _⟩
        · have HS2 := Lib.hid (HS.out ((eqB_iff x y).1 hq))
          clear HS HN hlb
          go_wp2_with fail
          go_quiet (fail)
          go_wp2_with fail
          refine ⟨⟨k + 1, hlt, by go_num, HS2.out, below_drewN hB _⟩, by simp [intOf]; omega⟩
      · obtain rfl : k = U.length := by omega
        have hi : ¬ (U.length : Int) < U.length := by omega
        have heq : Hid (decide (T = U) = true) := decide_eq_true (by have := HT.out; rwa [List.take_length, List.take_of_length_le (by omega)] at this)
        clear hP hQ HT hlb
        go_wp2_with fail
        go_ret
        exact ⟨by rw [heq.out]; rfl, hB⟩
  · have hlb : ((T.length : Int) != U.length) = true := by rw [bne_iff_ne]; omega
    have hne : Hid (decide (T = U) = false) := decide_eq_false (fun e => hlen (by rw [e]))
    clear hP hQ hlen
    go_enter Tryz.func9, Tryz.ntmps9
    go_wp2_with fail
    go_ret
    exact ⟨by rw [hne.out]; rfl, Below.refl _ _⟩
end Go.Proofs.YtmikfmcgddmplaaGreatDoor
