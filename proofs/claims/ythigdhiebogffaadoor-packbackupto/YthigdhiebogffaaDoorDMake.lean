/- delta.Make: its contract. -/
import Derived.Test.YthigdhiebogffaaDoorDWin
import Derived.Test.YthigdhiebogffaaDoorDCommon
import Derived.Test.YthigdhiebogffaaDoorDFlush
import Derived.Deep.Cut
import Derived.Deep.RegionHeld3
namespace Go.Proofs.YthigdhiebogffaaDoor
open Go.RowKit

set_option maxRecDepth 100000 in
theorem Make_long (b t : ByteArray) (h : 8192 < b.size ∨ 8192 < t.size) (hb : b.size ≤ 281474976710656) (ht : t.size ≤ 281474976710656) (w : World) :
    Calls Tryd.prog 78 #[.string b, .string t] w fun x w' => x = .returned (.tuple #[.string ⟨#[]⟩, .int .i64 1]) ∧ Below w.heap.size w w' := by
  by_cases hlt : b.size < t.size
  · have hm : (8192 : Int) < t.size := by omega
    clear h
    go_enter Tryd.func78, Tryd.ntmps78
    go_wp2_with fail
    go_ret2
    exact ⟨rfl, (Below.refl _ _).alloc (Nat.le_refl _) _⟩
  · have hm : (8192 : Int) < b.size := by omega
    clear h
    go_enter Tryd.func78, Tryd.ntmps78
    go_wp2_with fail
    go_ret2
    exact ⟨rfl, (Below.refl _ _).alloc (Nat.le_refl _) _⟩

/-- the number in a cell -/
def cellN (w : World) (g : Nat) : Nat := match w.cell? ⟨g, 0, none⟩ with
  | some (.int _ n) => n.toNat
  | _ => 0
theorem Mv.atN {w : World} {gt gw gd ga : Nat} {T : ByteArray} {ps : List ByteArray} {d a : Nat} (h : Mv w gt gw gd ga T ps d a) : cellN w ga = a := by
  unfold cellN
  rw [show w.cell? ⟨ga, 0, none⟩ = some (.int .i64 (a : Int)) from h.a.cell 0]
  simp
theorem Mv.below {w w' : World} {gt gw gd ga : Nat} {T : ByteArray} {ps : List ByteArray} {d a : Nat} (h : Mv w gt gw gd ga T ps d a) (k : Below w.heap.size w w') : Mv w' gt gw gd ga T ps d a :=
  ⟨h.t.below k h.t.lt, h.p.below k, h.d.below k h.d.lt, h.a.below k h.a.lt, h.ne⟩
theorem map_ne {w : World} {g g' : Nat} {t : TypeId} {cs : Array Value} {l : List KI} (h : MapI w g l) (h' : Arr w g' t cs) : g ≠ g' := by
  rintro rfl
  unfold MapI at h
  unfold Arr at h'
  rw [h] at h'
  simp at h'
theorem WOk.set {w : World} {g g' : Nat} {ps : List ByteArray} {t : TypeId} {cs : Array Value} (h : WOk w g ps) (h' : Arr w g' t cs) (h1 : t ≠ 65) (h2 : t ≠ 116) (v : Value) : WOk (w.setCell ⟨g', 0, none⟩ v) g ps := by
  obtain ⟨u, ha, hc⟩ := h
  exact ⟨u, ha.kept (gb_set g' 0 v) (fun e => by cases e; exact (h'.ne ha h1) rfl), hc.kept (gb_set g' 0 v) (fun k e => by cases e; exact ⟨t, cs, h2, h'⟩)⟩
theorem Mv.setA {w : World} {gt gw gd ga : Nat} {T : ByteArray} {ps : List ByteArray} {d a : Nat} (h : Mv w gt gw gd ga T ps d a) (a' : Nat) : Mv (w.setCell ⟨ga, 0, none⟩ (.int .i64 (a' : Int))) gt gw gd ga T ps d a' :=
  ⟨h.t.kept (gb_set _ _ _) (fun e => by cases e; exact (h.t.ne h.a (by decide)) rfl), h.p.set h.a (by decide) (by decide) _, h.d.kept (gb_set _ _ _) (fun e => by cases e; exact h.ne rfl), h.a.put 0 _, h.ne⟩
theorem Mv.setD {w : World} {gt gw gd ga : Nat} {T : ByteArray} {ps : List ByteArray} {d a : Nat} (h : Mv w gt gw gd ga T ps d a) (d' : Nat) : Mv (w.setCell ⟨gd, 0, none⟩ (.int .i64 (d' : Int))) gt gw gd ga T ps d' a :=
  ⟨h.t.kept (gb_set _ _ _) (fun e => by cases e; exact (h.t.ne h.d (by decide)) rfl), h.p.set h.d (by decide) (by decide) _, h.d.put 0 _, h.a.kept (gb_set _ _ _) (fun e => by cases e; exact h.ne rfl), h.ne⟩
theorem delta_app (nb nt : Nat) (L M : List DOp) : delta nb nt (L ++ M) = delta nb nt L ++ encs M := by
  unfold delta
  rw [encs_app, List.append_assoc, List.append_assoc]
theorem flush_any (nb nt : Nat) (L : List DOp) (gt gw gd ga : Nat) (T : ByteArray) (ps : List ByteArray) (d a : Nat) (hc : cat ps = delta nb nt L) (hda : d ≤ a) (haT : a ≤ T.size) (hT : T.size ≤ 8192) (hps : (cat ps).length ≤ 1000000)
    (w : World) (h : Mv w gt gw gd ga T ps d a) :
    Calls Tryd.prog 96 #[.pointer (some ⟨gd, 0, none⟩), .pointer (some ⟨ga, 0, none⟩), .pointer (some ⟨gw, 0, none⟩), .pointer (some ⟨gt, 0, none⟩)] w
      fun x w' => x = .returned (.tuple #[]) ∧ w.grownBy w' (some gw) ∧ ∃ ps', Mv w' gt gw gd ga T ps' d a ∧ cat ps' = delta nb nt (fl T.data.toList L d a) := by
  by_cases hlt : d < a
  · refine (flush_go gt gw gd ga T ps d a hlt haT hT hps w h).mono fun x w' ⟨h1, h2, h3⟩ => ⟨h1, h3, _, h.wrote h2 h3, ?_⟩
    unfold fl
    rw [if_pos hlt, delta_app, encs_one, cat, cat, hc, bs_list, extract_drop, DOp.enc, mid_len (T := T.data.toList) hda haT, List.append_assoc]
  · refine (flush_no gt gw gd ga T ps d a (by omega) w h).mono fun x w' ⟨h1, h2⟩ => ?_
    subst h2
    refine ⟨h1, World.grownBy.refl _ _, ps, h, ?_⟩
    unfold fl
    rw [if_neg hlt, hc]
theorem extract_end (s : ByteArray) (k : Nat) : (s.extract k s.size).data.toList = s.data.toList.drop k := by
  rw [extract_drop, List.take_of_length_le]
  rw [List.length_drop, list_len]
  exact Nat.le_refl _
/-- what a hit tells -/
theorem hit_facts {b t : ByteArray} {M : List KI} {a p : Nat} (hW : Wins b M) (hF : 8 ≤ b.size → ∃ l, M = (b.extract 0 8, 0) :: l) (ha : a + 8 ≤ t.size) (hp : posI (t.extract a (a + 8)) M = some p) :
    ∃ k : Nat, (M.getD p (t.extract a (a + 8), 0)).2 = k ∧ k + 8 ≤ b.size ∧ 8 ≤ lcp (b.data.toList.drop k) (t.data.toList.drop a) ∧ (Pre b.data.toList t.data.toList → a = 0 → k = 0) := by
  obtain ⟨k, hk⟩ := posI_at _ _ _ hp
  have hm := List.mem_of_getElem? hk
  obtain ⟨h1, h2⟩ := hW _ hm
  simp only at h1 h2
  have hl : b.data.toList.length = b.size := rfl
  have hl2 : t.data.toList.length = t.size := rfl
  refine ⟨k, by rw [List.getD_eq_getElem?_getD, hk]; rfl, h1, lcp_ge 8 _ _ (by rw [List.length_drop]; omega) (by rw [List.length_drop]; omega) ?_, ?_⟩
  · have e := congrArg (fun s : ByteArray => s.data.toList) h2
    simp only [extract_drop] at e
    rw [show a + 8 - a = 8 from by omega, show k + 8 - k = 8 from by omega] at e
    exact e.symm
  · rintro ⟨p1, p2, p3⟩ rfl
    obtain ⟨l, rfl⟩ := hF p1
    have e : t.extract 0 (0 + 8) = b.extract 0 8 := by
      apply bytes_eq
      rw [extract_drop, extract_drop, List.drop_zero, List.drop_zero]
      show t.data.toList.take 8 = b.data.toList.take 8
      have e2 := congrArg (List.take 8) p3
      rw [List.take_take, Nat.min_eq_left p1] at e2
      exact e2
    rw [e, posI, if_pos rfl] at hp
    cases hp
    rw [e] at hk
    simpa using hk.symm
/-- behind an answer of Make -/
def Made (b t : ByteArray) (w : World) (x : Ending) (w' : World) : Prop :=
  ∃ L : List DOp, x = .returned (.tuple #[.string (bs (delta b.size t.size L)), .int .i64 0]) ∧ (∀ o ∈ L, o.ok b.data.toList) ∧ outs b.data.toList L = t.data.toList ∧ (encs L).length ≤ t.size + 3 ∧
    (Pre b.data.toList t.data.toList → (encs L).length + b.size ≤ t.size + 7) ∧ Below w.heap.size w w'
/-- what Make keeps from round to round -/
def MakeRel (b t : ByteArray) (gt gw gd ga gm : Nat) (M : List KI) (B : Nat) (w wr : World) : Prop :=
  ∃ (L : List DOp) (ps : List ByteArray) (d a : Nat), Mv wr gt gw gd ga t ps d a ∧ cat ps = delta b.size t.size L ∧ MI b.data.toList t.data.toList L d a ∧ MapI wr gm M ∧ Below B w wr

set_option maxRecDepth 100000 in
set_option maxHeartbeats 2000000 in
theorem Make_ok (b t : ByteArray) (hb : b.size ≤ 8192) (ht : t.size ≤ 8192) (w : World) :
    Calls Tryd.prog 78 #[.string b, .string t] w (Made b t w) := by
  have hm : (if b.size < t.size then (t.size : Int) else (b.size : Int)) ≤ 8192 := by split <;> omega
  have k1 := num_2 b.size (by omega)
  have k2 := num_2 t.size (by omega)
  have q1 := fun W h => WNumber_ok (w.heap.size + 1) [] (b.size : Int) (bs (num b.size)) (putIs_num _ (by omega)) (by rw [bs_size]; omega) (Nat.zero_le _) W h
  have q2 := fun W h => WNumber_ok (w.heap.size + 1) [bs (num b.size)] (t.size : Int) (bs (num t.size)) (putIs_num _ (by omega)) (by rw [bs_size]; omega) (by rw [cat, cat, List.nil_append, bs_list]; omega) W h
  have HC : Hid (cat [bs (num t.size), bs (num b.size)] = delta b.size t.size []) := Lib.hid (by
    unfold delta
    rw [cat, cat, cat, List.nil_append, bs_list, bs_list, encs, List.append_nil])
  clear k1 k2
  generalize bs (num b.size) = N1 at *
  generalize bs (num t.size) = N2 at *
  go_enter Tryd.func78, Tryd.ntmps78
  go_upto_region 4 with fail
  generalize (if b.size < t.size then (t.size : Int) else (b.size : Int)) = mx at *
  refine wp_forget (fun W => Arr W w.heap.size 9 #[.string t] ∧ WOk W (w.heap.size + 1) [] ∧ Below w.heap.size w W) ⟨(Arr.new w _ _).alloc _, ⟨.pointer none, Arr.new_at _ _ _ (by simp), rfl⟩, ((Below.refl _ _).alloc (Nat.le_refl _) _).alloc (by simp) _⟩ ?_
  rintro W1 ⟨t1, p1, B1⟩
  go_wp2_with fail
  (with_reducible refine (q1 W1 p1).mono ?_)
  clear q1
  rintro _ W2 ⟨rfl, p2, g2⟩
  have t2 := t1.kept g2 (fun e => by simp at e)
  have B2 := below_gb B1 g2 (Nat.le_succ _) B1.size
  have c2 : W2.cell? ⟨w.heap.size, 0, none⟩ = some (.string t) := t2.cell 0
  clear t1 p1 g2 B1
  go_wp2_with fail
  (with_reducible refine (q2 W2 p2).mono ?_)
  clear q2
  rintro _ W3 ⟨rfl, p3, g3⟩
  have t3 := t2.kept g3 (fun e => by simp at e)
  have B3 := below_gb B2 g3 (Nat.le_succ _) B2.size
  clear t2 p2 g3 B2 c2
  have hz3 : w.heap.size + 1 < W3.heap.size := by
    obtain ⟨_, ha, _⟩ := p3
    exact ha.lt
  go_upto_region 7 with fail
  refine wp_forget (fun W => Mv W w.heap.size (w.heap.size + 1) W3.heap.size (W3.heap.size + 1) t [N2, N1] 0 0 ∧ Below w.heap.size w W) (by
    have k1 : Below W3.heap.size W3 ((W3.alloc (.cells #[.int .i64 0] 3)).alloc (.cells #[.int .i64 0] 3)) := ((Below.refl _ _).alloc (Nat.le_refl _) _).alloc (by simp) _
    exact ⟨⟨t3.below k1 t3.lt, p3.below k1, (Arr.new W3 _ _).alloc _, Arr.new_at _ _ _ (by simp), by omega⟩, B3.trans (k1.mono (by omega))⟩) ?_
  generalize hgd : W3.heap.size = gd at *
  have hga : w.heap.size ≤ gd + 1 := by omega
  have hgd' : w.heap.size ≤ gd := by omega
  generalize gd + 1 = ga at *
  clear t3 p3 B3 hz3 hgd
  clear W3
  rintro W4 ⟨v4, B4⟩
  have q := windowOffsets_any b hb W4
  go_wp2_with fail
  (with_reducible refine q.mono ?_)
  clear q
  rintro _ W5 ⟨rfl, b5, M, hM, hWn, hFi⟩
  have v5 := v4.below b5
  have B5 := B4.trans (b5.mono B4.size)
  have hgm : w.heap.size ≤ W4.heap.size := B4.size
  generalize W4.heap.size = gm at *
  clear v4 b5 B4
  clear W4
  go_wp2_with fail
  go_loopw [11] (fun _ wr => MakeRel b t w.heap.size (w.heap.size + 1) gd ga gm M w.heap.size w wr) (fun _ wr => t.size - cellN wr ga)
  case atStart => exact ⟨[], [N2, N1], 0, 0, v5, HC.out, mi_start _ _, hM, B5⟩
  case round =>
    clear v5 hM B5 HC
    obtain ⟨L, ps, d, a, hv, hc, hI, hM, hB⟩ := hrel
    have HA := Lib.hid hv.atN
    have c1 : wr.cell? ⟨ga, 0, none⟩ = some (.int .i64 (a : Int)) := hv.a.cell 0
    have c2 : wr.cell? ⟨w.heap.size, 0, none⟩ = some (.string t) := hv.t.cell 0
    have haT : a ≤ t.size := hI.at_le
    have hda : d ≤ a := hI.le
    by_cases hlt : a + 8 ≤ t.size
    · have i1 : (a : Int) + 8 ≤ t.size := by omega
      have i2 : (a : Int) ≤ a + 8 := by omega
      have i3 : ((a : Int) + 8).toNat = a + 8 := by omega
      have hlk := run_lookI hM (t.extract a (a + 8))
      unfold lookI at hlk
      cases hp : posI (t.extract a (a + 8)) M with
      | none =>
        rw [hp] at hlk
        simp only at hlk
        have f1 := hv.a.free 0
        have hv2 := hv.setA (a + 1)
        have hM2 : MapI (wr.setCell ⟨ga, 0, none⟩ (.int .i64 ((a + 1 : Nat) : Int))) gm M := hM.kept (gb_set _ _ _) (fun e => by cases e; exact (map_ne hM hv.a) rfl)
        have hB2 : Below w.heap.size w (wr.setCell ⟨ga, 0, none⟩ (.int .i64 ((a + 1 : Nat) : Int))) := below_gb hB (gb_set _ _ _) hga hB.size
        have hI2 := mi_miss hI (by rw [list_len]; omega) (fun hP e => by
          subst e
          obtain ⟨l, rfl⟩ := hFi hP.1
          have e2 : t.extract 0 (0 + 8) = b.extract 0 8 := by
            apply bytes_eq
            rw [extract_drop, extract_drop, List.drop_zero, List.drop_zero]
            show t.data.toList.take 8 = b.data.toList.take 8
            have e2 := congrArg (List.take 8) hP.2.2
            rw [List.take_take, Nat.min_eq_left hP.1] at e2
            exact e2
          rw [e2, posI, if_pos rfl] at hp
          cases hp)
        have HM := Lib.hid hv2.atN
        rw [show ((a + 1 : Nat) : Int) = (a : Int) + 1 from by omega] at hv2 hM2 hB2 HM
        go_wp2_with fail
        go_roundw
        case rel => exact ⟨L, ps, d, a + 1, hv2, hc, hI2, hM2, hB2⟩
        case measure =>
          rw [HA.out]
          rw [HM.out]
          omega
      | some p =>
        rw [hp] at hlk
        simp only at hlk
        obtain ⟨k, hk1, hk2, hk3, hk4⟩ := hit_facts hWn hFi hlt hp
        rw [hk1] at hlk
        have hcl : (cat ps).length ≤ 20000 := by
          have h1 := delta_len b.size t.size hb ht L
          have h2 := hI.len
          rw [hc]
          omega
        have q := flush_any b.size t.size L w.heap.size (w.heap.size + 1) gd ga t ps d a hc hda haT ht (by omega) wr hv
        clear hk1 hp hWn hFi
        go_wp2_with fail
        (with_reducible refine q.mono ?_)
        clear q
        rintro _ W6 ⟨rfl, g6, ps6, v6, e6⟩
        have M6 : MapI W6 gm M := hM.kept g6 (fun e => by
          obtain ⟨_, hw, _⟩ := hv.p
          cases e
          exact (map_ne hM hw) rfl)
        have B6 := below_gb hB g6 (Nat.le_succ _) hB.size
        clear g6 hB hM hv c1 c2 hlk hc
        have c1 : W6.cell? ⟨ga, 0, none⟩ = some (.int .i64 (a : Int)) := v6.a.cell 0
        have c2 : W6.cell? ⟨w.heap.size, 0, none⟩ = some (.string t) := v6.t.cell 0
        have q := fun W => commonBytes_any (b.extract k b.size) (t.extract a t.size) (by rw [ByteArray.size_extract]; omega) (by rw [ByteArray.size_extract]; omega) W
        rw [extract_end, extract_end] at q
        have HI := fun n hn h8 => Lib.hid (mi_hit (n := n) hI hb ht hn h8 hk4)
        obtain ⟨n, hn⟩ : ∃ n, n = lcp (b.data.toList.drop k) (t.data.toList.drop a) := ⟨_, rfl⟩
        rw [← hn] at q hk3
        have hit := HI n hn hk3
        have hn1 : k + n ≤ b.size := hit.out.2.1
        have hn2 : a + n ≤ t.size := hit.out.2.2
        clear HI hI hn hk4
        have i4 : (k : Int) ≤ b.size := by omega
        have i5 : (a : Int) ≤ t.size := by omega
        have S6 : W6.drew.cell? ⟨w.heap.size, 0, none⟩ = some (.string t) ∧ W6.drew.cell? ⟨ga, 0, none⟩ = some (.int .i64 (a : Int)) := ⟨c2, c1⟩
        have v6d : Mv W6.drew w.heap.size (w.heap.size + 1) gd ga t ps6 d a := v6.below (Below.refl _ _).drew
        go_wp2_with fail
        go_region_held3 (fun w' => w'.cell? ⟨w.heap.size, 0, none⟩ = some (.string t) ∧ w'.cell? ⟨ga, 0, none⟩ = some (.int .i64 (a : Int)))
          (first | exact S6 | exact S7)
          (first
            | (go_at_call 98
               (with_reducible refine (q _).mono ?_)
               rintro _ W7 ⟨rfl, b7⟩
               have S7 : W7.cell? ⟨w.heap.size, 0, none⟩ = some (.string t) ∧ W7.cell? ⟨ga, 0, none⟩ = some (.int .i64 (a : Int)) := ⟨(v6d.below b7).t.cell 0, (v6d.below b7).a.cell 0⟩)
            | fail)
        have v7 := v6d.below b7
        have M7 : MapI W7 gm M := MapI.below (w := W6.drew) M6 b7 (MapI.lt M6)
        have B7 : Below w.heap.size w W7 := B6.drew.trans (b7.mono B6.size)
        have hcl6 : (cat ps6).length ≤ 100000 := by
          have h1 := delta_len b.size t.size hb ht (fl t.data.toList L d a)
          have h2 := hit.out.1.len
          rw [encs_app, List.length_append] at h2
          rw [e6]
          omega
        have k1 := num_3 (2 * n + 1) (by omega)
        have k2 := num_2 k (by omega)
        have HE : Hid (cat (bs (num k) :: bs (num (2 * n + 1)) :: ps6) = delta b.size t.size (fl t.data.toList L d a ++ [.cpy k n])) := Lib.hid (by
          rw [delta_app, encs_one, cat, cat, e6, bs_list, bs_list, DOp.enc, List.append_assoc])
        have q1 := WNumber_ok (w.heap.size + 1) ps6 ((2 * n + 1 : Nat) : Int) (bs (num (2 * n + 1))) (putIs_num _ (by omega)) (by rw [bs_size]; omega) (by omega) W7 v7.p
        rw [show ((2 * n + 1 : Nat) : Int) = 2 * (n : Int) + 1 from by omega] at q1
        have q2 := fun W h => WNumber_ok (w.heap.size + 1) (bs (num (2 * n + 1)) :: ps6) (k : Int) (bs (num k)) (putIs_num _ (by omega)) (by rw [bs_size]; omega) (by rw [cat, List.length_append, bs_list]; omega) W h
        clear k1 k2 S6 S7 v6d b7 c1 c2 v6 M6 B6 q e6
        generalize bs (num (2 * n + 1)) = N3 at *
        generalize bs (num k) = N4 at *
        go_wp2_with fail
        (with_reducible refine q1.mono ?_)
        clear q1
        rintro _ W8 ⟨rfl, p8, g8⟩
        have v8 := v7.wrote p8 g8
        have M8 : MapI W8 gm M := M7.kept g8 (fun e => by
          obtain ⟨_, hw, _⟩ := v7.p
          cases e
          exact (map_ne M7 hw) rfl)
        have B8 := below_gb B7 g8 (Nat.le_succ _) B7.size
        clear v7 M7 B7 g8
        go_wp2_with fail
        (with_reducible refine (q2 W8 p8).mono ?_)
        clear q2
        rintro _ W9 ⟨rfl, p9, g9⟩
        have v9 := v8.wrote p9 g9
        have M9 : MapI W9 gm M := M8.kept g9 (fun e => by
          obtain ⟨_, hw, _⟩ := v8.p
          cases e
          exact (map_ne M8 hw) rfl)
        have B9 := below_gb B8 g9 (Nat.le_succ _) B8.size
        clear v8 M8 B8 g9 p8 p9
        have c1 : W9.cell? ⟨ga, 0, none⟩ = some (.int .i64 (a : Int)) := v9.a.cell 0
        have f1 := v9.a.free 0
        have f2 := v9.d.free 0
        have c3 : W9.cell? ⟨gd, 0, none⟩ = some (.int .i64 (d : Int)) := v9.d.cell 0
        have va := v9.setA (a + n)
        have Ma : MapI (W9.setCell ⟨ga, 0, none⟩ (.int .i64 ((a + n : Nat) : Int))) gm M := M9.kept (gb_set _ _ _) (fun e => by cases e; exact (map_ne M9 v9.a) rfl)
        have Ba : Below w.heap.size w (W9.setCell ⟨ga, 0, none⟩ (.int .i64 ((a + n : Nat) : Int))) := below_gb B9 (gb_set _ _ _) hga B9.size
        have fa := va.d.free 0
        have ca : (W9.setCell ⟨ga, 0, none⟩ (.int .i64 ((a + n : Nat) : Int))).cell? ⟨gd, 0, none⟩ = some (.int .i64 (d : Int)) := va.d.cell 0
        have vb := va.setD (a + n)
        have Mb := Ma.kept (gb_set gd 0 (.int .i64 ((a + n : Nat) : Int))) (fun e => by cases e; exact (map_ne Ma va.d) rfl)
        have Bb := below_gb Ba (gb_set gd 0 (.int .i64 ((a + n : Nat) : Int))) hgd' Ba.size
        have HM := Lib.hid vb.atN
        have hne : ga ≠ gd := fun e => v9.ne e.symm
        clear va Ma Ba v9 M9 B9
        rw [show ((a + n : Nat) : Int) = (a : Int) + n from by omega] at vb Mb Bb HM fa ca
        go_wp2_with fail
        go_roundw
        case rel => exact ⟨_, _, a + n, a + n, vb, HE.out, hit.out.1, Mb, Bb⟩
        case measure =>
          rw [HA.out]
          rw [HM.out]
          omega
    · have i1 : ¬ (a : Int) + 8 ≤ t.size := by omega
      have f1 := hv.a.free 0
      have va := hv.setA t.size
      have Ba : Below w.heap.size w (wr.setCell ⟨ga, 0, none⟩ (.int .i64 (t.size : Int))) := below_gb hB (gb_set _ _ _) hga hB.size
      obtain ⟨z1, z2, z3, z4⟩ := mi_end hI ht (fun hP e => by
        have h1 := hP.1
        have h2 := hP.2.1
        rw [list_len, list_len] at h2
        rw [list_len] at h1
        omega)
      have hcl : (cat ps).length ≤ 20000 := by
        have h1 := delta_len b.size t.size hb ht L
        have h2 := hI.len
        rw [hc]
        omega
      have q := flush_any b.size t.size L w.heap.size (w.heap.size + 1) gd ga t ps d t.size hc (by omega) (Nat.le_refl _) ht (by omega) _ va
      have hf := delta_len b.size t.size hb ht (fl t.data.toList L d t.size)
      have hlT : t.data.toList.length = t.size := rfl
      rw [hlT] at z1 z2 z3 z4
      generalize fl t.data.toList L d t.size = L2 at *
      clear hv hM hB va hc
      go_wp2_with fail
      (with_reducible refine q.mono ?_)
      clear q
      rintro _ W6 ⟨rfl, g6, ps6, v6, e6⟩
      have B6 := below_gb Ba g6 (Nat.le_succ _) Ba.size
      have q := Done_ok (w.heap.size + 1) ps6 (by rw [e6]; omega) W6 v6.p
      rw [e6] at q
      clear g6 Ba v6 e6 c1 c2
      go_wp2_with fail
      (with_reducible refine q.mono ?_)
      clear q
      rintro _ W7 ⟨rfl, b7⟩
      go_wp2_with fail
      go_ret2
      exact ⟨L2, rfl, z1, z2, z3, z4, B6.trans (b7.mono B6.size)⟩
end Go.Proofs.YthigdhiebogffaaDoor
