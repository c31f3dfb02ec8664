/- The closure in delta.Make: its contract. -/
import Derived.Test.YthigdhiebogffaaDoorDMath
import Derived.Test.YthigdhiebogffaaDoorWDone
namespace Go.Proofs.YthigdhiebogffaaDoor
open Go.RowKit

/-- Make's variables in memory: the target, the writer, done, at -/
structure Mv (w : World) (gt gw gd ga : Nat) (T : ByteArray) (ps : List ByteArray) (d a : Nat) : Prop where
  t : Arr w gt 9 #[.string T]
  p : WOk w gw ps
  d : Arr w gd 3 #[.int .i64 (d : Int)]
  a : Arr w ga 3 #[.int .i64 (a : Int)]
  ne : gd ≠ ga
theorem putIs_num (n : Nat) (h : n < 4611686018427387904) : PutIs ⟨#[]⟩ (n : Int) (bs (num n)) 0 := by
  have q := putIs_yes ⟨#[]⟩ (by decide) n h
  rw [empty_append] at q
  exact q
theorem Mv.wrote {w w' : World} {gt gw gd ga : Nat} {T : ByteArray} {ps ps' : List ByteArray} {d a : Nat} (h : Mv w gt gw gd ga T ps d a) (h' : WOk w' gw ps') (k : w.grownBy w' (some gw)) : Mv w' gt gw gd ga T ps' d a := by
  obtain ⟨v, hw, _⟩ := h.p
  exact ⟨h.t.kept k (fun e => by cases e; exact (h.t.ne hw (by decide)) rfl), h', h.d.kept k (fun e => by cases e; exact (h.d.ne hw (by decide)) rfl), h.a.kept k (fun e => by cases e; exact (h.a.ne hw (by decide)) rfl), h.ne⟩

theorem flush_no (gt gw gd ga : Nat) (T : ByteArray) (ps : List ByteArray) (d a : Nat) (hda : a ≤ d) (w : World) (h : Mv w gt gw gd ga T ps d a) :
    Calls Tryd.prog 96 #[.pointer (some ⟨gd, 0, none⟩), .pointer (some ⟨ga, 0, none⟩), .pointer (some ⟨gw, 0, none⟩), .pointer (some ⟨gt, 0, none⟩)] w fun x w' => x = .returned (.tuple #[]) ∧ w = w' := by
  have c1 : w.cell? ⟨gd, 0, none⟩ = some (.int .i64 (d : Int)) := h.d.cell 0
  have c2 : w.cell? ⟨ga, 0, none⟩ = some (.int .i64 (a : Int)) := h.a.cell 0
  have hlt : ¬ (d : Int) < a := by omega
  go_enter Tryd.func96, Tryd.ntmps96
  go_wp2_with fail
  go_end0
  exact ⟨rfl, rfl⟩
set_option maxRecDepth 100000 in
theorem flush_go (gt gw gd ga : Nat) (T : ByteArray) (ps : List ByteArray) (d a : Nat) (hda : d < a) (haT : a ≤ T.size) (hT : T.size ≤ 8192) (hps : (cat ps).length ≤ 1000000) (w : World) (h : Mv w gt gw gd ga T ps d a) :
    Calls Tryd.prog 96 #[.pointer (some ⟨gd, 0, none⟩), .pointer (some ⟨ga, 0, none⟩), .pointer (some ⟨gw, 0, none⟩), .pointer (some ⟨gt, 0, none⟩)] w
      (Added w gw (T.extract d a :: bs (num (2 * (a - d))) :: ps)) := by
  have c1 : w.cell? ⟨gd, 0, none⟩ = some (.int .i64 (d : Int)) := h.d.cell 0
  have c2 : w.cell? ⟨ga, 0, none⟩ = some (.int .i64 (a : Int)) := h.a.cell 0
  have hlt : (d : Int) < a := by omega
  have hnl := num_3 (2 * (a - d)) (by omega)
  have q := WNumber_ok gw ps ((2 * (a - d) : Nat) : Int) (bs (num (2 * (a - d)))) (putIs_num _ (by omega)) (by rw [bs_size]; omega) (by omega) w h.p
  rw [show ((2 * (a - d) : Nat) : Int) = 2 * ((a : Int) - d) from by omega] at q
  have hxs : (T.extract d a).size ≤ 281474976710656 := by rw [ByteArray.size_extract]; omega
  have hc2 : (cat (bs (num (2 * (a - d))) :: ps)).length ≤ 281474976710656 := by rw [cat, List.length_append, bs_list]; omega
  have s1 : (d : Int) ≤ a := by omega
  have s2 : (a : Int) ≤ T.size := by omega
  generalize bs (num (2 * (a - d))) = N at *
  go_enter Tryd.func96, Tryd.ntmps96
  go_wp2_with fail
  (with_reducible refine q.mono ?_)
  clear q
  rintro _ w1 ⟨rfl, p1, g1⟩
  have h1 := h.wrote p1 g1
  have d1 : w1.cell? ⟨gd, 0, none⟩ = some (.int .i64 (d : Int)) := h1.d.cell 0
  have d2 : w1.cell? ⟨ga, 0, none⟩ = some (.int .i64 (a : Int)) := h1.a.cell 0
  have d3 : w1.cell? ⟨gt, 0, none⟩ = some (.string T) := h1.t.cell 0
  have q := WBytes_ok gw (N :: ps) (T.extract d a) hxs hc2 w1 p1
  clear c1 c2
  go_wp2_with fail
  (with_reducible refine q.mono ?_)
  clear q
  rintro _ w2 ⟨rfl, p2, g2⟩
  go_wp2_with fail
  go_end0
  exact ⟨rfl, p2, gb_trans g1 g2⟩
end Go.Proofs.YthigdhiebogffaaDoor
