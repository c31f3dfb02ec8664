/- keep.SumParts: the walk. -/
import Derived.Test.YtngfgmcnpbjefaaDoorEq
namespace Go.Proofs.YtngfgmcnpbjefaaDoor
open Go.RowKit

/-- The state behind bytes. -/
def stA (l : List UInt8) : Array Value := sarr (blocks startH l) (bs (restOf l)) (l.length : Int)
theorem stA_ok (l : List UInt8) (h : l.length < 1152921504606846976) : okS (bs (restOf l)) (l.length : Int) :=
  ⟨by omega, by omega, by rw [bs_size, restOf_length]; omega⟩
theorem stA_info (l : List UInt8) : (Tryd.prog.info? 28).map (·.size) = some (stA l).size := infoS _ (blocks_len8 _ _ rfl) _ _
theorem stA_size (l : List UInt8) : (stA l).size = 10 := sarr_size _ (blocks_len8 _ _ rfl) _ _
theorem stA_one (l : List UInt8) : (stA l).all (·.oneCell') = true := sarr_one _ _ _
theorem stA_eq (l : List UInt8) (w : World) : (binOp .eql 28 (.agg (stA l)) (.agg (stA l))).run Tryd.prog w = .ok (.bool true) w := eqS_run _ (blocks_len8 _ _ rfl) _ _ w
theorem Begin_A (w : World) : Calls Tryd.prog 20 #[] w fun e w' => e = .returned (.agg (stA [])) ∧ Below w.heap.size w w' := by
  have h := Begin_any w
  have e : stA [] = sarr startH ⟨#[]⟩ ((0 : Nat) : Int) := by unfold stA; rw [blocks_end _ _ (by simp)]; rfl
  rw [e]
  exact h
theorem Add_A (l : List UInt8) (b : ByteArray) (h : l.length + b.size < 1152921504606846976) (w : World) (ht : Tab w) :
    Calls Tryd.prog 14 #[.agg (stA l), .string b] w fun e w' => e = .returned (.tuple #[.agg (stA (l ++ b.data.toList)), .int .i64 0]) ∧ Below w.heap.size w w' := by
  have q := Add_ok (blocks startH l) (blocks_len8 _ _ rfl) (bs (restOf l)) b l.length (stA_ok l (by omega)) h w ht
  obtain ⟨e1, e2⟩ := blocks_restOf startH l b.data.toList
  rw [bs_list, ← e1, ← e2] at q
  have e3 : stv (blocks startH (l ++ b.data.toList)) (restOf (l ++ b.data.toList)) (l.length + b.size) = .agg (stA (l ++ b.data.toList)) := by
    unfold stv stA; rw [List.length_append]; rfl
  rw [e3] at q
  exact q
theorem End_A (l : List UInt8) (h : l.length < 1152921504606846976) (w : World) (ht : Tab w) :
    Calls Tryd.prog 16 #[.agg (stA l)] w fun e w' => e = .returned (.tuple #[.string (bs (sha l)), .int .i64 0]) ∧ Below w.heap.size w w' := by
  have q := End_ok (blocks startH l) (blocks_len8 _ _ rfl) (bs (restOf l)) l.length (stA_ok l h) w ht
  rw [bs_list] at q
  exact q
theorem Good_A (l : List UInt8) (h : l.length < 1152921504606846976) (w : World) :
    Calls Tryd.prog 18 #[.agg (stA l)] w fun e w' => e = .returned (.bool true) ∧ Below w.heap.size w w' :=
  Good_yes (blocks startH l) (blocks_len8 _ _ rfl) (bs (restOf l)) l.length (stA_ok l h) w
theorem sha_length (l : List UInt8) : (sha l).length = 32 := digest_length _ (blocks_len8 _ _ (blocks_len8 _ _ rfl))

theorem Add_0 (b : ByteArray) (h : b.size < 1152921504606846976) (w : World) (ht : Tab w) :
    Calls Tryd.prog 14 #[.agg (stA []), .string b] w fun e w' => e = .returned (.tuple #[.agg (stA b.data.toList), .int .i64 0]) ∧ Below w.heap.size w w' :=
  Add_A [] b (by simpa using h) w ht
/-- one state of the law's own in memory -/
def PW1 (g : Nat) (A : Array Value) (w W : World) : Prop := Arr W g 28 A ∧ w.heap.size ≤ g ∧ Tab W ∧ Below w.heap.size w W
theorem PW1.below {g : Nat} {A : Array Value} {w W W' : World} (h : PW1 g A w W) (hb : Below W.heap.size W W') : PW1 g A w W' :=
  ⟨h.1.below hb h.1.lt, h.2.1, h.2.2.1.below hb h.2.2.1.1, h.2.2.2.trans (hb.mono h.2.2.2.size)⟩
theorem PW1.row {g : Nat} {A : Array Value} {w W : World} (h : PW1 g A w W) (hw : 0 < w.heap.size) (B : Array Value) : PW1 g B w (W.setRow g B) :=
  ⟨h.1.row B, h.2.1, h.2.2.1.below (below_setRow (Below.refl w.heap.size W) h.2.1 B) hw, below_setRow h.2.2.2 h.2.1 B⟩
theorem PW1.start {A : Array Value} {w W : World} (ht : Tab W) (hb : Below w.heap.size w W) (hw : 0 < w.heap.size) :
    PW1 W.heap.size A w ((W.alloc (.cells zeroS 28)).setRow W.heap.size A) :=
  PW1.row (A := zeroS) ⟨Arr.new _ _ _, hb.size, ht.alloc _, hb.alloc hb.size _⟩ hw A

set_option maxRecDepth 100000 in
set_option maxHeartbeats 1000000 in
theorem SumParts_walk (a b c : ByteArray) (ha : a.size ≤ 140737488355328) (hb : b.size ≤ 140737488355328) (hc : c.size ≤ 140737488355328) (w : World) (ht : Tab w) :
    Calls Tryd.prog 7 #[.string a, .string b, .string c] w fun e w' => e = .returned (.bool true) ∧ Below w.heap.size w w' := by
  obtain ⟨la, hla⟩ : ∃ la, la = a.data.toList := ⟨_, rfl⟩
  obtain ⟨lab, hlab⟩ : ∃ lab, lab = la ++ b.data.toList := ⟨_, rfl⟩
  obtain ⟨labc, hlabc⟩ : ∃ labc, labc = lab ++ c.data.toList := ⟨_, rfl⟩
  have h1 : la.length + b.size < 1152921504606846976 := by rw [hla]; show a.size + b.size < _; omega
  have h2 : lab.length + c.size < 1152921504606846976 := by rw [hlab, List.length_append, hla]; show a.size + b.size + c.size < _; omega
  have h3 : labc.length < 1152921504606846976 := by rw [hlabc, List.length_append]; exact h2
  have h4 : ((a ++ b) ++ c).data.toList = labc := by rw [append_list, append_list, hlabc, hlab, hla]
  have h5 : ((a ++ b) ++ c).size < 1152921504606846976 := by rw [ByteArray.size_append, ByteArray.size_append]; omega
  have A1 : ∀ W, Tab W → Calls Tryd.prog 14 #[.agg (stA []), .string a] W fun e w' => e = .returned (.tuple #[.agg (stA la), .int .i64 0]) ∧ Below W.heap.size W w' := fun W hT => by rw [hla]; exact Add_0 a (by omega) W hT
  have A2 : ∀ W, Tab W → Calls Tryd.prog 14 #[.agg (stA la), .string b] W fun e w' => e = .returned (.tuple #[.agg (stA lab), .int .i64 0]) ∧ Below W.heap.size W w' := fun W hT => by rw [hlab]; exact Add_A la b h1 W hT
  have A3 : ∀ W, Tab W → Calls Tryd.prog 14 #[.agg (stA lab), .string c] W fun e w' => e = .returned (.tuple #[.agg (stA labc), .int .i64 0]) ∧ Below W.heap.size W w' := fun W hT => by rw [hlabc]; exact Add_A lab c h2 W hT
  have A4 : ∀ W, Tab W → Calls Tryd.prog 14 #[.agg (stA []), .string ((a ++ b) ++ c)] W fun e w' => e = .returned (.tuple #[.agg (stA labc), .int .i64 0]) ∧ Below W.heap.size W w' := fun W hT => by rw [← h4]; exact Add_0 _ h5 W hT
  have A5 : ∀ W, Tab W → Calls Tryd.prog 16 #[.agg (stA labc)] W fun e w' => e = .returned (.tuple #[.string (bs (sha labc)), .int .i64 0]) ∧ Below W.heap.size W w' := fun W hT => End_A labc h3 W hT
  have A6 : ∀ W, Tab W → Calls Tryd.prog 11 #[.string ((a ++ b) ++ c)] W fun e w' => e = .returned (.string (bs (sha labc))) ∧ Below W.heap.size W w' := fun W hT => by rw [← h4]; exact Sum_any _ h5 W hT
  have A7 : ∀ W, Calls Tryd.prog 18 #[.agg (stA labc)] W fun e w' => e = .returned (.bool true) ∧ Below W.heap.size W w' := fun W => Good_A labc h3 W
  have hq := stA_eq labc
  have hsl : (bs (sha labc)).size = 32 := by rw [bs_size, sha_length]
  have H1 := Lib.hid A1
  have H2 := Lib.hid A2
  have H3 := Lib.hid A3
  have H4 := Lib.hid A4
  have H5 := Lib.hid A5
  have H6 := Lib.hid A6
  have H7 := Lib.hid A7
  have s1 : ¬ (9223372036854775807 < a.size + b.size) := by omega
  have s2 : ¬ (9223372036854775807 < a.size + b.size + c.size) := by omega
  have Hq := Lib.hid hq
  clear A1 A2 A3 A4 A5 A6 A7 hla hlab hlabc h1 h2 h3 h4 h5 hq
  go_enter Tryd.func7, Tryd.ntmps7
  go_wp2_with fail
  (with_reducible refine (Begin_A _).mono ?_)
  rintro e w1 ⟨rfl, b1⟩
  have t1 := ht.below b1 ht.1
  go_wp2_with fail
  (with_reducible refine (H1.out _ t1).mono ?_)
  rintro e w2 ⟨rfl, b2⟩
  have t2 := t1.below b2 t1.1
  have B2 : Below w.heap.size w w2 := b1.trans (b2.mono b1.size)
  go_upto_region 2 with (refine wpList_store_row rfl 28 _ _ rfl w2.heap.size (stA la) rfl rfl 28 zeroS (Arr.new w2 _ _) (stA_info _) (by rw [stA_size]; rfl) (stA_one _) ?_)
  refine wp_forget (PW1 w2.heap.size (stA la) w) (PW1.start t2 B2 ht.1) ?_
  generalize w2.heap.size = g
  clear b1 b2 t1 t2 B2 w1 w2
  intro W hW
  go_wp2_with (refine wpList_load_row rfl 28 _ rfl g rfl 28 _ (0, 0) _ hW.1 Tryd.underlying28 rfl (stA_info _) ?_)
  have t1 := hW.2.2.1
  (with_reducible refine (H2.out _ t1).mono ?_)
  rintro e w2 ⟨rfl, b2⟩
  have hW2 := hW.below b2
  go_upto_region 3 with (refine wpList_store_row rfl 28 _ _ rfl g (stA lab) rfl rfl 28 _ hW2.1 (stA_info _) (by rw [stA_size, stA_size]) (stA_one _) ?_)
  refine wp_forget (PW1 g (stA lab) w) (hW2.row ht.1 _) ?_
  clear hW hW2 b2 t1 w2 W
  intro W hW
  go_wp2_with (refine wpList_load_row rfl 28 _ rfl g rfl 28 _ (0, 0) _ hW.1 Tryd.underlying28 rfl (stA_info _) ?_)
  have t1 := hW.2.2.1
  (with_reducible refine (H3.out _ t1).mono ?_)
  rintro e w2 ⟨rfl, b2⟩
  have hW2 := hW.below b2
  go_upto_region 4 with (refine wpList_store_row rfl 28 _ _ rfl g (stA labc) rfl rfl 28 _ hW2.1 (stA_info _) (by rw [stA_size, stA_size]) (stA_one _) ?_)
  refine wp_forget (PW1 g (stA labc) w) (hW2.row ht.1 _) ?_
  clear hW hW2 b2 t1 w2 W
  intro W hW
  go_wp2_with (refine wpList_load_row rfl 28 _ rfl g rfl 28 _ (0, 0) _ hW.1 Tryd.underlying28 rfl (stA_info _) ?_)
  have t1 := hW.2.2.1
  (with_reducible refine (H5.out _ t1).mono ?_)
  rintro e w2 ⟨rfl, b2⟩
  have hW2 := hW.below b2
  go_upto_region 5 with fail
  refine wp_forget (PW1 g (stA labc) w) hW2 ?_
  clear hW hW2 b2 t1 w2 W
  intro W hW
  go_wp2_with fail
  (with_reducible refine (Begin_A _).mono ?_)
  rintro e w1 ⟨rfl, b1⟩
  have hW1 := hW.below b1
  have t1 := hW1.2.2.1
  go_wp2_with fail
  (with_reducible refine (H4.out _ t1).mono ?_)
  rintro e w2 ⟨rfl, b2⟩
  have hW2 := hW1.below b2
  go_upto_region 6 with (refine wpList_store_row rfl 28 _ _ rfl w2.heap.size (stA labc) rfl rfl 28 zeroS (Arr.new w2 _ _) (stA_info _) (by rw [stA_size]; rfl) (stA_one _) ?_)
  have hP := PW1.start (A := stA labc) hW2.2.2.1 hW2.2.2.2 ht.1
  refine wp_forget (fun W => PW1 g (stA labc) w W ∧ PW1 w2.heap.size (stA labc) w W) ⟨⟨(hW2.1.alloc _).row_far (Nat.ne_of_gt hW2.1.lt) _, hW2.2.1, hP.2.2⟩, hP⟩ ?_
  generalize w2.heap.size = g2
  clear hP hW hW1 hW2 b1 b2 t1 w1 w2 W
  rintro W ⟨hW, hV⟩
  go_wp2_with (first
    | (refine wpList_load_row_w rfl 28 _ rfl g rfl 28 _ (0, 0) _ hW.1 Tryd.underlying28 rfl (stA_info _) ?_)
    | (refine wpList_load_row_w rfl 28 _ rfl g2 rfl 28 _ (0, 0) _ hV.1 Tryd.underlying28 rfl (stA_info _) ?_)
    | (refine wpList_binop_w rfl .eql 28 _ _ _ rfl (.agg (stA labc)) (.agg (stA labc)) (.bool true) rfl rfl (eqGuardS _ _ _ _ _) (Hq.out _) ?_))
  have t1 := hW.2.2.1
  (with_reducible refine (H6.out _ t1).mono ?_)
  rintro e w2 ⟨rfl, b2⟩
  have hW2 := hW.below b2
  go_wp2_with (refine wpList_load_row_w rfl 28 _ rfl g rfl 28 _ (0, 0) _ hW2.1 Tryd.underlying28 rfl (stA_info _) ?_)
  (with_reducible refine (H7.out _).mono ?_)
  rintro e w3 ⟨rfl, b3⟩
  have hW3 := hW2.below b3
  have t3 := hW3.2.2.1
  go_wp2_with fail
  (with_reducible refine (abc_any _ t3).mono ?_)
  rintro e w4 ⟨rfl, b4⟩
  have hW4 := hW3.below b4
  go_wp2_with fail
  go_ret
  exact ⟨rfl, hW4.2.2.2⟩
end Go.Proofs.YtngfgmcnpbjefaaDoor
