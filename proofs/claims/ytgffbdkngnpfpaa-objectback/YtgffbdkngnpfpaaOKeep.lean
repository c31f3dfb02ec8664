/- keep.objects, keep.ObjectBack, keep.ObjectOnly, keep.ObjectCut: the walks. -/
import Derived.Test.YtgffbdkngnpfpaaOPure
import Derived.Test.YtgffbdkngnpfpaaOEncB
import Derived.Test.YtgffbdkngnpfpaaOSameB
import Derived.Test.YtgffbdkngnpfpaaOPick
namespace Go.Proofs.Ytgffbdkngnpfpaa
open Go.RowKit

section
variable {P : Program} {ops : Array Oper} {rest : List Oper} {o : Oper} {a : Act} {w : World} {Q : Exit → Act → World → Prop}
/-- a whole row is loaded, where the guard says yes -/
theorem wpList_load_row_w (hw : Region.wanted o (yielded ops a.tmps) = true) (ty : TypeId) (x : Operand) (ho : o.op = .load ty x)
    (g : Nat) (hx : a.eval x = .pointer (some ⟨g, 0, none⟩)) (t : TypeId) (cs : Array Value) (fr : Nat × Nat) (d : TypeDesc) (hg : w.heap[g]? = some (.cells cs t fr))
    (hu : P.underlying ty = some d) (hd : (match d with | .struct _ | .array _ _ => true | _ => false) = true) (hi : (P.info? ty).map (·.size) = some cs.size)
    (h : wpList P ops Q rest (a.put o.dst (.agg cs)) w) : wpList P ops Q (o :: rest) a w :=
  BigFrame.wpList_want hw fun _ hK => wp_load_row ty x ho g hx t cs fr d hg hu hd hi (hK _ _ h)
end
def blobA : Ob := ⟨1, ⟨#[97]⟩, [], ⟨#[]⟩, [], ⟨#[]⟩, ⟨#[]⟩, 0, ⟨#[]⟩⟩
theorem nil_yes : nilB ⟨#[]⟩ = true := (nilB_iff _).2 rfl
theorem blobA_good : good blobA = 0 := by
  have h1 : strayB blobA = false := by unfold strayB blobA; simp only; rw [nil_yes]; rfl
  unfold good
  rw [h1]
  rfl
theorem blobA_enc : encL blobA = [1, 1, 97] := by
  unfold encL fieldsL txt blobA
  simp only
  rw [if_pos True.intro, num_small _ (by decide), num_small _ (by decide)]
  rfl
theorem blobA_S : encS blobA = ⟨#[1, 1, 97]⟩ := by
  unfold encS
  rw [if_neg (by rw [blobA_good]; simp), blobA_enc, if_neg (by decide)]
  rfl
theorem blobA_E : encE blobA = 0 := by
  unfold encE
  rw [if_neg (by rw [blobA_good]; simp), blobA_enc, if_neg (by decide)]
theorem blobIn (W : World) (B : Nat) : ObIn W B blobA atNil := ⟨Ens.nil _ _ _, Txs.nil _ _ _, Nat.le_refl _⟩
theorem blobA_any (w : World) : Calls Try.prog 7 #[.agg #[.int .i64 1, .string ⟨#[97]⟩, .slice none 0 0, .string ⟨#[]⟩, .slice none 0 0, .string ⟨#[]⟩, .string ⟨#[]⟩, .int .i64 0, .string ⟨#[]⟩]] w
    fun e w' => e = .returned (.tuple #[.string ⟨#[1, 1, 97]⟩, .int .i64 0]) ∧ Below w.heap.size w w' := by
  have q := Encode_any blobA atNil w (blobIn _ _)
  rw [blobA_S, blobA_E] at q
  exact q
theorem objects_keep (w : World) : Calls Try.prog 16 #[] w fun e w' => e = .returned (.bool true) ∧ Below w.heap.size w w' := by
  go_enter Try.func16, Try.ntmps16
  go_wp2_with fail
  have q := blobA_any w
  (with_reducible refine q.mono ?_)
  clear q
  rintro _ w1 ⟨rfl, b1⟩
  go_wp2_with fail
  go_ret
  exact ⟨rfl, b1⟩

theorem enc_bad {o : Ob} (h : encE o ≠ 0) : encS o = ⟨#[]⟩ := by
  unfold encE at h
  unfold encS
  split
  · rfl
  · rename_i h1
    rw [if_neg h1] at h
    split
    · rfl
    · rename_i h2; rw [if_neg h2] at h; exact absurd rfl h
theorem enc_ok {o : Ob} (h : encE o = 0) : good o = 0 ∧ (encL o).length ≤ 8192 ∧ encS o = bs (encL o) := by
  unfold encE at h
  unfold encS
  split at h
  · rename_i h1; exact absurd h h1
  · rename_i h1
    split at h
    · cases h
    · rename_i h2
      exact ⟨by simpa using h1, by omega, by rw [if_neg h1, if_neg h2]⟩
theorem ok_enc {o : Ob} (h : good o = 0) (hl : (encL o).length ≤ 8192) : encE o = 0 ∧ encS o = bs (encL o) := by
  refine ⟨?_, ?_⟩
  · unfold encE
    rw [if_neg (by simp [h]), if_neg (by omega)]
  · unfold encS
    rw [if_neg (by simp [h]), if_neg (by omega)]
theorem enc_back {o : Ob} (h : encE o = 0) : decO (encS o).data.toList = (o, 0) := by
  obtain ⟨h1, h2, h3⟩ := enc_ok h
  rw [h3, bs_list]
  exact dec_enc h1 h2
theorem enc_size {o : Ob} (h : encE o = 0) : (encS o).size ≤ 8192 ∧ 0 < (encS o).size := by
  obtain ⟨h1, h2, h3⟩ := enc_ok h
  rw [h3, bs_size]
  refine ⟨h2, ?_⟩
  unfold encL
  rw [List.length_append]
  have := num_pos o.kind.toNat
  omega

set_option maxRecDepth 100000 in
set_option maxHeartbeats 2000000 in
theorem ObjectBack_any (o : Ob) (p : At) (w : World) (hO : ObIn w w.heap.size o p) :
    Calls Try.prog 4 #[.agg (obArr o p)] w fun e w' => e = .returned (.bool true) ∧ Below w.heap.size w w' := by
  have h1 := Lib.hid (Bx.start hO)
  have CE := fun W h => Lib.hid (Encode_any o p W h)
  have HB := fun h => Lib.hid (enc_bad (o := o) h)
  have HK := fun h => Lib.hid (enc_back (o := o) h)
  have HZ := fun h => Lib.hid (enc_size (o := o) h)
  have HOk := fun h => Lib.hid (enc_ok (o := o) h)
  clear hO
  generalize encS o = S at *
  generalize encE o = E at *
  generalize hA : obArr o p = arr at *
  have HA := Lib.hid hA
  clear hA
  go_enter Try.func4, Try.ntmps4
  go_upto_region 1 with fail
  refine wp_forget (Bx w o p) h1.out ?_
  clear h1
  intro W hW
  have hA := HA.out
  clear HA
  subst hA
  go_wp2_with (refine wpList_load_row rfl 25 _ rfl w.heap.size rfl 25 _ (0, 0) _ hW.1 Try.underlying25 rfl (obInfo o p) ?_)
  have q := (CE W (hW.2.1.mono hW.2.2.size)).out
  (with_reducible refine q.mono ?_)
  clear q CE
  rintro _ W2 ⟨rfl, b2⟩
  have hW2 := hW.below b2
  clear hW b2
  cases hE : E != 0
  case true =>
    have hS := (HB (by simpa using hE)).out
    subst hS
    clear HB HK HZ HOk
    go_wp2_with fail
    have q := objects_keep W2
    (with_reducible refine q.mono ?_)
    clear q
    rintro _ W3 ⟨rfl, b3⟩
    go_wp2_with fail
    go_ret
    exact ⟨rfl, (hW2.below b3).2.2⟩
  have hE0 : E = 0 := by simpa using hE
  subst hE0
  have hz := (HZ rfl).out
  have hg0 := (HOk rfl).out.1
  have hF := good_facts hg0
  have CD := fun W => Lib.hid (Decode_any S W)
  rw [(HK rfl).out] at CD
  have HG := fun W h => Lib.hid (Good_any o p W h)
  rw [hg0] at HG
  have CS := fun q W h1 h2 => Lib.hid (sameObject_any o o q p (by have := hF.ents; omega) (by have := hF.ents; omega) (by have := hF.pars; omega) (by have := hF.pars; omega) W h1 h2)
  rw [decide_eq_true rfl] at CS
  clear HB HK HZ HOk hg0 hF hE
  have hsz : (S.size : Int) ≤ 8192 := by omega
  go_wp2_with fail
  have q := (CD W2).out
  (with_reducible refine q.mono ?_)
  clear q CD
  rintro _ W3 ⟨p2, rfl, hO2, b3⟩
  have hW3 := hW2.below b3
  clear hW2 b3
  go_upto_region 5 with (refine wpList_store_row rfl 25 _ _ rfl W3.heap.size (obArr o p2) rfl rfl 25 zeroO (Arr.new W3 _ _) (obInfo _ _) rfl (obArr_one _ _) ?_)
  have bel : Below W3.heap.size W3 ((W3.alloc (.cells zeroO 25)).setRow W3.heap.size (obArr o p2)) := below_setRow ((Below.refl _ _).alloc (Nat.le_refl _) _) (Nat.le_refl _) _
  refine wp_forget (fun W => Bx w o p W ∧ Arr W W3.heap.size 25 (obArr o p2) ∧ ObIn W W.heap.size o p2) ⟨hW3.below bel, (Arr.new W3 _ _).row _, (hO2.below bel).mono bel.size⟩ ?_
  clear bel hO2 hW3
  generalize W3.heap.size = b at *
  clear W3 W2
  rintro W3 ⟨hW3, hX3, hO3⟩
  go_wp2_with (first
    | (refine wpList_load_row_w rfl 25 _ rfl b rfl 25 _ (0, 0) _ hX3 Try.underlying25 rfl (obInfo _ _) ?_)
    | (refine wpList_load_row_w rfl 25 _ rfl w.heap.size rfl 25 _ (0, 0) _ hW3.1 Try.underlying25 rfl (obInfo _ _) ?_))
  have q := (CS p2 W3 hO3 (hW3.2.1.mono hW3.2.2.size)).out
  (with_reducible refine q.mono ?_)
  clear q CS
  rintro _ W4 ⟨rfl, b4⟩
  have hW4 := hW3.below b4
  clear hW3 b4 hX3 hO3
  go_wp2_with (refine wpList_load_row_w rfl 25 _ rfl w.heap.size rfl 25 _ (0, 0) _ hW4.1 Try.underlying25 rfl (obInfo _ _) ?_)
  have q := (HG W4 (hW4.2.1.mono hW4.2.2.size)).out
  (with_reducible refine q.mono ?_)
  clear q HG
  rintro _ W5 ⟨rfl, b5⟩
  have hW5 := hW4.below b5
  clear hW4 b5
  go_wp2_with fail
  have q := objects_keep W5
  (with_reducible refine q.mono ?_)
  clear q
  rintro _ W6 ⟨rfl, b6⟩
  go_wp2_with fail
  go_ret
  exact ⟨rfl, (hW5.below b6).2.2⟩

set_option maxRecDepth 100000 in
set_option maxHeartbeats 2000000 in
theorem ObjectOnly_any (s : ByteArray) (w : World) : Calls Try.prog 5 #[.string s] w fun e w' => e = .returned (.bool true) ∧ Below w.heap.size w w' := by
  have CD := Lib.hid (Decode_any s w)
  have HN := Lib.hid (fun h => dec_none (l := s.data.toList) h)
  have HO := Lib.hid (fun h => dec_only (l := s.data.toList) h)
  generalize (decO s.data.toList).1 = o at *
  generalize (decO s.data.toList).2 = E at *
  go_enter Try.func5, Try.ntmps5
  go_wp2_with fail
  (with_reducible refine CD.out.mono ?_)
  clear CD
  rintro _ W3 ⟨p2, rfl, hO2, b3⟩
  go_upto_region 2 with (refine wpList_store_row rfl 25 _ _ rfl W3.heap.size (obArr o p2) rfl rfl 25 zeroO (Arr.new W3 _ _) (obInfo _ _) rfl (obArr_one _ _) ?_)
  have bel : Below W3.heap.size W3 ((W3.alloc (.cells zeroO 25)).setRow W3.heap.size (obArr o p2)) := below_setRow ((Below.refl _ _).alloc (Nat.le_refl _) _) (Nat.le_refl _) _
  refine wp_forget (fun W => Arr W W3.heap.size 25 (obArr o p2) ∧ ObIn W W.heap.size o p2 ∧ Below w.heap.size w W) ⟨(Arr.new W3 _ _).row _, (hO2.below bel).mono bel.size, b3.trans (bel.mono b3.size)⟩ ?_
  clear bel hO2 b3
  generalize W3.heap.size = b at *
  clear W3
  rintro W ⟨hX, hO, hB⟩
  cases hE : E != 0
  case true =>
    have e1 := HN.out (by simpa using hE)
    have e1' := e1
    subst e1'
    clear HN HO e1
    have CS := Lib.hid (sameObject_any Ob.none Ob.none p2 atNil (Nat.zero_le _) (Nat.zero_le _) (Nat.zero_le _) (Nat.zero_le _) W hO (noneIn _ _))
    rw [decide_eq_true rfl] at CS
    have CS2 : Hid (Calls Try.prog 18 #[.agg (obArr Ob.none p2), .agg zeroO] W fun e w' => e = .returned (.bool true) ∧ Below W.heap.size W w') := CS.out
    unfold zeroO at CS2
    clear CS
    go_wp2_with (refine wpList_load_row rfl 25 _ rfl b rfl 25 _ (0, 0) _ hX Try.underlying25 rfl (obInfo _ _) ?_)
    (with_reducible refine CS2.out.mono ?_)
    clear CS2
    rintro _ W4 ⟨rfl, b4⟩
    have hB4 := hB.trans (b4.mono hB.size)
    clear hX hO hB b4
    go_wp2_with fail
    have q := objects_keep W4
    (with_reducible refine q.mono ?_)
    clear q
    rintro _ W6 ⟨rfl, b6⟩
    go_wp2_with fail
    go_ret
    exact ⟨rfl, hB4.trans (b6.mono hB4.size)⟩
  have hE0 : E = 0 := by simpa using hE
  subst hE0
  obtain ⟨hl, hg, hlen⟩ := HO.out rfl
  have CE := Encode_any o p2 W hO
  obtain ⟨x1, x2⟩ := ok_enc hg (by rw [← hl]; exact hlen)
  rw [x1, x2, ← hl, bs_of] at CE
  have HC := Lib.hid CE
  clear CE x1 x2 hl hg hlen HN HO hE
  go_wp2_with (refine wpList_load_row rfl 25 _ rfl b rfl 25 _ (0, 0) _ hX Try.underlying25 rfl (obInfo _ _) ?_)
  (with_reducible refine HC.out.mono ?_)
  clear HC
  rintro _ W4 ⟨rfl, b4⟩
  have hB4 := hB.trans (b4.mono hB.size)
  clear hX hO hB b4
  go_wp2_with fail
  have q := objects_keep W4
  (with_reducible refine q.mono ?_)
  clear q
  rintro _ W6 ⟨rfl, b6⟩
  go_wp2_with fail
  go_ret
  exact ⟨rfl, hB4.trans (b6.mono hB4.size)⟩
end Go.Proofs.Ytgffbdkngnpfpaa
