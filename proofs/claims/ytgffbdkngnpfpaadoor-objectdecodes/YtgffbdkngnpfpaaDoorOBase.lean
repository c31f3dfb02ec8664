/- Texts in one: OEncB, OBase. -/
import Derived.Test.YtgffbdkngnpfpaaDoorODec
import Derived.Test.YtgffbdkngnpfpaaDoorOGoodC
import Derived.Test.YtgffbdkngnpfpaaDoorOPure
/- object.Encode: its contract. -/
namespace Go.Proofs.YtgffbdkngnpfpaaDoor
open Go.RowKit

/-- an object's box beside a writer -/
def Bw (g b : Nat) (o : Ob) (p : At) (W : World) : Prop := Arr W b 25 (obArr o p) ∧ b ≠ g ∧ b < W.heap.size
theorem Bw.kept {g b : Nat} {o : Ob} {p : At} {W W' : World} (h : Bw g b o p W) (k : W.grownBy W' (some g)) : Bw g b o p W' :=
  ⟨h.1.kept k (fun e => h.2.1 (by cases e; rfl)), h.2.1, Nat.lt_of_lt_of_le h.2.2 k.size⟩
set_option maxRecDepth 100000 in
set_option maxHeartbeats 2000000 in
theorem writeFields_any (o : Ob) (p : At) (hF : GoodF o) (g B : Nat) (hg : B ≤ g) (l : List UInt8) (hll : l.length ≤ 100) (w : World) (hO : ObIn w B o p) (hw : WL w g l) :
    Calls Tryd.prog 32 #[.pointer (some ⟨g, 0, none⟩), .agg (obArr o p)] w (Wrote w g (l ++ fieldsL o)) := by
  have hgw := hw.lt
  have h1 : Hid (Bw g w.heap.size o p (w.alloc (.cells (obArr o p) 25)) ∧ WL (w.alloc (.cells (obArr o p) 25)) g l ∧ w.grownBy (w.alloc (.cells (obArr o p) 25)) (some g)) :=
    ⟨⟨Arr.new _ _ _, by omega, by simp⟩, hw.below ((Below.refl _ _).alloc (Nat.le_refl _) _), gb_alloc _⟩
  have hTree := Lib.hid hF.tree
  have hTarget := Lib.hid hF.target
  have hE := Lib.hid (entsB_all o.ents _ hF.each)
  have hPar := Lib.hid (parsE_all o.pars _ hF.ids)
  obtain ⟨hk, _, hd, hwh, hno, hen, hpa, _, _, _, _, ht0, ht1⟩ := hF
  clear hw
  generalize hb : w.heap.size = b at *
  generalize hA : obArr o p = arr at *
  have HA := Lib.hid hA
  clear hA
  unfold fieldsL
  go_enter Tryd.func32, Tryd.ntmps32
  go_upto_region 1 with fail
  refine wp_forget (fun W => Bw g b o p W ∧ WL W g l ∧ w.grownBy W (some g)) h1.out ?_
  clear h1
  rintro W ⟨hX, hW, hK⟩
  have hOW := fun W (k : w.grownBy W (some g)) => hO.below (below_gb (B := B) (Below.refl _ w) k hg (by omega))
  have HOW := Lib.hid hOW
  clear hOW hO
  have hbg : some b ≠ some g := fun e => hX.2.1 (by cases e; rfl)
  have c0 : W.cell? ⟨b, 0, none⟩ = some (.int .i64 o.kind) := hX.1.cell 0
  rcases hk with hk | hk | hk | hk
  · rw [hk] at c0 ⊢
    have c1 : W.cell? ⟨b, 1, none⟩ = some (.string o.data) := hX.1.cell 1
    go_wp2_with fail
    (with_reducible refine (wl_text g l o.data hd (by omega) _ hW).mono ?_)
    rintro _ w2 ⟨rfl, hW2, k2⟩
    go_wp2_with fail
    go_end0
    exact ⟨rfl, hW2, gb_trans hK k2⟩
  · rw [hk] at c0 ⊢
    have c1 : W.cell? ⟨b, 2, none⟩ = some (.slice p.ea o.ents.length p.ec) := hX.1.cell 2
    have C := Lib.hid (writeEntries_any o.ents hen hE.out p.ea p.ec g B hg l (by omega) W (HOW.out W hK).ents hW)
    go_wp2_with fail
    (with_reducible refine C.out.mono ?_)
    rintro _ w2 ⟨rfl, hW2, k2⟩
    go_wp2_with fail
    go_end0
    rw [List.append_assoc] at hW2
    exact ⟨rfl, hW2, gb_trans hK k2⟩
  · rw [hk] at c0 ⊢
    have c1 : W.cell? ⟨b, 3, none⟩ = some (.string o.tree) := hX.1.cell 3
    have ht := hTree.out hk
    have n1 := num_len3 o.pars.length (by omega)
    have n2 := parsL_len o.pars hPar.out
    have n3 := txt_len o.who hwh
    have n4 := num_len9 o.time.toNat (by omega)
    have n0 : o.tree.data.toList.length = 32 := ht
    have htime : Hid (o.time = (o.time.toNat : Int)) := by show _ = _; omega
    go_wp2_with fail
    (with_reducible refine (wl_bytes g l o.tree (by omega) (by omega) _ hW).mono ?_)
    rintro _ w2 ⟨rfl, hW2, k2⟩
    have hX2 := hX.kept k2
    have hK2 := gb_trans hK k2
    clear hX hW hK k2 c0 c1
    have c4 : w2.cell? ⟨b, 4, none⟩ = some (.slice p.pa o.pars.length p.pc) := hX2.1.cell 4
    have C := Lib.hid (writeParents_any o.pars hpa hPar.out p.pa p.pc g B hg _ (by rw [List.length_append]; omega) w2 (HOW.out w2 hK2).pars hW2)
    go_wp2_with fail
    (with_reducible refine C.out.mono ?_)
    rintro _ w3 ⟨rfl, hW3, k3⟩
    have hX3 := hX2.kept k3
    have hK3 := gb_trans hK2 k3
    clear hX2 hW2 hK2 k3 c4 C
    have c5 : w3.cell? ⟨b, 5, none⟩ = some (.string o.who) := hX3.1.cell 5
    go_wp2_with fail
    (with_reducible refine (wl_text g _ o.who hwh (by simp only [List.length_append]; omega) _ hW3).mono ?_)
    rintro _ w4 ⟨rfl, hW4, k4⟩
    have hX4 := hX3.kept k4
    have hK4 := gb_trans hK3 k4
    clear hX3 hW3 hK3 k4 c5
    have c7 : w4.cell? ⟨b, 7, none⟩ = some (.int .i64 o.time) := hX4.1.cell 7
    have q := wl_number g _ o.time.toNat (by omega) (by simp only [List.length_append]; omega) _ hW4
    rw [← htime.out] at q
    have Q := Lib.hid q
    clear q
    go_wp2_with fail
    (with_reducible refine Q.out.mono ?_)
    rintro _ w5 ⟨rfl, hW5, k5⟩
    have hX5 := hX4.kept k5
    have hK5 := gb_trans hK4 k5
    clear hX4 hW4 hK4 k5 c7
    have c6 : w5.cell? ⟨b, 6, none⟩ = some (.string o.note) := hX5.1.cell 6
    go_wp2_with fail
    (with_reducible refine (wl_text g _ o.note hno (by simp only [List.length_append]; omega) _ hW5).mono ?_)
    rintro _ w6 ⟨rfl, hW6, k6⟩
    go_wp2_with fail
    go_end0
    simp only [List.append_assoc] at hW6 ⊢
    exact ⟨rfl, hW6, gb_trans hK5 k6⟩
  · rw [hk] at c0 ⊢
    have c1 : W.cell? ⟨b, 8, none⟩ = some (.string o.target) := hX.1.cell 8
    have ht := hTarget.out hk
    have n3 := txt_len o.who hwh
    have n0 : o.target.data.toList.length = 32 := ht
    go_wp2_with fail
    (with_reducible refine (wl_bytes g l o.target (by omega) (by omega) _ hW).mono ?_)
    rintro _ w2 ⟨rfl, hW2, k2⟩
    have hX2 := hX.kept k2
    have hK2 := gb_trans hK k2
    clear hX hW hK k2 c0 c1
    have c5 : w2.cell? ⟨b, 5, none⟩ = some (.string o.who) := hX2.1.cell 5
    go_wp2_with fail
    (with_reducible refine (wl_text g _ o.who hwh (by simp only [List.length_append]; omega) _ hW2).mono ?_)
    rintro _ w4 ⟨rfl, hW4, k4⟩
    have hX4 := hX2.kept k4
    have hK4 := gb_trans hK2 k4
    clear hX2 hW2 hK2 k4 c5
    have c6 : w4.cell? ⟨b, 6, none⟩ = some (.string o.note) := hX4.1.cell 6
    go_wp2_with fail
    (with_reducible refine (wl_text g _ o.note hno (by simp only [List.length_append]; omega) _ hW4).mono ?_)
    rintro _ w6 ⟨rfl, hW6, k6⟩
    go_wp2_with fail
    go_end0
    simp only [List.append_assoc] at hW6 ⊢
    exact ⟨rfl, hW6, gb_trans hK4 k6⟩

theorem encL_len {o : Ob} (h : GoodF o) : (encL o).length ≤ 100000 := by
  have n1 := num_len3 o.pars.length (by have := h.pars; omega)
  have n2 := parsL_len o.pars (parsE_all _ _ h.ids)
  have n3 := txt_len o.who h.who
  have n4 := txt_len o.note h.note
  have n5 := txt_len o.data h.data
  have n6 := num_len9 o.time.toNat (by have := h.late; omega)
  have n7 := num_len3 o.ents.length (by have := h.ents; omega)
  have n8 := entsL_len o.ents (entsB_all _ _ h.each)
  have n9 := num_len3 o.kind.toNat (by have := h.kind; omega)
  have := h.ents
  have := h.pars
  unfold encL fieldsL
  rcases h.kind with hk | hk | hk | hk
  · rw [if_pos hk, List.length_append]; omega
  · rw [if_neg (by omega), if_pos hk]; simp only [List.length_append]; omega
  · rw [if_neg (by omega), if_neg (by omega), if_pos hk]
    have e : o.tree.data.toList.length = 32 := h.tree hk
    simp only [List.length_append]; omega
  · rw [if_neg (by omega), if_neg (by omega), if_neg (by omega)]
    have e : o.target.data.toList.length = 32 := h.target hk
    simp only [List.length_append]; omega
theorem wl_new (w : World) : WL (w.alloc (.cells #[.pointer none, .int .i64 0, .int .i64 0] 59)) w.heap.size [] := ⟨[], ⟨.pointer none, Arr.new _ _ _, rfl⟩, rfl⟩
/-- where Encode stands, its writer made -/
def EW (w : World) (g : Nat) (o : Ob) (p : At) (l : List UInt8) (W : World) : Prop :=
  Bx w o p W ∧ WL W g l ∧ w.heap.size < g
theorem EW.wrote {w W W' : World} {g : Nat} {o : Ob} {p : At} {l l' : List UInt8} (h : EW w g o p l W) (h' : WL W' g l') (k : W.grownBy W' (some g)) : EW w g o p l' W' :=
  ⟨⟨h.1.1.kept k (fun e => by cases e; exact Nat.lt_irrefl _ h.2.2), h.1.2.1.below (below_gb (Below.refl _ _) k (Nat.le_of_lt h.2.2) h.1.2.2.size), below_gb h.1.2.2 k (Nat.le_of_lt h.2.2) h.1.2.2.size⟩, h', h.2.2⟩

set_option maxRecDepth 100000 in
set_option maxHeartbeats 2000000 in
theorem Encode_any (o : Ob) (p : At) (w : World) (hO : ObIn w w.heap.size o p) :
    Calls Tryd.prog 11 #[.agg (obArr o p)] w fun e w' => e = .returned (.tuple #[.string (encS o), .int .i64 (encE o)]) ∧ Below w.heap.size w w' := by
  have h1 := Lib.hid (Bx.start hO)
  have CG := fun W => Lib.hid (Good_any o p W)
  obtain ⟨S, HS⟩ : ∃ S, Hid (S = encS o) := ⟨_, rfl⟩
  obtain ⟨E, HE⟩ : ∃ E, Hid (E = encE o) := ⟨_, rfl⟩
  rw [← HS.out, ← HE.out]
  clear hO
  generalize hA : obArr o p = arr at *
  have HA := Lib.hid hA
  clear hA
  go_enter Tryd.func11, Tryd.ntmps11
  go_upto_region 1 with fail
  refine wp_forget (Bx w o p) h1.out ?_
  clear h1
  intro W hW
  have hA := HA.out
  clear HA
  subst hA
  go_wp2_with (refine wpList_load_row rfl 25 _ rfl w.heap.size rfl 25 _ (0, 0) _ hW.1 Tryd.underlying25 rfl (obInfo o p) ?_)
  have q := (CG W).out (hW.2.1.mono hW.2.2.size)
  (with_reducible refine q.mono ?_)
  clear q CG
  rintro _ W2 ⟨rfl, b2⟩
  have hW2 := hW.below b2
  clear hW b2
  have HF : Hid (good o = 0 → GoodF o) := good_facts
  unfold encS at HS
  unfold encE at HE
  generalize good o = G at *
  cases hG : G != 0
  case true =>
    have hG2 : G ≠ 0 := by simpa using hG
    go_wp2_with fail
    go_ret2
    exact ⟨by rw [HS.out, HE.out, if_pos hG2, if_pos hG2]; rfl, hW2.2.2⟩
  have hG2 : G = 0 := by simpa using hG
  have hF := HF.out hG2
  subst hG2
  clear HF hG
  rw [if_neg (by simp)] at HS HE
  have hk : Hid (o.kind = (o.kind.toNat : Int)) := by show _ = _; have := hF.kind; omega
  have hk2 : o.kind.toNat < 128 := by have := hF.kind; omega
  have HFF := Lib.hid hF
  clear hF
  go_upto_region 5 with fail
  refine wp_forget (EW w W2.heap.size o p []) ⟨hW2.below ((Below.refl _ _).alloc (Nat.le_refl _) _), wl_new W2, hW2.1.lt⟩ ?_
  generalize W2.heap.size = g
  clear hW2 W W2
  intro W hW
  have c0 : W.cell? ⟨w.heap.size, 0, none⟩ = some (.int .i64 o.kind) := hW.1.1.cell 0
  have q := wl_number g [] o.kind.toNat (by omega) (by simp) _ hW.2.1
  rw [← hk.out] at q
  have Q := Lib.hid q
  clear q
  go_wp2_with fail
  (with_reducible refine Q.out.mono ?_)
  rintro _ W2 ⟨rfl, h2, k2⟩
  have hW2 := hW.wrote h2 k2
  clear hW c0 h2 k2
  go_wp2_with (refine wpList_load_row rfl 25 _ rfl w.heap.size rfl 25 _ (0, 0) _ hW2.1.1 Tryd.underlying25 rfl (obInfo o p) ?_)
  have q := writeFields_any o p HFF.out g w.heap.size (Nat.le_of_lt hW2.2.2) _ (by rw [List.nil_append]; have := num_len3 o.kind.toNat (by omega); omega) W2 hW2.1.2.1 hW2.2.1
  (with_reducible refine q.mono ?_)
  clear q
  rintro _ W3 ⟨rfl, h3, k3⟩
  have hW3 := hW2.wrote h3 k3
  clear hW2 h3 k3
  have hE : Hid ([] ++ num o.kind.toNat ++ fieldsL o = encL o) := by show _ = _; rw [List.nil_append]; rfl
  rw [hE.out] at hW3
  clear hE
  have hlen : (encL o).length ≤ 100000 := encL_len HFF.out
  generalize encL o = L at *
  clear HFF hk hk2
  obtain ⟨ps, hok, rfl⟩ := hW3.2.1
  go_wp2_with fail
  (with_reducible refine (Done_ok g ps (by omega) W3 hok).mono ?_)
  rintro _ W4 ⟨rfl, b4⟩
  have hB4 := hW3.1.2.2.trans (b4.mono hW3.1.2.2.size)
  have hsz : (bs (cat ps)).size = (cat ps).length := bs_size _
  by_cases hl : 8192 < (cat ps).length
  · rw [if_pos hl] at HS HE
    have hl2 : (8192 : Int) < (bs (cat ps)).size := by omega
    generalize bs (cat ps) = R at *
    go_wp2_with fail
    go_ret2
    exact ⟨by rw [HS.out, HE.out]; rfl, hB4⟩
  · rw [if_neg hl] at HS HE
    have hl2 : ¬ (8192 : Int) < (bs (cat ps)).size := by omega
    generalize bs (cat ps) = R at *
    go_wp2_with fail
    go_ret2
    exact ⟨by rw [HS.out, HE.out]; rfl, hB4⟩
end Go.Proofs.YtgffbdkngnpfpaaDoor

/- What the walks of the laws on objects share. -/
namespace Go.Proofs.YtgffbdkngnpfpaaDoor
open Go.RowKit

section
variable {P : Program} {ops : Array Oper} {rest : List Oper} {o : Oper} {a : Act} {w : World} {Q : Exit → Act → World → Prop}
/-- a whole row is loaded, where the guard says yes -/
theorem wpList_load_row_w (hw : Region.wanted o (yielded ops a.tmps) = true) (ty : TypeId) (x : Operand) (ho : o.op = .load ty x)
    (g : Nat) (hx : a.eval x = .pointer (some ⟨g, 0, none⟩)) (t : TypeId) (cs : Array Value) (fr : Nat × Nat) (d : TypeDesc) (hg : w.heap[g]? = some (.cells cs t fr))
    (hu : P.underlying ty = some d) (hd : (match d with | .struct _ | .array _ _ => true | _ => false) = true) (hi : (P.info? ty).map (·.size) = some cs.size)
    (h : wpList P ops Q rest (a.put o.dst (.agg cs)) w) : wpList P ops Q (o :: rest) a w :=
  BigFrame.wpList_want hw fun _ hK => wp_load_row ty x ho g hx t cs fr d hg hu hd hi (hK _ _ h)
end
def blobA : Ob := ⟨1, ⟨#[97]⟩, [], ⟨#[]⟩, [], ⟨#[]⟩, ⟨#[]⟩, 0, ⟨#[]⟩⟩
theorem nil_yes : nilB ⟨#[]⟩ = true := (nilB_iff _).2 rfl
theorem blobA_good : good blobA = 0 := by
  have h1 : strayB blobA = false := by unfold strayB blobA; simp only; rw [nil_yes]; rfl
  unfold good
  rw [h1]
  rfl
theorem blobA_enc : encL blobA = [1, 1, 97] := by
  unfold encL fieldsL txt blobA
  simp only
  rw [if_pos True.intro, num_small _ (by decide), num_small _ (by decide)]
  rfl
theorem blobA_S : encS blobA = ⟨#[1, 1, 97]⟩ := by
  unfold encS
  rw [if_neg (by rw [blobA_good]; simp), blobA_enc, if_neg (by decide)]
  rfl
theorem blobA_E : encE blobA = 0 := by
  unfold encE
  rw [if_neg (by rw [blobA_good]; simp), blobA_enc, if_neg (by decide)]
theorem blobIn (W : World) (B : Nat) : ObIn W B blobA atNil := ⟨Ens.nil _ _ _, Txs.nil _ _ _, Nat.le_refl _⟩
theorem blobA_any (w : World) : Calls Tryd.prog 11 #[.agg #[.int .i64 1, .string ⟨#[97]⟩, .slice none 0 0, .string ⟨#[]⟩, .slice none 0 0, .string ⟨#[]⟩, .string ⟨#[]⟩, .int .i64 0, .string ⟨#[]⟩]] w
    fun e w' => e = .returned (.tuple #[.string ⟨#[1, 1, 97]⟩, .int .i64 0]) ∧ Below w.heap.size w w' := by
  have q := Encode_any blobA atNil w (blobIn _ _)
  rw [blobA_S, blobA_E] at q
  exact q
theorem enc_bad {o : Ob} (h : encE o ≠ 0) : encS o = ⟨#[]⟩ := by
  unfold encE at h
  unfold encS
  split
  · rfl
  · rename_i h1
    rw [if_neg h1] at h
    split
    · rfl
    · rename_i h2; rw [if_neg h2] at h; exact absurd rfl h
theorem enc_ok {o : Ob} (h : encE o = 0) : good o = 0 ∧ (encL o).length ≤ 8192 ∧ encS o = bs (encL o) := by
  unfold encE at h
  unfold encS
  split at h
  · rename_i h1; exact absurd h h1
  · rename_i h1
    split at h
    · cases h
    · rename_i h2
      exact ⟨by simpa using h1, by omega, by rw [if_neg h1, if_neg h2]⟩
theorem ok_enc {o : Ob} (h : good o = 0) (hl : (encL o).length ≤ 8192) : encE o = 0 ∧ encS o = bs (encL o) := by
  refine ⟨?_, ?_⟩
  · unfold encE
    rw [if_neg (by simp [h]), if_neg (by omega)]
  · unfold encS
    rw [if_neg (by simp [h]), if_neg (by omega)]
theorem enc_back {o : Ob} (h : encE o = 0) : decO (encS o).data.toList = (o, 0) := by
  obtain ⟨h1, h2, h3⟩ := enc_ok h
  rw [h3, bs_list]
  exact dec_enc h1 h2
theorem enc_size {o : Ob} (h : encE o = 0) : (encS o).size ≤ 8192 ∧ 0 < (encS o).size := by
  obtain ⟨h1, h2, h3⟩ := enc_ok h
  rw [h3, bs_size]
  refine ⟨h2, ?_⟩
  unfold encL
  rw [List.length_append]
  have := num_pos o.kind.toNat
  omega

end Go.Proofs.YtgffbdkngnpfpaaDoor
