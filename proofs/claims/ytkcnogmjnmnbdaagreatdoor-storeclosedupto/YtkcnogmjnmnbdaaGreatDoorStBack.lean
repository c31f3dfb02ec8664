/- Texts in one: StSweptQ, StBack. -/
import Derived.Test.YtkcnogmjnmnbdaaGreatDoorStBackP
import Derived.Test.YtkcnogmjnmnbdaaGreatDoorUnhexW
import Derived.Test.YtkcnogmjnmnbdaaGreatDoorDkSave
import Derived.Test.YtkcnogmjnmnbdaaGreatDoorOPick
/- What Sweep leaves: the ids: plain mathematics. -/
namespace Go.Proofs.YtkcnogmjnmnbdaaGreatDoor
open Go.RowKit

theorem hd_less : ∀ i j : Fin 16, hd i.val < hd j.val → i.val < j.val := by decide +kernel
theorem hd_same : ∀ i j : Fin 16, hd i.val = hd j.val → i.val = j.val := by decide +kernel
theorem hexOf_cons (a : UInt8) (l : List UInt8) : hexOf (a :: l) = hd (a.toNat / 16) :: hd (a.toNat % 16) :: hexOf l := by simp [hexOf]
theorem hex_less : ∀ (l m : List UInt8), l.length = m.length → Op.bytesLess (hexOf l) (hexOf m) = true → Op.bytesLess l m = true
  | [], [], _, h => by simp [hexOf, Op.bytesLess] at h
  | [], _ :: _, hl, _ => by simp at hl
  | _ :: _, [], hl, _ => by simp at hl
  | a :: l, b :: m, hl, h => by
    have ih := hex_less l m (by simpa using hl)
    rw [hexOf_cons, hexOf_cons] at h
    have ha : a.toNat < 256 := a.toNat_lt
    have hb : b.toNat < 256 := b.toNat_lt
    simp only [Op.bytesLess, Bool.or_eq_true, Bool.and_eq_true, decide_eq_true_eq, beq_iff_eq] at h ⊢
    rw [UInt8.lt_iff_toNat_lt]
    rcases h with h | ⟨h, h2 | ⟨h2, h3⟩⟩
    · have := hd_less ⟨a.toNat / 16, by omega⟩ ⟨b.toNat / 16, by omega⟩ h
      simp only at this
      omega
    · have e := hd_same ⟨a.toNat / 16, by omega⟩ ⟨b.toNat / 16, by omega⟩ h
      have := hd_less ⟨a.toNat % 16, by omega⟩ ⟨b.toNat % 16, by omega⟩ h2
      simp only at this e
      omega
    · have e := hd_same ⟨a.toNat / 16, by omega⟩ ⟨b.toNat / 16, by omega⟩ h
      have e2 := hd_same ⟨a.toNat % 16, by omega⟩ ⟨b.toNat % 16, by omega⟩ h2
      simp only at e e2
      exact .inr ⟨UInt8.toNat_inj.1 (by omega), ih h3⟩
theorem fileN_list (id : ByteArray) : (fileN id).data.toList = 111 :: hexOf id.data.toList := by
  unfold fileN
  rw [show (⟨#[111]⟩ : ByteArray) ++ bs (hexOf id.data.toList) = bs (111 :: hexOf id.data.toList) from by
    apply bytes_eq
    rw [bs_list]
    simp [bs]]
  exact bs_list _
theorem fileN_less {x y : ByteArray} (hx : x.size = 32) (hy : y.size = 32) (h : ltB (fileN x) (fileN y) = true) : ltB x y = true := by
  unfold ltB at h ⊢
  rw [toList_data, toList_data] at h ⊢
  rw [fileN_list, fileN_list] at h
  simp only [Op.bytesLess, Bool.or_eq_true, Bool.and_eq_true, decide_eq_true_eq, beq_iff_eq] at h
  rcases h with h | ⟨_, h⟩
  · exact absurd h (by decide)
  · exact hex_less _ _ (by show x.size = y.size; omega) h
theorem idP_name {n : ByteArray} (h : (idP n).2 = true) : n = fileN (idP n).1 ∧ (idP n).1.size = 32 := by
  unfold idP at h ⊢
  by_cases hc : Lib.hasPrefix n.data.toList [111] = true ∧ n.size = 65
  case neg => rw [if_neg hc] at h; cases h
  rw [if_pos hc] at h ⊢
  obtain ⟨h1, h2⟩ := hc
  cases hu : unpair (n.data.toList.drop 1) with
  | none => rw [hu] at h; cases h
  | some p =>
    have hh := hex_unpair _ _ hu
    have hl : n.data.toList.length = 65 := h2
    have hn : n.data.toList = 111 :: n.data.toList.drop 1 := by
      cases e : n.data.toList with
      | nil => rw [e] at hl; simp at hl
      | cons a t =>
        rw [e] at h1
        unfold Lib.hasPrefix at h1
        simp only [List.isPrefixOf, Bool.and_true, beq_iff_eq] at h1
        rw [← h1]
        rfl
    simp only
    constructor
    · apply bytes_eq
      rw [fileN_list, bs_list, hh]
      exact hn
    · rw [bs_size]
      have := congrArg List.length hh
      rw [hexOf_length, List.length_drop] at this
      omega
theorem idP_fileN {id : ByteArray} (h : id.size = 32) : idP (fileN id) = (id, true) := by
  have hl := fileN_list id
  have hs := fileN_size h
  unfold idP
  rw [if_pos ⟨by rw [hl]; unfold Lib.hasPrefix; simp [List.isPrefixOf], hs⟩, hl]
  show (match unpair (hexOf id.data.toList) with | some p => (bs p, true) | none => (⟨#[]⟩, false)) = _
  rw [unpair_hex]
  simp only
  rw [bs_of]
theorem idsD_mem {d : Dk} {id : ByteArray} : ∀ {l : List Fl}, id ∈ idsD d l ↔ ∃ f ∈ l, idP f.name = (id, true) ∧ hasO d id = true
  | [] => by simp [idsD]
  | f :: l => by
    rw [idsD, List.mem_append, idsD_mem (l := l)]
    constructor
    · rintro (h | ⟨g, hg, h⟩)
      · split at h
        · rename_i hc
          rw [List.mem_singleton] at h
          subst h
          exact ⟨f, List.mem_cons_self, Prod.ext rfl hc.1, hc.2⟩
        · cases h
      · exact ⟨g, List.mem_cons_of_mem _ hg, h⟩
    · rintro ⟨g, hg, h1, h2⟩
      rcases List.mem_cons.1 hg with rfl | hg
      · left
        rw [if_pos ⟨by rw [h1], by rw [h1]; exact h2⟩, h1]
        exact List.mem_singleton.2 rfl
      · exact .inr ⟨g, hg, h1, h2⟩
theorem idsD_rsn {d : Dk} : ∀ (l : List Fl) (b : ByteArray), ris b l → Rsn (idsD d l)
  | [], _, _ => List.Pairwise.nil
  | f :: l, b, h => by
    have ih := idsD_rsn (d := d) l f.name h.2
    rw [idsD]
    split
    · rename_i hc
      refine List.pairwise_cons.2 ⟨fun y hy => ?_, ih⟩
      obtain ⟨g, hg, h1, _⟩ := idsD_mem.1 hy
      have hlt := ris_lt h.2 g hg
      obtain ⟨n1, s1⟩ := idP_name hc.1
      obtain ⟨n2, s2⟩ := idP_name (n := g.name) (by rw [h1])
      rw [h1] at n2 s2
      rw [n1, n2] at hlt
      exact fileN_less s1 s2 hlt
    · exact ih
/-- Sweep says no only where the power has failed -/
theorem sweep_err {keep : List ByteArray} : ∀ (l : List Fl) (a : Dk) (b : ByteArray), goodD a.files = true → ris b l → (∀ f ∈ l, (getF f.name a.files).isSome = true) → (sweepGo keep l a).2 = 0 ∨ (sweepGo keep l a).2 = 12
  | [], _, _, _, _, _ => .inl rfl
  | f :: l, a, b, hG, hr, hs => by
    rw [sweepGo]
    have hs' : ∀ g ∈ l, (getF g.name a.files).isSome = true := fun g hg => hs g (List.mem_cons_of_mem _ hg)
    split
    · exact sweep_err l a f.name hG hr.2 hs'
    · split
      · exact sweep_err l a f.name hG hr.2 hs'
      · split
        · rename_i he
          right
          have h1 := hs f List.mem_cons_self
          unfold stepP at he ⊢
          simp only [hG, Bool.not_true, Bool.false_eq_true, if_false] at he ⊢
          by_cases hz : a.fuse = 0
          · rw [if_pos hz]
          · rw [if_neg hz] at he
            unfold rmP at he
            cases hg : getF f.name a.files with
            | none => rw [hg] at h1; cases h1
            | some g => rw [hg] at he; exact absurd rfl he
        · refine sweep_err l _ f.name (rm_good hG) hr.2 fun g hg => ?_
          have hne : g.name ≠ f.name := fun e => ltB_ne (ris_lt hr.2 g hg) e.symm
          rw [(rm_keep (o := g.name) hG hne).2]
          exact hs' g hg
theorem getF_in {L : List Fl} {f : Fl} (h : f ∈ L) : getF f.name L ≠ none := fun e => by
  unfold getF at e
  rw [List.find?_eq_none] at e
  exact e f h (by simp)
theorem read_file {d : Dk} {n s : ByteArray} (h : readD d n = (s, 0)) : ∃ f, f ∈ d.files ∧ f.name = n := by
  unfold readD at h
  cases hG : goodD d.files with
  | false => rw [hG] at h; simp at h
  | true =>
    rw [hG] at h
    simp only [Bool.not_true, Bool.false_eq_true, if_false] at h
    cases hf : getF n d.files with
    | none => rw [hf] at h; simp at h
    | some f => exact ⟨f, (getF_name hf).2, (getF_name hf).1⟩
/-- what Sweep leaves of a good disk, where what is kept was found -/
theorem swept {M : List Fl} {x : Int} {U : List ByteArray} (hG : goodD M = true) (h0 : (reachO (getO ⟨M, x⟩) U).2 = 0) :
    (∀ id ∈ (reachO (getO ⟨M, x⟩) U).1, (getO ⟨M, x⟩ id).2 = 0 ∧ getO (sweepGo (reachO (getO ⟨M, x⟩) U).1 M ⟨M, x⟩).1 id = getO ⟨M, x⟩ id) ∧
    ((sweepGo (reachO (getO ⟨M, x⟩) U).1 M ⟨M, x⟩).2 = 0 → idsD (sweepGo (reachO (getO ⟨M, x⟩) U).1 M ⟨M, x⟩).1 (sweepGo (reachO (getO ⟨M, x⟩) U).1 M ⟨M, x⟩).1.files = (reachO (getO ⟨M, x⟩) U).1) ∧
    ((sweepGo (reachO (getO ⟨M, x⟩) U).1 M ⟨M, x⟩).2 ≠ 0 → (sweepGo (reachO (getO ⟨M, x⟩) U).1 M ⟨M, x⟩).2 = 12) ∧
    (reachO (getO ⟨M, x⟩) U).1.length ≤ (idsD (sweepGo (reachO (getO ⟨M, x⟩) U).1 M ⟨M, x⟩).1 (sweepGo (reachO (getO ⟨M, x⟩) U).1 M ⟨M, x⟩).1.files).length := by
  obtain ⟨V, h1, h2, _, h4, _, _⟩ := reachO_ok h0
  rw [h1]
  have hK : Rsn (sortB V) := sortB_rsn h2
  have hmem : ∀ id ∈ sortB V, hasO ⟨M, x⟩ id = true := fun id hid => by
    unfold hasO
    exact decide_eq_true (h4 id (sortB_mem.1 hid)).1
  clear h0 h1 h2 h4
  generalize sortB V = K at *
  have hgood := sweep_good (keep := K) M ⟨M, x⟩ hG
  have hris := ((goodD_iff M).1 hG).2.1
  have hkeep : ∀ id ∈ K, (getO ⟨M, x⟩ id).2 = 0 ∧ getO (sweepGo K M ⟨M, x⟩).1 id = getO ⟨M, x⟩ id := fun id hid => by
    obtain ⟨k1, _⟩ := hasO_ok (hmem id hid)
    obtain ⟨s1, _, _⟩ := getO_ok k1
    have hn : ¬ goes K (fileN id) := fun q => by
      have q2 := q.2
      rw [idP_fileN s1] at q2
      rw [memB_iff.2 hid] at q2
      cases q2
    have hk := read_keep (d := ⟨M, x⟩) hG (sweep_keep (keep := K) M ⟨M, x⟩ hG (fileN id) hn)
    refine ⟨k1, ?_⟩
    unfold getO
    rw [hk]
  have hsub : ∀ id ∈ K, id ∈ idsD (sweepGo K M ⟨M, x⟩).1 (sweepGo K M ⟨M, x⟩).1.files := fun id hid => by
    obtain ⟨k1, k2⟩ := hkeep id hid
    obtain ⟨s1, s2, _⟩ := getO_ok (d := (sweepGo K M ⟨M, x⟩).1) (id := id) (by rw [k2]; exact k1)
    obtain ⟨f, f1, f2⟩ := read_file s2
    refine idsD_mem.2 ⟨f, f1, by rw [f2]; exact idP_fileN s1, ?_⟩
    have := hmem id hid
    unfold hasO at this ⊢
    rw [k2]
    exact this
  refine ⟨hkeep, fun hz => ?_, fun hz => ?_, nodup_len2 _ _ (rsn_nodup hK) hsub⟩
  · refine rsn_ext _ _ (idsD_rsn _ ⟨#[]⟩ ((goodD_iff _).1 hgood).2.1) hK fun id => ⟨fun hid => ?_, hsub id⟩
    obtain ⟨f, f1, f2, _⟩ := idsD_mem.1 hid
    cases hm : memB id K with
    | true => exact memB_iff.1 hm
    | false =>
      exfalso
      have hg : goes K f.name := ⟨by rw [f2], by rw [f2]; exact hm⟩
      cases hM : getF f.name M with
      | none => exact getF_in f1 (sweep_out (keep := K) M ⟨M, x⟩ hG hM)
      | some g =>
        obtain ⟨g1, g2⟩ := getF_name hM
        have := sweep_gone (keep := K) M ⟨M, x⟩ hG hz g g2 (by rw [g1]; exact hg)
        rw [g1] at this
        exact getF_in f1 this
  · rcases sweep_err (keep := K) M ⟨M, x⟩ ⟨#[]⟩ hG hris (fun f hf => by
      cases hM : getF f.name M with
      | none => exact absurd hM (getF_in hf)
      | some g => rfl) with h | h
    · exact absurd h hz
    · exact h
end Go.Proofs.YtkcnogmjnmnbdaaGreatDoor

/- keep.stores, keep.StoreBack: the walks. -/
namespace Go.Proofs.YtkcnogmjnmnbdaaGreatDoor
open Go.RowKit

set_option maxRecDepth 100000 in
set_option maxHeartbeats 1000000 in
theorem stores_keep (w : World) (ht : Tab w) : Calls Tryz.prog 23 #[] w fun e w' => e = .returned (.bool true) ∧ Below w.heap.size w w' := by
  have C1 : Hid (Calls Tryz.prog 22 #[.agg #[.slice none 0 0, .int .i64 (-1)], .string ⟨#[1, 1, 97]⟩] w (PutEnd w (⟨[⟨fileN (sumB aaT), aaT, ⟨#[]⟩⟩], -1⟩, sumB aaT, 0))) := by
    have := Put_st [] aaT (by decide) none 0 (-1) w (Fls.nil _ _ _) (fun f hf => by cases hf) (by simp) (by simp) (by decide) ht
    rw [stores_put] at this
    exact this
  have hG : goodD [⟨fileN (sumB aaT), aaT, ⟨#[]⟩⟩] = true := readD_good (d := ⟨[⟨fileN (sumB aaT), aaT, ⟨#[]⟩⟩], -1⟩) (n := fileN (sumB aaT)) (by have := (getO_ok (d := ⟨[⟨fileN (sumB aaT), aaT, ⟨#[]⟩⟩], -1⟩) (id := sumB aaT) (by rw [stores_get])).2.1; rw [this])
  have C2 : ∀ (V : World) (A : Option Addr) (c : Nat), Fls V V.heap.size A [⟨fileN (sumB aaT), aaT, ⟨#[]⟩⟩] → Tab V → Hid (Calls Tryz.prog 24 #[.agg #[.slice A 1 c, .int .i64 (-1)], .string (sumB aaT)] V fun e w' => e = .returned (.tuple #[.string ⟨#[1, 1, 97]⟩, .int .i64 0]) ∧ Below V.heap.size V w') := fun V A c h t => by
    have := Get_st [⟨fileN (sumB aaT), aaT, ⟨#[]⟩⟩] (sumB aaT) A c (-1) V h (good_sized hG).1 (by simp) t
    rw [stores_get] at this
    exact this
  clear hG
  generalize hLL : [(⟨fileN (sumB aaT), aaT, ⟨#[]⟩⟩ : Fl)] = LL at *
  have hl1 : LL.length = 1 := by rw [← hLL]; rfl
  have HL1 := Lib.hid hl1
  clear hLL hl1
  generalize sumB aaT = I at *
  go_enter Tryz.func23, Tryz.ntmps23
  go_wp2_with fail
  (with_reducible refine C1.out.mono ?_)
  clear C1
  rintro _ V ⟨A, c, rfl, hF, _, b1⟩
  simp only at hF ⊢
  have b2 : Below w.heap.size w ((V.alloc (.cells dkZero 37)).setRow V.heap.size (dkArr LL A c (-1))) := b1.trans ((below_setRow ((Below.refl _ _).alloc (Nat.le_refl _) _) (Nat.le_refl _) _).mono b1.size)
  have bb : Below V.heap.size V ((V.alloc (.cells dkZero 37)).setRow V.heap.size (dkArr LL A c (-1))) := below_setRow ((Below.refl _ _).alloc (Nat.le_refl _) _) (Nat.le_refl _) _
  have AX : Arr ((V.alloc (.cells dkZero 37)).setRow V.heap.size (dkArr LL A c (-1))) V.heap.size 37 (dkArr LL A c (-1)) := (Arr.new _ _ _).row _
  go_upto_region 2 with (refine wpList_store_row rfl 37 _ _ rfl V.heap.size (dkArr LL A c (-1)) rfl rfl 37 dkZero (Arr.new V _ _) (dkInfo _ _ _ _) rfl (dkArr_one _ _ _ _) ?_)
  refine wp_forget (fun W => Arr W V.heap.size 37 (dkArr LL A c (-1)) ∧ Fls W W.heap.size A LL ∧ Below w.heap.size w W) (by exact ⟨AX, hF.up bb, b2⟩) ?_
  clear AX b2 b1 bb hF
  generalize V.heap.size = q
  rintro W ⟨AX, hF, b2⟩
  have c0 : W.cell? ⟨q, 0, none⟩ = some (.slice A 1 c) := by have := AX.cell 0; rw [this]; show some (Value.slice A LL.length c) = _; rw [HL1.out]
  have c1 : W.cell? ⟨q, 1, none⟩ = some (.int .i64 (-1)) := AX.cell 1
  have C3 := C2 W A c hF (ht.below b2 ht.1)
  clear C2
  go_wp2_with fail
  (with_reducible refine C3.out.mono ?_)
  rintro _ W1 ⟨rfl, b3⟩
  go_wp2_with fail
  go_ret
  exact ⟨rfl, b2.trans (b3.mono b2.size)⟩
/-- the four disks of the walk: what came in, what Put left, what Put left again, what came up behind the crash -/
def Zv (w : World) (L M B : List Fl) (A Aa Ag Ab : Option Addr) (c ca cg cb : Nat) (z y : Int) (qa qg qb : Nat) (W : World) : Prop :=
  Arr W w.heap.size 37 (dkArr L A c z) ∧ Arr W qa 37 (dkArr M Aa ca y) ∧ Arr W qg 37 (dkArr M Ag cg y) ∧ Arr W qb 37 (dkArr B Ab cb (-1)) ∧
  Fls W W.heap.size A L ∧ Fls W W.heap.size Aa M ∧ Fls W W.heap.size Ag M ∧ Fls W W.heap.size Ab B ∧ Below w.heap.size w W
theorem Zv.below {w : World} {L M B : List Fl} {A Aa Ag Ab : Option Addr} {c ca cg cb : Nat} {z y : Int} {qa qg qb : Nat} {W W' : World} (h : Zv w L M B A Aa Ag Ab c ca cg cb z y qa qg qb W) (b : Below W.heap.size W W') : Zv w L M B A Aa Ag Ab c ca cg cb z y qa qg qb W' := by
  obtain ⟨h1, h2, h3, h4, f1, f2, f3, f4, b0⟩ := h
  exact ⟨h1.below b h1.lt, h2.below b h2.lt, h3.below b h3.lt, h4.below b h4.lt, f1.up b, f2.up b, f3.up b, f4.up b, b0.trans (b.mono b0.size)⟩
/-- ahead of the crash -/
def Yv (w : World) (L M : List Fl) (A Aa Ag : Option Addr) (c ca cg : Nat) (z y : Int) (qa qg : Nat) (W : World) : Prop :=
  Arr W w.heap.size 37 (dkArr L A c z) ∧ Arr W qa 37 (dkArr M Aa ca y) ∧ Arr W qg 37 (dkArr M Ag cg y) ∧
  Fls W W.heap.size A L ∧ Fls W W.heap.size Aa M ∧ Fls W W.heap.size Ag M ∧ Below w.heap.size w W
theorem Yv.below {w : World} {L M : List Fl} {A Aa Ag : Option Addr} {c ca cg : Nat} {z y : Int} {qa qg : Nat} {W W' : World} (h : Yv w L M A Aa Ag c ca cg z y qa qg W) (b : Below W.heap.size W W') : Yv w L M A Aa Ag c ca cg z y qa qg W' := by
  obtain ⟨h1, h2, h3, f1, f2, f3, b0⟩ := h
  exact ⟨h1.below b h1.lt, h2.below b h2.lt, h3.below b h3.lt, f1.up b, f2.up b, f3.up b, b0.trans (b.mono b0.size)⟩
theorem Yv.late {w V : World} {L M B : List Fl} {A Aa Ag Ab : Option Addr} {c ca cg cb : Nat} {z y : Int} {qa qg : Nat} (h : Yv w L M A Aa Ag c ca cg z y qa qg V) (hF : Fls V V.heap.size Ab B) (W' : World) (e : W' = V.alloc (.cells #[.slice Ab B.length cb, .int .i64 (-1)] 37)) : Zv w L M B A Aa Ag Ab c ca cg cb z y qa qg V.heap.size W' := by
  subst e
  have b1 : Below V.heap.size V (V.alloc (.cells #[.slice Ab B.length cb, .int .i64 (-1)] 37)) := (Below.refl _ _).alloc (Nat.le_refl _) _
  obtain ⟨h1, h2, h3, f1, f2, f3, b0⟩ := h.below b1
  exact ⟨h1, h2, h3, Arr.new _ _ _, f1, f2, f3, hF.up b1, b0⟩
theorem fls_two {V : World} {A : Option Addr} {L : List Fl} {q : Nat} {u v : Value} (hF : Fls V V.heap.size A L) (hA : Arr V q 37 dkZero) : Fls ((V.setCell ⟨q, 0, none⟩ u).setCell ⟨q, 1, none⟩ v) ((V.setCell ⟨q, 0, none⟩ u).setCell ⟨q, 1, none⟩ v).heap.size A L := fun k' x hx => by
  have k : V.grownBy ((V.setCell ⟨q, 0, none⟩ u).setCell ⟨q, 1, none⟩ v) (some q) := gb_trans (gb_set _ _ _) (gb_set _ _ _)
  obtain ⟨ad, e, hbk, h0, h1, h2⟩ := hF k' x hx
  have hn : ¬ some (ad.add (k' * 3)).block = some q := fun e => by
    rw [Option.some.inj e, hA.cell] at h1
    exact dkZero_no _ _ h1
  exact ⟨ad, e, Nat.lt_of_lt_of_le hbk k.size, k.cell h0 hn, k.cell h1 hn, k.cell h2 hn⟩
theorem Yv.early {w V : World} {L M B : List Fl} {A Aa Ag Ab : Option Addr} {c ca cg cb : Nat} {z y : Int} {qa qg q : Nat} (h : Yv w L M A Aa Ag c ca cg z y qa qg V) (hF : Fls V V.heap.size Ab B) (hA : Arr V q 37 dkZero) (hq : w.heap.size < q) (ha : qa < q) (hg : qg < q) (W' : World) (e : W' = (V.setCell ⟨q, 0, none⟩ (.slice Ab B.length cb)).setCell ⟨q, 1, none⟩ (.int .i64 (-1))) : Zv w L M B A Aa Ag Ab c ca cg cb z y qa qg q W' := by
  subst e
  have k : V.grownBy ((V.setCell ⟨q, 0, none⟩ (.slice Ab B.length cb)).setCell ⟨q, 1, none⟩ (.int .i64 (-1))) (some q) := gb_trans (gb_set _ _ _) (gb_set _ _ _)
  obtain ⟨h1, h2, h3, f1, f2, f3, b0⟩ := h
  exact ⟨h1.kept k (fun e => by cases e; omega), h2.kept k (fun e => by cases e; omega), h3.kept k (fun e => by cases e; omega), (hA.put 0 (.slice Ab B.length cb)).put 1 (.int .i64 (-1)), fls_two f1 hA, fls_two f2 hA, fls_two f3 hA, fls_two hF hA, below_gb b0 k (by omega) b0.size⟩

end Go.Proofs.YtkcnogmjnmnbdaaGreatDoor
