/- Texts in one: StLoadT, StOnP, StDesc, StOn. -/
import Derived.Test.YtilolbefeoibhaaDoorOPick
import Derived.Test.YtilolbefeoibhaaDoorSMap
import Derived.Test.YtilolbefeoibhaaDoorStNew
/- load at a getter that looks into a map: contracts. -/
namespace Go.Proofs.YtilolbefeoibhaaDoor
open Go.RowKit
attribute [local go_sem] func_eq_nil

abbrev KT := ByteArray × ByteArray
def tx (M : List KT) : List KX := M.map fun x => (x.1, .string x.2)
def getT (k : ByteArray) : List KT → Option ByteArray
  | [] => none
  | x :: l => if k = x.1 then some x.2 else getT k l
def upT (k v : ByteArray) : List KT → List KT
  | [] => [(k, v)]
  | x :: l => if k = x.1 then (k, v) :: l else x :: upT k v l
def tellT (M : List KT) (id : ByteArray) : ByteArray × Int := match getT id M with
  | none => (⟨#[]⟩, 7)
  | some s => (s, 0)
theorem tx_look (k : ByteArray) : ∀ M : List KT, lookX (.string ⟨#[]⟩) k (tx M) = match getT k M with | none => .tuple #[.string ⟨#[]⟩, .bool false] | some s => .tuple #[.string s, .bool true]
  | [] => rfl
  | x :: l => by
    have ih := tx_look k l
    unfold lookX at ih ⊢
    unfold tx at ih ⊢
    rw [List.map_cons]
    unfold posX getT
    by_cases h : k = x.1
    · simp [h]
    · simp only [if_neg h]
      rw [← ih]
      cases posX k (List.map (fun x => (x.1, Value.string x.2)) l) with
      | none => rfl
      | some p => simp
theorem tx_up (k v : ByteArray) : ∀ M : List KT, upX k (.string v) (tx M) = tx (upT k v M)
  | [] => rfl
  | x :: l => by
    have ih := tx_up k v l
    have e : ∀ y : KX, posX k (y :: tx l) = if k = y.1 then some 0 else (posX k (tx l)).map (· + 1) := fun _ => rfl
    show upX k (.string v) ((x.1, .string x.2) :: tx l) = tx (upT k v (x :: l))
    unfold upT
    unfold upX at ih ⊢
    rw [e]
    by_cases h : k = x.1
    · simp [h, tx]
    · simp only [if_neg h]
      show _ = (x.1, Value.string x.2) :: tx (upT k v l)
      rw [← ih]
      cases posX k (tx l) <;> simp
theorem getT_up (k k' v : ByteArray) : ∀ M : List KT, getT k (upT k' v M) = if k = k' then some v else getT k M
  | [] => by unfold upT getT; rfl
  | x :: l => by
    have ih := getT_up k k' v l
    unfold upT
    by_cases h : k' = x.1
    · rw [if_pos h]
      unfold getT
      by_cases h2 : k = k'
      · simp [h2]
      · have : ¬ k = x.1 := fun e => h2 (e.trans h.symm)
        simp [h2, this]
    · rw [if_neg h]
      unfold getT
      by_cases h2 : k = x.1
      · have : ¬ k = k' := fun e => h (e.symm.trans h2)
        rw [if_pos h2, if_neg this, if_pos h2]
      · rw [if_neg h2, if_neg h2]
        exact ih
theorem zero_text (w : World) : (zeroValue 9).run Tryd.prog w = .ok (.string ⟨#[]⟩) w := by kernel_rfl
theorem getter_on (M : List KT) (id : ByteArray) (gm q : Nat) (w : World) (hq : Arr w q 38 #[.map (some gm)]) (hM : MapX w gm (tx M)) :
    Calls Tryd.prog 12 #[.string id, .pointer (some ⟨q, 0, none⟩)] w fun e w' => e = .returned (.tuple #[.string (tellT M id).1, .int .i64 (tellT M id).2]) ∧ Below w.heap.size w w' := by
  have c0 : w.cell? ⟨q, 0, none⟩ = some (.map (some gm)) := hq.cell 0
  have lk := run_lookX Tryd.underlying38 zero_text hM id
  rw [tx_look] at lk
  have HT : Hid (tellT M id = match getT id M with | none => (⟨#[]⟩, 7) | some s => (s, 0)) := rfl
  generalize tellT M id = Q at *
  cases hg : getT id M with
  | none =>
    rw [hg] at lk
    simp only at lk
    have HQ : Hid (Q = (⟨#[]⟩, 7)) := by show _ = _; rw [HT.out, hg]
    clear HT hg
    go_enter Tryd.func12, Tryd.ntmps12
    go_wp2_with fail
    go_ret2
    exact ⟨by rw [HQ.out]; rfl, Below.refl _ _⟩
  | some s =>
    rw [hg] at lk
    simp only at lk
    have HQ : Hid (Q = (s, 0)) := by show _ = _; rw [HT.out, hg]
    clear HT hg
    go_enter Tryd.func12, Tryd.ntmps12
    go_wp2_with fail
    go_ret2
    exact ⟨by rw [HQ.out]; rfl, Below.refl _ _⟩
set_option maxRecDepth 100000 in
set_option maxHeartbeats 1000000 in
theorem load_on (M : List KT) (id : ByteArray) (gm q : Nat) (w : World) (hq : Arr w q 38 #[.map (some gm)]) (hM : MapX w gm (tx M)) :
    Calls Tryd.prog 22 #[.func (.func 12) #[] #[.pointer (some ⟨q, 0, none⟩)], .string id] w (DEndA w (loadR (tellT M id)).1 (loadR (tellT M id)).2) := by
  have CG := fun V a b => Lib.hid (getter_on M id gm q V a b)
  generalize tellT M id = Q at *
  obtain ⟨s, e⟩ := Q
  have HR0 : Hid (loadR (s, e) = if e ≠ 0 then (Ob.none, 7) else if (decO s.data.toList).2 ≠ 0 then (Ob.none, 2) else ((decO s.data.toList).1, 0)) := rfl
  have CD := fun V => Lib.hid (Decode_far s V)
  generalize loadR (s, e) = R at *
  have hpp : ∀ x ∈ (decO s.data.toList).1.pars, x.size = 32 := dec_pars
  generalize decO s.data.toList = D at *
  obtain ⟨o, e2⟩ := D
  have hp : ∀ x ∈ o.pars, x.size = 32 := hpp
  clear hpp
  have hqlt := hq.lt
  go_enter Tryd.func22, Tryd.ntmps22
  go_upto_region 1 with fail
  refine wp_forget (Dx w) ⟨Arr.new _ _ _, (Below.refl _ _).alloc (Nat.le_refl _) _⟩ ?_
  intro W hW
  have C1 : Hid (Calls Tryd.prog 12 #[.string id, .pointer (some ⟨q, 0, none⟩)] W fun x w' => x = .returned (.tuple #[.string s, .int .i64 e]) ∧ Below W.heap.size W w') := CG W (hq.below hW.2 hqlt) (hM.below hW.2 hM.lt)
  clear CG
  go_wp2_with fail
  (with_reducible refine C1.out.mono ?_)
  clear C1
  rintro _ W1 ⟨rfl, b1⟩
  replace hW := hW.below b1
  clear b1 W
  by_cases he : e = 0
  case neg =>
    have hb : (e != 0) = true := by rw [bne_iff_ne]; exact he
    have HR : Hid (R = (Ob.none, 7)) := by show _ = _; rw [HR0.out, if_pos he]
    clear HR0 he
    go_wp2_with (refine wpList_store_row rfl 45 _ _ rfl w.heap.size (obArr Ob.none atNil) rfl rfl 45 zeroO hW.1 (obInfo _ _) rfl (obArr_one _ _) ?_)
    refine bodyPost_ret (v := .tuple #[.agg (obArr Ob.none atNil), .int .i64 7]) ?_ rfl (DEndA_eq HR.out (hW.noneA 7))
    rw [results_cell_tmp Tryd.results22]
    have hld := run_loadVar_row (P := Tryd.prog) _ _ _ 45 _ _ _ (hW.1.row (obArr Ob.none atNil)) Tryd.underlying45 rfl (obInfo Ob.none atNil)
    simp [asAddr, hld, Result.andThen]
  subst he
  have HR1 : Hid (R = if e2 ≠ 0 then (Ob.none, 2) else (o, 0)) := by show _ = _; rw [HR0.out, if_neg (fun h => h rfl)]
  clear HR0
  have C2 : Hid (Calls Tryd.prog 14 #[.string s] W1 (DEndA W1 o e2)) := CD W1
  clear CD
  go_wp2_with fail
  (with_reducible refine C2.out.mono ?_)
  clear C2
  rintro _ W2 ⟨p, rfl, hO, b1, hab⟩
  have hab2 : Above w.heap.size p := hab.mono (Nat.le_of_lt hW.1.lt)
  clear hab
  replace hW := hW.below b1
  clear b1 W1
  have hX : Arr ((W2.alloc (.cells zeroO 45)).setRow W2.heap.size (obArr o p)) W2.heap.size 45 (obArr o p) := (Arr.new _ _ _).row _
  have bb : Below W2.heap.size W2 ((W2.alloc (.cells zeroO 45)).setRow W2.heap.size (obArr o p)) := below_setRow ((Below.refl _ _).alloc (Nat.le_refl _) _) (Nat.le_refl _) _
  go_upto_region 7 with (refine wpList_store_row rfl 45 _ _ rfl W2.heap.size (obArr o p) rfl rfl 45 zeroO (Arr.new W2 _ _) (obInfo _ _) rfl (obArr_one _ _) ?_)
  refine wp_forget (fun W => Dx w W ∧ Arr W W2.heap.size 45 (obArr o p) ∧ ObIn W W2.heap.size o p ∧ w.heap.size < W2.heap.size) (by exact ⟨hW.below bb, hX, hO.below bb, hW.1.lt⟩) ?_
  clear hX bb hO hW
  generalize W2.heap.size = b at *
  clear W2
  rintro W ⟨hW, hX, hO, hlt⟩
  by_cases he : e2 = 0
  case neg =>
    have hb : (e2 != 0) = true := by rw [bne_iff_ne]; exact he
    have HR : Hid (R = (Ob.none, 2)) := by show _ = _; rw [HR1.out, if_pos he]
    clear HR1 he
    go_wp2_with (refine wpList_store_row rfl 45 _ _ rfl w.heap.size (obArr Ob.none atNil) rfl rfl 45 zeroO hW.1 (obInfo _ _) rfl (obArr_one _ _) ?_)
    refine bodyPost_ret (v := .tuple #[.agg (obArr Ob.none atNil), .int .i64 2]) ?_ rfl (DEndA_eq HR.out (hW.noneA 2))
    rw [results_cell_tmp Tryd.results22]
    have hld := run_loadVar_row (P := Tryd.prog) _ _ _ 45 _ _ _ (hW.1.row (obArr Ob.none atNil)) Tryd.underlying45 rfl (obInfo Ob.none atNil)
    simp [asAddr, hld, Result.andThen]
  subst he
  have HR : Hid (R = (o, 0)) := by show _ = _; rw [HR1.out, if_neg (fun h => h rfl)]
  clear HR1
  go_wp2_with (first | (refine wpList_load_row rfl 45 _ rfl b rfl 45 _ (0, 0) _ hX Tryd.underlying45 rfl (obInfo o p) ?_) | (refine wpList_store_row rfl 45 _ _ rfl w.heap.size (obArr o p) rfl rfl 45 zeroO hW.1 (obInfo _ _) rfl (obArr_one _ _) ?_))
  refine bodyPost_ret (v := .tuple #[.agg (obArr o p), .int .i64 0]) ?_ rfl (DEndA_eq HR.out ⟨p, rfl, ?_, below_setRow hW.2 (Nat.le_refl _) _, hab2⟩)
  · rw [results_cell_tmp Tryd.results22]
    have hld := run_loadVar_row (P := Tryd.prog) _ _ _ 45 _ _ _ (hW.1.row (obArr o p)) Tryd.underlying45 rfl (obInfo o p)
    simp [asAddr, hld, Result.andThen]
  · exact hO.off hW.1 hp (Nat.le_trans (Nat.le_of_lt hX.lt) (gb_row w.heap.size (obArr o p)).size) (gb_row _ _)
end Go.Proofs.YtilolbefeoibhaaDoor

/- Descends is whether one is reached from another: plain mathematics. -/
namespace Go.Proofs.YtilolbefeoibhaaDoor
open Go.RowKit

inductive Rch (G : ByteArray → ByteArray × Int) : ByteArray → ByteArray → Prop
  | refl (x : ByteArray) : Rch G x x
  | step {x y z : ByteArray} : Rch G x y → z ∈ (loadR (G y)).1.pars → Rch G x z
theorem Rch.trans {G : ByteArray → ByteArray × Int} {x y z : ByteArray} (h : Rch G x y) (k : Rch G y z) : Rch G x z := by
  induction k with
  | refl => exact h
  | step _ hp ih => exact .step ih hp
theorem addAll_pre : ∀ (U T : List ByteArray), ∃ W, addAll T U = T ++ W
  | [], T => ⟨[], by simp [addAll]⟩
  | y :: l, T => by
    obtain ⟨W, hW⟩ := addAll_pre l (if memB y T = true then T else T ++ [y])
    show ∃ W, addAll (if memB y T = true then T else T ++ [y]) l = T ++ W
    rw [hW]
    split
    · exact ⟨W, rfl⟩
    · exact ⟨y :: W, by simp⟩
theorem addAll_mem (x : ByteArray) : ∀ (U T : List ByteArray), x ∈ addAll T U ↔ x ∈ T ∨ x ∈ U
  | [], T => by simp [addAll]
  | y :: l, T => by
    show x ∈ addAll (if memB y T = true then T else T ++ [y]) l ↔ _
    rw [addAll_mem x l, List.mem_cons]
    split
    · rename_i h
      have hy := memB_iff.1 h
      constructor
      · rintro (h | h)
        · exact .inl h
        · exact .inr (.inr h)
      · rintro (h | rfl | h)
        · exact .inl h
        · exact .inl hy
        · exact .inr h
    · rw [List.mem_append, List.mem_singleton, or_assoc]
theorem addAll_nodup : ∀ (U T : List ByteArray), T.Nodup → (addAll T U).Nodup
  | [], T, h => h
  | y :: l, T, h => by
    show (addAll (if memB y T = true then T else T ++ [y]) l).Nodup
    refine addAll_nodup l _ ?_
    split
    · exact h
    · rename_i hn
      rw [List.nodup_append]
      refine ⟨h, by simp, fun a ha b hb e => ?_⟩
      rw [List.mem_singleton.1 hb] at e
      rw [e] at ha
      exact hn (memB_iff.2 ha)
theorem nodup_len : ∀ (l m : List ByteArray), l.Nodup → (∀ x ∈ l, x ∈ m) → l.length ≤ m.length
  | [], _, _, _ => Nat.zero_le _
  | x :: l, m, h, hs => by
    rw [List.nodup_cons] at h
    have ih := nodup_len l (m.filter fun y => !decide (y = x)) h.2 (fun y hy => by
      rw [List.mem_filter]
      refine ⟨hs y (List.mem_cons_of_mem _ hy), ?_⟩
      have : y ≠ x := fun e => h.1 (by rw [← e]; exact hy)
      simp [this])
    have h2 : (m.filter fun y => !decide (y = x)).length < m.length := by
      rw [List.length_filter_lt_length_iff_exists]
      exact ⟨x, hs x List.mem_cons_self, by simp⟩
    rw [List.length_cons]
    omega
/-- the ids that have come up are those that are reached, once all are seen -/
theorem descGo_iff {G : ByteArray → ByteArray × Int} {a to : ByteArray} {P : List ByteArray} (hP : ∀ x y, y ∈ (loadR (G x)).1.pars → y ∈ P) (hl : P.length ≤ 390) :
    ∀ (n : Nat) (V : List ByteArray) (i : Nat), 401 ≤ n + i → i ≤ V.length → V.Nodup → a ∈ V → (∀ x ∈ V, Rch G a x) → (∀ x ∈ V, x ∈ a :: P) →
      (∀ j v, j < i → V[j]? = some v → v ≠ to ∧ ∀ y ∈ (loadR (G v)).1.pars, y ∈ V) → (descGo G to n V i = true ↔ Rch G a to)
  | 0, V, i, hn, hi, hd, _, _, hs, _ => by
    have := nodup_len V (a :: P) hd hs
    rw [List.length_cons] at this
    omega
  | n + 1, V, i, hn, hi, hd, ha, hr, hs, hj => by
    have hlen := nodup_len V (a :: P) hd hs
    rw [List.length_cons] at hlen
    rw [descGo]
    by_cases hlt : i < min V.length 400
    · rw [if_pos hlt]
      have hV : V[i]? = some V[i] := List.getElem?_eq_getElem (by omega)
      rw [List.getD_eq_getElem?_getD, hV, Option.getD_some]
      have hmem : V[i] ∈ V := List.getElem_mem (by omega)
      generalize V[i] = v at *
      by_cases hv : v = to
      · rw [if_pos hv, ← hv]
        exact ⟨fun _ => hr v hmem, fun _ => rfl⟩
      · rw [if_neg hv]
        obtain ⟨W, hW⟩ := addAll_pre (loadR (G v)).1.pars V
        refine descGo_iff hP hl n _ (i + 1) (by omega) ?_ (addAll_nodup _ _ hd) ((addAll_mem _ _ _).2 (.inl ha)) (fun x hx => ?_) (fun x hx => ?_) (fun j u hj2 hu => ?_)
        · rw [hW, List.length_append]; omega
        · rcases (addAll_mem _ _ _).1 hx with h | h
          · exact hr x h
          · exact .step (hr v hmem) h
        · rcases (addAll_mem _ _ _).1 hx with h | h
          · exact hs x h
          · exact List.mem_cons_of_mem _ (hP v x h)
        · have hu2 : V[j]? = some u := by
            rw [hW, List.getElem?_append_left (by omega)] at hu
            exact hu
          by_cases e : j = i
          · subst e
            rw [hV] at hu2
            cases hu2
            exact ⟨hv, fun y hy => (addAll_mem _ _ _).2 (.inr hy)⟩
          · obtain ⟨k1, k2⟩ := hj j u (by omega) hu2
            exact ⟨k1, fun y hy => (addAll_mem _ _ _).2 (.inl (k2 y hy))⟩
    · rw [if_neg hlt]
      have hiV : i = V.length := by omega
      refine ⟨fun h => by simp at h, fun h => ?_⟩
      have hin : ∀ x, Rch G a x → x ∈ V := fun x hx => by
        induction hx with
        | refl => exact ha
        | step _ hp ih =>
          obtain ⟨j, hjl, hje⟩ := List.mem_iff_getElem.1 ih
          exact (hj j _ (by omega) (by rw [List.getElem?_eq_getElem hjl, hje])).2 _ hp
      obtain ⟨j, hjl, hje⟩ := List.mem_iff_getElem.1 (hin to h)
      exact absurd rfl (hj j to (by omega) (by rw [List.getElem?_eq_getElem hjl, hje])).1
theorem desc_iff {G : ByteArray → ByteArray × Int} {P : List ByteArray} (hP : ∀ x y, y ∈ (loadR (G x)).1.pars → y ∈ P) (hl : P.length ≤ 390) (a to : ByteArray) : desc G a to = true ↔ Rch G a to :=
  descGo_iff hP hl 401 [a] 0 (by omega) (by simp) (by simp) (by simp) (fun x hx => by rw [List.mem_singleton.1 hx]; exact .refl a) (fun x hx => by rw [List.mem_singleton.1 hx]; simp) (fun j v hj => absurd hj (by omega))
theorem flat_len {f : ByteArray → List ByteArray} (hf : ∀ x, (f x).length ≤ 4) : ∀ l : List ByteArray, (l.flatMap f).length ≤ 4 * l.length
  | [] => by simp
  | x :: l => by
    have := flat_len hf l
    have := hf x
    rw [List.flatMap_cons, List.length_append, List.length_cons]
    omega
theorem dec_pars4 (l : List UInt8) : (decO l).1.pars.length ≤ 4 := by
  by_cases h : (decO l).2 = 0
  · exact (good_facts (dec_only h).2.1).pars
  · rw [dec_none h]; simp [Ob.none]
/-- of at most eighty objects: each descends from itself, and from whatever what it descends from descends from -/
theorem onward {M : List KT} {l : List ByteArray} (h80 : l.length ≤ 80) (hM : ∀ id s, getT id M = some s → s ∈ l) (a b c : ByteArray) :
    desc (tellT M) a a = true ∧ (desc (tellT M) a b = true → desc (tellT M) b c = true → desc (tellT M) a c = true) := by
  have hP : ∀ x y, y ∈ (loadR (tellT M x)).1.pars → y ∈ l.flatMap fun s => (decO s.data.toList).1.pars := fun x y hy => by
    unfold tellT at hy
    cases hg : getT x M with
    | none => rw [hg] at hy; unfold loadR at hy; simp [Ob.none] at hy
    | some s =>
      rw [hg] at hy
      rw [List.mem_flatMap]
      refine ⟨s, hM x s hg, ?_⟩
      unfold loadR at hy
      simp only [ne_eq, not_true_eq_false, if_false] at hy
      split at hy
      · simp [Ob.none] at hy
      · exact hy
  have hl := flat_len (f := fun s => (decO s.data.toList).1.pars) (fun s => dec_pars4 _) l
  have hI := fun x y => desc_iff hP (by omega) x y
  refine ⟨(hI a a).2 (.refl a), fun h1 h2 => ?_⟩
  exact (hI a c).2 (((hI a b).1 h1).trans ((hI b c).1 h2))
end Go.Proofs.YtilolbefeoibhaaDoor

/- store.Descends at a getter that looks into a map: its contract. -/
namespace Go.Proofs.YtilolbefeoibhaaDoor
open Go.RowKit
def DsRel_on (M : List KT) (id to : ByteArray) (base g gv : Nat) (w : World) (i : Value) (wr : World) : Prop :=
  ∃ (k : Nat) (V : List ByteArray) (v : Value), i = .int .i64 (k : Int) ∧ k ≤ 400 ∧ V.length ≤ 1 + 4 * k ∧ Vi base g gv V v wr ∧ Below w.heap.size w wr ∧ descGo (tellT M) to (401 - k) V k = desc (tellT M) id to
set_option maxRecDepth 100000 in
set_option maxHeartbeats 2000000 in
theorem Descends_on (M : List KT) (id to : ByteArray) (gm q : Nat) (w : World) (hq : Arr w q 38 #[.map (some gm)]) (hM : MapX w gm (tx M)) :
    Calls Tryd.prog 13 #[.func (.func 12) #[] #[.pointer (some ⟨q, 0, none⟩)], .string id, .string to] w fun e w' => e = .returned (.bool (desc (tellT M) id to)) ∧ Below w.heap.size w w' := by
  have hb1 : Below w.heap.size w (w.alloc (.cells #[.string id] 9)) := (Below.refl _ _).alloc (Nat.le_refl _) _
  have C1 : Hid (Calls Tryd.prog 21 #[.slice (some ⟨w.heap.size, 0, none⟩) 1 1] (w.alloc (.cells #[.string id] 9)) (NvEnd (w.alloc (.cells #[.string id] 9)) [id])) :=
    newVisits_any [id] (some ⟨w.heap.size, 0, none⟩) 1 (w.alloc (.cells #[.string id] 9)) (fun k x hx => by
      cases k with
      | zero =>
        have e : x = id := by simpa using hx.symm
        subst e
        exact ⟨_, rfl, by simp [Addr.add], (Arr.new w 9 #[.string x]).cell 0⟩
      | succ k => simp at hx) (by simp)
  have CL := fun W x a b => Lib.hid (load_on M x gm q W a b)
  go_enter Tryd.func13, Tryd.ntmps13
  go_wp2_with fail
  (with_reducible refine C1.out.mono ?_)
  clear C1
  rintro _ W0 ⟨g, gv, v0, rfl, hV0, b0⟩
  have hws : w.heap.size ≤ (w.alloc (.cells #[.string id] 9)).heap.size := hb1.size
  have h1 : Hid (DsRel_on M id to (w.alloc (.cells #[.string id] 9)).heap.size g gv w (.int .i64 0) W0) := ⟨0, [id], v0, rfl, by omega, by simp, hV0, hb1.trans (b0.mono hws), rfl⟩
  have hwbase := hws
  generalize (w.alloc (.cells #[.string id] 9)).heap.size = base at *
  clear hV0 b0 hb1
  go_wp2_with fail
  go_loopw [8] (fun i wr => DsRel_on M id to base g gv w i wr) (fun i _ => 400 - (intOf i).toNat)
  case atStart => exact h1.out
  case round =>
    clear h1 W0
    obtain ⟨k, V, v, rfl, hk, hVl, hV, hB, hG⟩ := hrel
    obtain ⟨A, cc, rfl, hcc, hT, hA2⟩ := own_texts hV.row
    have g0 : wr.cell? ⟨g, 0, none⟩ = some (.slice A V.length cc) := hV.box.cell 0
    have HV := Lib.hid hV
    clear hV
    by_cases hlt : k < min V.length 400
    case neg =>
      have hGF : Hid (desc (tellT M) id to = false) := by
        show _ = _
        rw [← hG, show 401 - k = (400 - k) + 1 from by omega, descGo, if_neg hlt]
      clear hG
      rcases Nat.lt_or_ge 400 V.length with hm | hm
      · have hmi : (400 : Int) < V.length := by omega
        have hni : ¬ (k : Int) < 400 := by omega
        go_wp2_with fail
        go_ret
        exact ⟨by rw [hGF.out]; rfl, hB⟩
      · have hmi : ¬ (400 : Int) < V.length := by omega
        have hni : ¬ k < V.length := by omega
        go_wp2_with fail
        go_ret
        exact ⟨by rw [hGF.out]; rfl, hB⟩
    have hkV : k < V.length := by omega
    have hx : V[k]? = some V[k] := List.getElem?_eq_getElem hkV
    obtain ⟨ad, ead, hbl, c0⟩ := hT k V[k] hx
    subst ead
    have hG2 : desc (tellT M) id to = if V[k] = to then true else descGo (tellT M) to (401 - (k + 1)) (addAll V (loadR (tellT M V[k])).1.pars) (k + 1) := by
      rw [← hG, show 401 - k = (401 - (k + 1)) + 1 from by omega, descGo, if_pos hlt, List.getD_eq_getElem?_getD, hx, Option.getD_some]
    clear hG
    have HG := Lib.hid hG2
    clear hG2
    generalize V[k] = x at *
    clear hx
    rcases Nat.lt_or_ge 400 V.length with hm | hm
    · have hmi : (400 : Int) < V.length := by omega
      have hki : (k : Int) < 400 := by omega
      by_cases hxt : x = to
      · have hb : (x.toList == to.toList) = true := by rw [hxt]; exact beq_self_eq_true _
        have hGT : Hid (desc (tellT M) id to = true) := by show _ = _; rw [HG.out, if_pos hxt]
        clear HG hxt
        go_wp2_with fail
        go_ret
        exact ⟨by rw [hGT.out]; rfl, hB⟩
      have hb : (x.toList == to.toList) = false := by
        rw [beq_eq_false_iff_ne]
        intro q
        rw [toList_data, toList_data] at q
        exact hxt (bytes_eq q)
      have HG1 : Hid (descGo (tellT M) to (401 - (k + 1)) (addAll V (loadR (tellT M x)).1.pars) (k + 1) = desc (tellT M) id to) := by show _ = _; rw [HG.out, if_neg hxt]
      have CL1 := CL wr x (hq.below hB hq.lt) (hM.below hB hM.lt)
      have hpl := loadR_pars (tellT M x)
      generalize loadR (tellT M x) = R at *
      obtain ⟨o, e⟩ := R
      clear HG hxt
      go_wp2_with fail
      (with_reducible refine CL1.out.mono ?_)
      clear CL1
      rintro _ W2 ⟨p, rfl, hO, b1, hab⟩
      have bb : Below W2.heap.size W2 ((W2.alloc (.cells zeroO 45)).setRow W2.heap.size (obArr o p)) := below_setRow ((Below.refl _ _).alloc (Nat.le_refl _) _) (Nat.le_refl _) _
      have HF : Hid (Vi base g gv V (.slice (some ad) V.length cc) ((W2.alloc (.cells zeroO 45)).setRow W2.heap.size (obArr o p)) ∧ Arr ((W2.alloc (.cells zeroO 45)).setRow W2.heap.size (obArr o p)) W2.heap.size 45 (obArr o p) ∧ ObIn ((W2.alloc (.cells zeroO 45)).setRow W2.heap.size (obArr o p)) W2.heap.size o p ∧ W2.heap.size ≤ ((W2.alloc (.cells zeroO 45)).setRow W2.heap.size (obArr o p)).heap.size ∧ Below w.heap.size w ((W2.alloc (.cells zeroO 45)).setRow W2.heap.size (obArr o p))) :=
        ⟨(HV.out.bel b1).bel bb, (Arr.new _ _ _).row _, hO.below bb, bb.size, (hB.trans (b1.mono hB.size)).trans (bb.mono (Nat.le_trans hB.size b1.size))⟩
      have hadl : ad.block < wr.heap.size := by
        have e : (ad.add k).block = ad.block := by unfold Addr.add; split <;> rfl
        rw [← e]; exact hbl
      clear g0 c0 HV hT hA2 b1 hO bb
      go_upto_region 8 with (refine wpList_store_row rfl 45 _ _ rfl W2.heap.size (obArr o p) rfl rfl 45 zeroO (Arr.new W2 _ _) (obInfo _ _) rfl (obArr_one _ _) ?_)
      refine wp_forget (fun W => Vi base g gv V (.slice (some ad) V.length cc) W ∧ Arr W W2.heap.size 45 (obArr o p) ∧ ObIn W W2.heap.size o p ∧ W2.heap.size ≤ W.heap.size ∧ Below w.heap.size w W) (by exact HF.out) ?_
      clear HF
      rintro W3 ⟨hV3, hX, hO, hle, hB3⟩
      generalize W2.heap.size = b at *
      have c4 : W3.cell? ⟨b, 4, none⟩ = some (.slice p.pa o.pars.length p.pc) := hX.cell 4
      have hpl2 : o.pars.length ≤ 4 := hpl
      have C2 := Lib.hid (vadd_any hV3 o.pars p.pa p.pc (hO.pars.mono hle) (fun a ea e => by have := hab.2 a ea; have h2 : ad.block = a.block := Option.some.inj e; omega) (by omega))
      have hwb : w.heap.size ≤ base := hwbase
      have hbs := hV3.hs
      clear hX hO hV3 hpl
      go_wp2_with fail
      (with_reducible refine C2.out.mono ?_)
      clear C2 c4
      rintro _ W4 ⟨rfl, ⟨v', hV4⟩, b4⟩
      go_wp2_with fail
      go_roundw
      case rel =>
        have hal := addAll_len o.pars V
        exact ⟨k + 1, _, v', by rw [Int.natCast_add]; rfl, by omega, by omega, hV4, hB3.trans (b4.mono hwb), HG1.out⟩
      case measure => simp [intOf]; omega
    · have hmi : ¬ (400 : Int) < V.length := by omega
      by_cases hxt : x = to
      · have hb : (x.toList == to.toList) = true := by rw [hxt]; exact beq_self_eq_true _
        have hGT : Hid (desc (tellT M) id to = true) := by show _ = _; rw [HG.out, if_pos hxt]
        clear HG hxt
        go_wp2_with fail
        go_ret
        exact ⟨by rw [hGT.out]; rfl, hB⟩
      have hb : (x.toList == to.toList) = false := by
        rw [beq_eq_false_iff_ne]
        intro q
        rw [toList_data, toList_data] at q
        exact hxt (bytes_eq q)
      have HG1 : Hid (descGo (tellT M) to (401 - (k + 1)) (addAll V (loadR (tellT M x)).1.pars) (k + 1) = desc (tellT M) id to) := by show _ = _; rw [HG.out, if_neg hxt]
      have CL1 := CL wr x (hq.below hB hq.lt) (hM.below hB hM.lt)
      have hpl := loadR_pars (tellT M x)
      generalize loadR (tellT M x) = R at *
      obtain ⟨o, e⟩ := R
      clear HG hxt
      go_wp2_with fail
      (with_reducible refine CL1.out.mono ?_)
      clear CL1
      rintro _ W2 ⟨p, rfl, hO, b1, hab⟩
      have bb : Below W2.heap.size W2 ((W2.alloc (.cells zeroO 45)).setRow W2.heap.size (obArr o p)) := below_setRow ((Below.refl _ _).alloc (Nat.le_refl _) _) (Nat.le_refl _) _
      have HF : Hid (Vi base g gv V (.slice (some ad) V.length cc) ((W2.alloc (.cells zeroO 45)).setRow W2.heap.size (obArr o p)) ∧ Arr ((W2.alloc (.cells zeroO 45)).setRow W2.heap.size (obArr o p)) W2.heap.size 45 (obArr o p) ∧ ObIn ((W2.alloc (.cells zeroO 45)).setRow W2.heap.size (obArr o p)) W2.heap.size o p ∧ W2.heap.size ≤ ((W2.alloc (.cells zeroO 45)).setRow W2.heap.size (obArr o p)).heap.size ∧ Below w.heap.size w ((W2.alloc (.cells zeroO 45)).setRow W2.heap.size (obArr o p))) :=
        ⟨(HV.out.bel b1).bel bb, (Arr.new _ _ _).row _, hO.below bb, bb.size, (hB.trans (b1.mono hB.size)).trans (bb.mono (Nat.le_trans hB.size b1.size))⟩
      have hadl : ad.block < wr.heap.size := by
        have e : (ad.add k).block = ad.block := by unfold Addr.add; split <;> rfl
        rw [← e]; exact hbl
      clear g0 c0 HV hT hA2 b1 hO bb
      go_upto_region 8 with (refine wpList_store_row rfl 45 _ _ rfl W2.heap.size (obArr o p) rfl rfl 45 zeroO (Arr.new W2 _ _) (obInfo _ _) rfl (obArr_one _ _) ?_)
      refine wp_forget (fun W => Vi base g gv V (.slice (some ad) V.length cc) W ∧ Arr W W2.heap.size 45 (obArr o p) ∧ ObIn W W2.heap.size o p ∧ W2.heap.size ≤ W.heap.size ∧ Below w.heap.size w W) (by exact HF.out) ?_
      clear HF
      rintro W3 ⟨hV3, hX, hO, hle, hB3⟩
      generalize W2.heap.size = b at *
      have c4 : W3.cell? ⟨b, 4, none⟩ = some (.slice p.pa o.pars.length p.pc) := hX.cell 4
      have hpl2 : o.pars.length ≤ 4 := hpl
      have C2 := Lib.hid (vadd_any hV3 o.pars p.pa p.pc (hO.pars.mono hle) (fun a ea e => by have := hab.2 a ea; have h2 : ad.block = a.block := Option.some.inj e; omega) (by omega))
      have hwb : w.heap.size ≤ base := hwbase
      have hbs := hV3.hs
      clear hX hO hV3 hpl
      go_wp2_with fail
      (with_reducible refine C2.out.mono ?_)
      clear C2 c4
      rintro _ W4 ⟨rfl, ⟨v', hV4⟩, b4⟩
      go_wp2_with fail
      go_roundw
      case rel =>
        have hal := addAll_len o.pars V
        exact ⟨k + 1, _, v', by rw [Int.natCast_add]; rfl, by omega, by omega, hV4, hB3.trans (b4.mono hwb), HG1.out⟩
      case measure => simp [intOf]; omega
end Go.Proofs.YtilolbefeoibhaaDoor

/- keep.StoreOnward: the walk. -/
namespace Go.Proofs.YtilolbefeoibhaaDoor
open Go.RowKit

def OnRel (T : List ByteArray) (gm q : Nat) (w : World) (i : Value) (wr : World) : Prop :=
  ∃ (k : Nat) (M : List KT), i = .int .i64 (k : Int) ∧ k ≤ T.length ∧ k ≤ 80 ∧ Arr wr q 38 #[.map (some gm)] ∧ MapX wr gm (tx M) ∧ (∀ id s, getT id M = some s → s ∈ T.take k) ∧ w.heap.size ≤ gm ∧ Below w.heap.size w wr
def OnW (w : World) (M : List KT) (gm q : Nat) (W : World) : Prop := Arr W q 38 #[.map (some gm)] ∧ MapX W gm (tx M) ∧ Below w.heap.size w W
theorem OnW.below {w : World} {M : List KT} {gm q : Nat} {W W' : World} (h : OnW w M gm q W) (b : Below W.heap.size W W') : OnW w M gm q W' := ⟨h.1.below b h.1.lt, h.2.1.below b h.2.1.lt, h.2.2.trans (b.mono h.2.2.size)⟩
theorem getT_nil (id : ByteArray) : getT id [] = none := rfl
set_option maxRecDepth 100000 in
set_option maxHeartbeats 2000000 in
theorem StoreOnward_any (T : List ByteArray) (a b c : ByteArray) (A : Option Addr) (cc : Nat) (w : World) (hT : Txs w w.heap.size A T) (hz : ∀ x ∈ T, x.size ≤ 140737488355328) (hl : T.length ≤ 140737488355328) (ht : Tab w) :
    Calls Tryd.prog 4 #[.slice A T.length cc, .string a, .string b, .string c] w fun e w' => e = .returned (.bool true) ∧ Below w.heap.size w w' := by
  have hmm : ∀ W : World, (Instr.makeMap 38 none).run Tryd.prog W = .ok (.map (some W.heap.size)) (W.alloc (.map #[] 0)) := fun _ => rfl
  have h1 : Hid (OnRel T w.heap.size (w.heap.size + 1) w (.int .i64 0) ((w.alloc (.map #[] 0)).alloc (.cells #[.map (some w.heap.size)] 38))) := by
    have b1 : Below w.heap.size w (w.alloc (.map #[] 0)) := (Below.refl _ _).alloc (Nat.le_refl _) _
    have hM : MapX (w.alloc (.map #[] 0)) w.heap.size [] := MapX.new w
    exact ⟨0, [], rfl, Nat.zero_le _, by omega, Arr.new_at _ _ _ (by simp), (Below.heap_alloc _ _ _ hM.lt).trans hM, (fun id s h => by cases h), Nat.le_refl _, b1.alloc (by simp) _⟩
  have HTb := Lib.hid ht
  clear ht
  go_enter Tryd.func4, Tryd.ntmps4
  go_wp2_with fail
  go_loopw [10] (fun i wr => OnRel T w.heap.size (w.heap.size + 1) w i wr) (fun i _ => T.length - (intOf i).toNat)
  case atStart => exact h1.out
  case round =>
    clear h1 hmm
    obtain ⟨k, M, rfl, hk, hk8, hq, hM, hMt, _, hB⟩ := hrel
    by_cases hlt : k < T.length ∧ k < 80
    case neg =>
      have hG : ∀ id s, getT id M = some s → s ∈ T.take 80 := fun id s h => by
        have := hMt id s h
        exact List.mem_of_mem_take (i := k) (by rw [List.take_take, Nat.min_eq_left (by omega)]; exact this)
      have ho := onward (M := M) (l := T.take 80) (by rw [List.length_take]; omega) hG
      obtain ⟨o1, _⟩ := ho a b c
      have o2 := (ho a b c).2
      have HO : Hid (desc (tellT M) a b = true → desc (tellT M) b c = true → desc (tellT M) a c = true) := o2
      have CD := fun x y V p q => Lib.hid (Descends_on M x y w.heap.size (w.heap.size + 1) V p q)
      have CK := fun V h => Lib.hid (stores_keep V h)
      have hlt2 : ¬ ((k : Int) < T.length ∧ (k : Int) < 80) := by omega
      have D1 := CD a b
      have D2 := CD b c
      have D3 := CD a c
      have D4 := CD a a
      rw [o1] at D4
      generalize desc (tellT M) a b = x at *
      generalize desc (tellT M) b c = y at *
      generalize desc (tellT M) a c = z at *
      have HW : Hid (OnW w M w.heap.size (w.heap.size + 1) wr) := ⟨hq, hM, hB⟩
      clear CD hG ho o1 o2 hMt hq hM hB hlt
      have HX : ∀ W, OnW w M w.heap.size (w.heap.size + 1) W → Tab W := fun W h => HTb.out.below h.2.2 HTb.out.1
      rcases Nat.lt_or_ge k T.length with hk2 | hk2
      · have hi : (k : Int) < T.length := by omega
        have hi8 : ¬ (k : Int) < 80 := by omega
        obtain ⟨e1, e2, e3⟩ := HW.out
        go_wp2_with fail
        (with_reducible refine (D1 wr e1 e2).out.mono ?_)
        rintro _ w1 ⟨rfl, b1⟩
        have V1 := OnW.below ⟨e1, e2, e3⟩ b1
        obtain ⟨e1, e2, e3⟩ := V1
        go_wp2_with fail
        (with_reducible refine (D2 w1 e1 e2).out.mono ?_)
        rintro _ w2 ⟨rfl, b2⟩
        have V2 := OnW.below ⟨e1, e2, e3⟩ b2
        obtain ⟨e1, e2, e3⟩ := V2
        go_wp2_with fail
        (with_reducible refine (D3 w2 e1 e2).out.mono ?_)
        rintro _ w3 ⟨rfl, b3⟩
        have V3 := OnW.below ⟨e1, e2, e3⟩ b3
        obtain ⟨e1, e2, e3⟩ := V3
        go_wp2_with fail
        (with_reducible refine (D4 w3 e1 e2).out.mono ?_)
        rintro _ w4 ⟨rfl, b4⟩
        have V4 := OnW.below ⟨e1, e2, e3⟩ b4
        have hT4 := HX w4 V4
        obtain ⟨e1, e2, e3⟩ := V4
        have hz : x = false ∨ y = false ∨ z = true := by
          cases x with
          | false => exact .inl rfl
          | true =>
            cases y with
            | false => exact .inr (.inl rfl)
            | true => exact .inr (.inr (HO.out rfl rfl))
        rcases hz with rfl | rfl | rfl
        · go_wp2_with fail
          (with_reducible refine (CK w4 hT4).out.mono ?_)
          rintro _ w5 ⟨rfl, b5⟩
          go_wp2_with fail
          go_ret
          exact ⟨rfl, e3.trans (b5.mono e3.size)⟩
        · cases x
          all_goals
            go_wp2_with fail
            (with_reducible refine (CK w4 hT4).out.mono ?_)
            rintro _ w5 ⟨rfl, b5⟩
            go_wp2_with fail
            go_ret
            exact ⟨rfl, e3.trans (b5.mono e3.size)⟩
        · cases x
          all_goals
            cases y
            all_goals
              go_wp2_with fail
              (with_reducible refine (CK w4 hT4).out.mono ?_)
              rintro _ w5 ⟨rfl, b5⟩
              go_wp2_with fail
              go_ret
              exact ⟨rfl, e3.trans (b5.mono e3.size)⟩
      · have hi : ¬ (k : Int) < T.length := by omega
        obtain ⟨e1, e2, e3⟩ := HW.out
        go_wp2_with fail
        (with_reducible refine (D1 wr e1 e2).out.mono ?_)
        rintro _ w1 ⟨rfl, b1⟩
        have V1 := OnW.below ⟨e1, e2, e3⟩ b1
        obtain ⟨e1, e2, e3⟩ := V1
        go_wp2_with fail
        (with_reducible refine (D2 w1 e1 e2).out.mono ?_)
        rintro _ w2 ⟨rfl, b2⟩
        have V2 := OnW.below ⟨e1, e2, e3⟩ b2
        obtain ⟨e1, e2, e3⟩ := V2
        go_wp2_with fail
        (with_reducible refine (D3 w2 e1 e2).out.mono ?_)
        rintro _ w3 ⟨rfl, b3⟩
        have V3 := OnW.below ⟨e1, e2, e3⟩ b3
        obtain ⟨e1, e2, e3⟩ := V3
        go_wp2_with fail
        (with_reducible refine (D4 w3 e1 e2).out.mono ?_)
        rintro _ w4 ⟨rfl, b4⟩
        have V4 := OnW.below ⟨e1, e2, e3⟩ b4
        have hT4 := HX w4 V4
        obtain ⟨e1, e2, e3⟩ := V4
        have hz : x = false ∨ y = false ∨ z = true := by
          cases x with
          | false => exact .inl rfl
          | true =>
            cases y with
            | false => exact .inr (.inl rfl)
            | true => exact .inr (.inr (HO.out rfl rfl))
        rcases hz with rfl | rfl | rfl
        · go_wp2_with fail
          (with_reducible refine (CK w4 hT4).out.mono ?_)
          rintro _ w5 ⟨rfl, b5⟩
          go_wp2_with fail
          go_ret
          exact ⟨rfl, e3.trans (b5.mono e3.size)⟩
        · cases x
          all_goals
            go_wp2_with fail
            (with_reducible refine (CK w4 hT4).out.mono ?_)
            rintro _ w5 ⟨rfl, b5⟩
            go_wp2_with fail
            go_ret
            exact ⟨rfl, e3.trans (b5.mono e3.size)⟩
        · cases x
          all_goals
            cases y
            all_goals
              go_wp2_with fail
              (with_reducible refine (CK w4 hT4).out.mono ?_)
              rintro _ w5 ⟨rfl, b5⟩
              go_wp2_with fail
              go_ret
              exact ⟨rfl, e3.trans (b5.mono e3.size)⟩
    have hi : (k : Int) < T.length := by omega
    have hi8 : (k : Int) < 80 := by omega
    have hx : T[k]? = some T[k] := List.getElem?_eq_getElem hlt.1
    obtain ⟨ad, rfl, hbl, h0⟩ := hT k T[k] hx
    have hzx : T[k].size ≤ 140737488355328 := hz T[k] (List.getElem_mem hlt.1)
    have hMt2 : ∀ D id s, getT id (upT D T[k] M) = some s → s ∈ T.take (k + 1) := fun D id s h => by
      rw [getT_up] at h
      rw [take_next2 hx, List.mem_append, List.mem_singleton]
      split at h
      · cases h; exact .inr rfl
      · exact .inl (hMt id s h)
    have HMt := Lib.hid hMt2
    clear hMt hMt2 hx
    generalize T[k] = x at *
    have hW : Below w.heap.size w wr.drew := hB.drew
    have q0 : wr.drew.cell? ⟨w.heap.size + 1, 0, none⟩ = some (.map (some w.heap.size)) := hq.cell 0
    have q1 : wr.drew.cell? (ad.add k) = some (.string x) := (hW.cell hbl).trans h0
    have C := Lib.hid (Id_any x (by omega) wr.drew (HTb.out.below hW HTb.out.1))
    change Hid (Calls _ _ _ _ fun e w' => e = .returned (.string (sumB x)) ∧ _) at C
    generalize sumB x = D at *
    have hMd : MapX wr.drew w.heap.size (tx M) := hM
    have hqd : Arr wr.drew (w.heap.size + 1) 38 #[.map (some w.heap.size)] := hq
    go_upto_region 5 with fail
    go_region_law (first
      | fail
      | (go_simp; go_at_call 11; (with_reducible refine C.out.mono ?_); rintro _ w2 ⟨rfl, b2⟩
         have hM2 := hMd.below b2 hMd.lt
         have hq2 := hqd.below b2 hqd.lt
         have hB2 := hW.trans (b2.mono hW.size)
         have r0 : w2.cell? ⟨w.heap.size + 1, 0, none⟩ = some (.map (some w.heap.size)) := hq2.cell 0
         have r1 : w2.cell? (ad.add k) = some (.string x) := (hB2.cell hbl).trans h0
         obtain ⟨w3, hrun, hM3, g3⟩ := run_upX Tryd.underlying38 hM2 D (.string x)))
    all_goals
      rw [tx_up] at hM3
      have hne : w.heap.size + 1 ≠ w.heap.size := by omega
      have hq3 := hq2.kept g3 (fun e => hne (Option.some.inj e))
      have hB3 := below_gb hB2 g3 (Nat.le_refl _) hB2.size
      go_wp2_with fail
      go_roundw
      case rel => exact ⟨k + 1, _, by rw [Int.natCast_add]; rfl, by omega, by omega, hq3, hM3, HMt.out D, Nat.le_refl _, hB3⟩
      case measure => simp [intOf]; omega
end Go.Proofs.YtilolbefeoibhaaDoor
