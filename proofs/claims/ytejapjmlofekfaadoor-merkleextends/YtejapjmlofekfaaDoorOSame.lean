/- Texts in one: MkRoot, MkPath, MkCheck, MkProof, MkGrow, MkExt, OSame. -/
import Derived.Test.YtejapjmlofekfaaDoorWDone
import Derived.Test.YtejapjmlofekfaaDoorOApp
import Derived.BigQuiet
import Derived.Deep.QuietTactic
import Derived.Deep.RegionLaw
import Derived.Test.YtejapjmlofekfaaDoorOMem
import Derived.Deep.Cut
/- merkle.Root: its contract. -/
namespace Go.Proofs.YtejapjmlofekfaaDoor
open Go.RowKit

theorem Txs.take {w : World} {B : Nat} {A : Option Addr} {T : List ByteArray} (h : Txs w B A T) (k : Nat) : Txs w B A (T.take k) := fun j x hx => by
  refine h j x ?_
  rw [List.getElem?_take] at hx
  split at hx
  · exact hx
  · cases hx
theorem Txs.drop {w : World} {B : Nat} {ad : Addr} {T : List ByteArray} (h : Txs w B (some ad) T) (k : Nat) : Txs w B (some (ad.add k)) (T.drop k) := fun j x hx => by
  rw [List.getElem?_drop] at hx
  obtain ⟨ad2, e, h1, h2⟩ := h _ _ hx
  cases e
  exact ⟨_, rfl, by rw [Addr.add_add]; exact h1, by rw [Addr.add_add]; exact h2⟩
def Short (T : List ByteArray) : Prop := ∀ x ∈ T, x.size ≤ 140737488355328
theorem Short.take {T : List ByteArray} (h : Short T) (k : Nat) : Short (T.take k) := fun x hx => h x (List.mem_of_mem_take hx)
theorem Short.drop {T : List ByteArray} (h : Short T) (k : Nat) : Short (T.drop k) := fun x hx => h x (List.mem_of_mem_drop hx)
/-- what a text's call leaves -/
def TEnd (w : World) (s : ByteArray) (e : Ending) (w' : World) : Prop := e = .returned (.string s) ∧ Below w.heap.size w w'
set_option maxRecDepth 100000 in
set_option maxHeartbeats 1000000 in
theorem Root_any : ∀ (N : Nat) (T : List ByteArray), T.length ≤ N → T.length ≤ 140737488355328 → Short T → ∀ (A : Option Addr) (c : Nat) (w : World), Txs w w.heap.size A T → T.length ≤ c → Tab w →
    Calls Tryd.prog 12 #[.slice A T.length c] w (TEnd w (rootL T))
  | N, [], _, _, _, A, c, w, _, _, ht => by
    rw [rootL_nil]
    go_enter Tryd.func12, Tryd.ntmps12
    go_wp2_with fail
    (with_reducible refine (Sum_any _ (by decide) _ ht).mono ?_)
    rintro _ w1 ⟨rfl, b1⟩
    go_wp2_with fail
    go_ret
    exact ⟨rfl, b1⟩
  | N, [x], _, _, hs, A, c, w, hT, _, ht => by
    rw [rootL_one]
    obtain ⟨ad, rfl, _, h0⟩ := hT 0 x rfl
    rw [show ad.add 0 = ad from by simp [Addr.add]] at h0
    have hx := hs x List.mem_cons_self
    go_enter Tryd.func12, Tryd.ntmps12
    go_wp2_with fail
    (with_reducible refine (Leaf_any x (by omega) _ ht).mono ?_)
    rintro _ w1 ⟨rfl, b1⟩
    go_wp2_with fail
    go_ret
    exact ⟨rfl, b1⟩
  | N + 1, x :: y :: l, hN, hm, hs, A, c, w, hT, hc, ht => by
    generalize hL : x :: y :: l = T at *
    have h2 : 2 ≤ T.length := by rw [← hL]; simp
    obtain ⟨ad, rfl, hb, _⟩ := hT 0 x (by rw [← hL]; rfl)
    clear hL hb
    have k1 := spl_lt h2
    have k0 := spl_pos T.length
    have C0 := Lib.hid (split_any T.length h2 (by omega) w)
    have ih := Root_any N
    have e1 : (T.take (spl T.length)).length = spl T.length := by rw [List.length_take]; omega
    have e2 : (T.drop (spl T.length)).length = T.length - spl T.length := by rw [List.length_drop]
    have C1 : ∀ W, Hid (Txs W W.heap.size (some ad) T → Tab W → Calls Tryd.prog 12 #[.slice (some ad) (spl T.length) c] W (TEnd W (rootL (T.take (spl T.length))))) := fun W p q => by
      have := ih (T.take (spl T.length)) (by omega) (by omega) (hs.take _) (some ad) c W (p.take _) (by omega) q
      rw [e1] at this
      exact this
    have C2 : ∀ W, Hid (Txs W W.heap.size (some ad) T → Tab W → Calls Tryd.prog 12 #[.slice (some (ad.add (spl T.length))) (T.length - spl T.length) (c - spl T.length)] W (TEnd W (rootL (T.drop (spl T.length))))) := fun W p q => by
      have := ih (T.drop (spl T.length)) (by omega) (by omega) (hs.drop _) (some (ad.add (spl T.length))) (c - spl T.length) W (p.drop _) (by omega) q
      rw [e2] at this
      exact this
    have C3 : ∀ W, Hid (Tab W → Calls Tryd.prog 24 #[.string (rootL (T.take (spl T.length))), .string (rootL (T.drop (spl T.length)))] W (TEnd W (rootL T))) := fun W q => by
      rw [rootL_two h2]
      exact Node_any _ _ (by rw [rootL_size]; decide) (by rw [rootL_size]; decide) W q
    clear ih e1 e2
    generalize spl T.length = k at *
    generalize rootL (T.take k) = ra at *
    generalize rootL (T.drop k) = rb at *
    generalize rootL T = r at *
    have n0 : ¬ ((T.length : Int) = 0) := by omega
    have n1 : ¬ ((T.length : Int) = 1) := by omega
    have n2 : ¬ (c = k) := by omega
    have n3 : k ≤ c := by omega
    have n4 : k ≤ T.length := by omega
    have HT := Lib.hid hT
    clear hT
    have ht2 := Lib.hid ht
    clear ht
    generalize hn : T.length = n at *
    have Hn := Lib.hid hn
    clear hn
    go_enter Tryd.func12, Tryd.ntmps12
    go_wp2_with fail
    (with_reducible refine C0.out.mono ?_)
    rintro _ w1 ⟨rfl, rfl⟩
    go_wp2_with fail
    have HTd : Hid (Txs w1.drew w1.drew.heap.size (some ad) T) := HT
    have htd : Hid (Tab w1.drew) := ht2
    have Cd := C1 w1.drew
    go_region_law (first
      | (go_simp; go_at_call 12; (with_reducible refine (Cd.out HTd.out htd.out).mono ?_); rintro _ w2 ⟨rfl, b2⟩; have HT2 := Lib.hid ((HTd.out.below b2).mono b2.size); have ht3 := Lib.hid (htd.out.below b2 htd.out.1))
      | (go_simp; go_at_call 12; (with_reducible refine ((C2 _).out HT2.out ht3.out).mono ?_); rintro _ w3 ⟨rfl, b3⟩; have ht4 := Lib.hid (ht3.out.below b3 ht3.out.1))
      | (go_simp; go_at_call 24; (with_reducible refine ((C3 _).out ht4.out).mono ?_); rintro _ w4 ⟨rfl, b4⟩))
    go_wp2_with fail
    go_ret
    have b1 : Below w1.heap.size w1 w1.drew := below_drewN (Below.refl _ _) 1
    have b12 := b1.trans (b2.mono b1.size)
    have b13 := b12.trans (b3.mono b12.size)
    exact ⟨rfl, b13.trans (b4.mono b13.size)⟩
end Go.Proofs.YtejapjmlofekfaaDoor

/- merkle.Path: its contract. -/
namespace Go.Proofs.YtejapjmlofekfaaDoor
open Go.RowKit

/-- a row of texts of one's own -/
def TRow (w : World) (base : Nat) (v : Value) (T : List ByteArray) : Prop := w.ownsRow base 9 1 v T.length (T.map sv)
theorem TRow.up {w w' : World} {base : Nat} {v : Value} {T : List ByteArray} (h : TRow w base v T) (hb : Below w.heap.size w w') : TRow w' base v T := by
  refine ⟨h.1, ?_⟩
  rcases h.2 with hn | ⟨g, cap, cur, hv, hbs, hg, rest⟩
  · exact .inl hn
  · exact .inr ⟨g, cap, cur, hv, hbs, (hb.block g (Array.getElem?_eq_some_iff.1 hg).1).trans hg, rest⟩
theorem TRow.less {w : World} {base B : Nat} {v : Value} {T : List ByteArray} (h : TRow w base v T) (hb : B ≤ base) : TRow w B v T := by
  refine ⟨h.1, ?_⟩
  rcases h.2 with hn | ⟨g, cap, cur, hv, hbs, rest⟩
  · exact .inl hn
  · exact .inr ⟨g, cap, cur, hv, Nat.le_trans hb hbs, rest⟩
theorem TRow.new {w : World} {base : Nat} {v : Value} {T : List ByteArray} (h : TRow w base v T) (x : ByteArray) : TRow (w.alloc (.cells #[.string x] 9)) base v T := h.up ((Below.refl _ _).alloc (Nat.le_refl _) _)
theorem TRow.nil (w : World) (base : Nat) : TRow w base (.slice none 0 0) [] := own_nil _ _ _ _
theorem news_new (w : World) (x : ByteArray) : News (w.alloc (.cells #[.string x] 9)) (some ⟨w.heap.size, 0, none⟩) 1 [.string x] :=
  ⟨(fun e => by cases e), fun ad e j u hu => by cases e; exact new_cells w [.string x] _ j u hu⟩
theorem one_str (x : ByteArray) : ∀ u ∈ [Value.string x], u.oneCell' = true := fun u hu => by
  rw [List.mem_singleton.1 hu]; rfl
theorem TRow.more {w : World} {base : Nat} {v : Value} {T : List ByteArray} {x : ByteArray} (h : w.ownsRow base 9 1 v (T.length + 1) (T.map sv ++ [.string x])) : TRow w base v (T ++ [x]) := by
  unfold TRow
  rw [List.length_append, List.map_append]
  exact h
theorem row_below {w w1 w2 : World} {base : Nat} {v : Value} {T : List ByteArray} (h : TRow w1 base v T) (hb : w.heap.size ≤ base) (b : Below w.heap.size w w1) (k : w1.grownBy w2 v.ownBlock) : Below w.heap.size w w2 :=
  b.grown k b.size (fun q hq => Nat.le_trans hb (own_row_ge h q hq))
theorem new_below (w : World) (x : ByteArray) : Below w.heap.size w (w.alloc (.cells #[.string x] 9)) := (Below.refl _ _).alloc (Nat.le_refl _) _
/-- what a call leaves that answers with a row of its own -/
def REnd (w : World) (T : List ByteArray) (e : Ending) (w' : World) : Prop := ∃ v, e = .returned v ∧ TRow w' w.heap.size v T ∧ Below w.heap.size w w'
theorem pathL_60 {T : List ByteArray} {i : Nat} (hm : T.length ≤ 140737488355328) : (pathL T i).length ≤ 60 := by
  by_cases h : i < T.length
  · rw [pathL_len _ T i (Nat.le_refl _) h]
    exact Nat.le_trans (sidesN_len 47 _ _ (Nat.le_trans hm (by decide))) (by decide)
  · rw [pathL_no (.inr (by omega))]; simp
theorem Path_no (T : List ByteArray) (i : Int) (hi : i < 0 ∨ (T.length : Int) ≤ i ∨ T.length = 1) (A : Option Addr) (c : Nat) (w : World) :
    Calls Tryd.prog 16 #[.slice A T.length c, .int .i64 i] w (REnd w []) := by
  by_cases h0 : i < 0
  · go_enter Tryd.func16, Tryd.ntmps16
    go_wp2_with fail
    go_ret
    exact ⟨_, rfl, TRow.nil _ _, Below.refl _ _⟩
  · by_cases h1 : (T.length : Int) ≤ i
    · go_enter Tryd.func16, Tryd.ntmps16
      go_wp2_with fail
      go_ret
      exact ⟨_, rfl, TRow.nil _ _, Below.refl _ _⟩
    · have h2 : T.length = 1 := by omega
      rw [h2] at h1 ⊢
      go_enter Tryd.func16, Tryd.ntmps16
      go_wp2_with fail
      go_ret
      exact ⟨_, rfl, TRow.nil _ _, Below.refl _ _⟩
set_option maxRecDepth 100000 in
set_option maxHeartbeats 1000000 in
theorem Path_in : ∀ (N : Nat) (T : List ByteArray) (i : Nat), T.length ≤ N → T.length ≤ 140737488355328 → Short T → i < T.length → ∀ (A : Option Addr) (c : Nat) (w : World), Txs w w.heap.size A T → T.length ≤ c → Tab w →
    Calls Tryd.prog 16 #[.slice A T.length c, .int .i64 (i : Int)] w (REnd w (pathL T i))
  | 0, T, i, hN, _, _, hi, A, c, w, _, _, _ => by omega
  | N + 1, T, i, hN, hm, hs, hi, A, c, w, hT, hc, ht => by
    by_cases h2 : 2 ≤ T.length
    case neg =>
      have e : T.length = 1 := by omega
      rw [pathL_no (.inl (by omega))]
      exact Path_no T _ (.inr (.inr e)) A c w
    have ih := Path_in N
    obtain ⟨si, hsi, sz0, sz1, sz2⟩ := info_parts info_str
    have Hsi := Lib.hid hsi
    have Sz0 := Lib.hid sz0
    have Sz1 := Lib.hid sz1
    have Sz2 := Lib.hid sz2
    clear hsi sz0 sz1 sz2
    obtain ⟨ad, rfl, hb, hb2⟩ := hT 0 T[0] (List.getElem?_eq_getElem (by omega))
    clear hb hb2
    have k1 := spl_lt h2
    have k0 := spl_pos T.length
    have C0 := Lib.hid (split_any T.length h2 (by omega) w)
    have e1 : (T.take (spl T.length)).length = spl T.length := by rw [List.length_take]; omega
    have e2 : (T.drop (spl T.length)).length = T.length - spl T.length := by rw [List.length_drop]
    by_cases hk : i < spl T.length
    · skip
      have C1 : ∀ W, Hid (Txs W W.heap.size (some ad) T → Tab W → Calls Tryd.prog 16 #[.slice (some ad) (spl T.length) c, .int .i64 (i : Int)] W (REnd W (pathL (T.take (spl T.length)) i))) := fun W p q => by
        have := ih (T.take (spl T.length)) i (by omega) (by omega) (hs.take _) (by omega) (some ad) c W (p.take _) (by omega) q
        rw [e1] at this
        exact this
      have C2 : ∀ W, Hid (Txs W W.heap.size (some ad) T → Tab W → Calls Tryd.prog 12 #[.slice (some (ad.add (spl T.length))) (T.length - spl T.length) (c - spl T.length)] W (TEnd W (rootL (T.drop (spl T.length))))) := fun W p q => by
        have := Root_any _ (T.drop (spl T.length)) (Nat.le_refl _) (by omega) (hs.drop _) (some (ad.add (spl T.length))) (c - spl T.length) W (p.drop _) (by omega) q
        rw [e2] at this
        exact this
      rw [pathL_lo h2 hk]
      have hp := pathL_60 (T := T.take (spl T.length)) (i := i) (by omega)
      clear ih e1 e2
      generalize rootL (T.drop (spl T.length)) = rb at *
      generalize pathL (T.take (spl T.length)) i = P at *
      generalize spl T.length = k at *
      have n2 : ¬ (c = k) := by omega
      have n3 : k ≤ c := by omega
      have n4 : k ≤ T.length := by omega
      have q1 : ¬ ((i : Int) < 0) := by omega
      have q2 : ¬ ((T.length : Int) ≤ i) := by omega
      have n1 : ¬ ((T.length : Int) = 1) := by omega
      have n5 : (i : Int) < k := by omega
      have HT := Lib.hid hT
      have ht2 := Lib.hid ht
      clear hT ht
      generalize hn : T.length = n at *
      have Hn := Lib.hid hn
      clear hn
      go_enter Tryd.func16, Tryd.ntmps16
      go_wp2_with fail
      (with_reducible refine C0.out.mono ?_)
      rintro _ w1 ⟨rfl, rfl⟩
      have HTd : Hid (Txs w1.drew w1.drew.heap.size (some ad) T) := HT
      have htd : Hid (Tab w1.drew) := ht2
      have b1 : Hid (Below w1.heap.size w1 w1.drew) := below_drewN (Below.refl _ _) 1
      have Cd := C1 w1.drew
      go_wp2_with fail
      go_region_law (first
        | (go_simp; go_at_call 16; (with_reducible refine (Cd.out HTd.out htd.out).mono ?_); rintro _ w2 ⟨v, rfl, own, b2⟩
           have HT2 := Lib.hid ((HTd.out.below b2).mono b2.size); have ht3 := Lib.hid (htd.out.below b2 htd.out.1))
        | (go_simp; go_at_call 12; (with_reducible refine ((C2 _).out HT2.out ht3.out).mono ?_); rintro _ w3 ⟨rfl, b3⟩
           have own3 := (own.up b3).new rb
           have b13 := (b1.out.trans (b2.mono b1.out.size))
           have b14 := b13.trans (b3.mono b13.size)
           have b15 := b14.trans ((new_below w3 rb).mono b14.size))
        | (refine step_app _ rfl _ _ 22 rfl w1.heap.size 9 si _ 1 16 Tryd.underlying22 Hsi.out Sz0.out Sz1.out Sz2.out rfl (by decide) _ _ _ rfl own3 (some ⟨w3.heap.size, 0, none⟩) 1 1 [.string rb] rfl rfl (news_new w3 rb) (one_str rb) (by unfold maxLen; omega) (by omega) b15.size ?_
           intro v4 w4 own4 g4))
      all_goals
        go_wp2_with fail
        go_ret
        exact ⟨v4, rfl, TRow.more own4, row_below own3 (Nat.le_refl _) b15 g4⟩
    · skip
      have C1 : ∀ W, Hid (Txs W W.heap.size (some ad) T → Tab W → Calls Tryd.prog 16 #[.slice (some (ad.add (spl T.length))) (T.length - spl T.length) (c - spl T.length), .int .i64 ((i : Int) - ((spl T.length : Nat) : Int))] W (REnd W (pathL (T.drop (spl T.length)) (i - spl T.length)))) := fun W p q => by
        have := ih (T.drop (spl T.length)) (i - spl T.length) (by omega) (by omega) (hs.drop _) (by omega) (some (ad.add (spl T.length))) (c - spl T.length) W (p.drop _) (by omega) q
        rw [e2] at this
        rw [show ((i - spl T.length : Nat) : Int) = (i : Int) - ((spl T.length : Nat) : Int) from by omega] at this
        exact this
      have C2 : ∀ W, Hid (Txs W W.heap.size (some ad) T → Tab W → Calls Tryd.prog 12 #[.slice (some ad) (spl T.length) c] W (TEnd W (rootL (T.take (spl T.length))))) := fun W p q => by
        have := Root_any _ (T.take (spl T.length)) (Nat.le_refl _) (by omega) (hs.take _) (some ad) c W (p.take _) (by omega) q
        rw [e1] at this
        exact this
      rw [pathL_hi h2 hi (by omega)]
      have hp := pathL_60 (T := T.drop (spl T.length)) (i := i - spl T.length) (by omega)
      clear ih e1 e2
      generalize rootL (T.take (spl T.length)) = rb at *
      generalize pathL (T.drop (spl T.length)) (i - spl T.length) = P at *
      generalize spl T.length = k at *
      have n2 : ¬ (c = k) := by omega
      have n3 : k ≤ c := by omega
      have n4 : k ≤ T.length := by omega
      have q1 : ¬ ((i : Int) < 0) := by omega
      have q2 : ¬ ((T.length : Int) ≤ i) := by omega
      have n1 : ¬ ((T.length : Int) = 1) := by omega
      have n5 : ¬ ((i : Int) < k) := by omega
      have HT := Lib.hid hT
      have ht2 := Lib.hid ht
      clear hT ht
      generalize hn : T.length = n at *
      have Hn := Lib.hid hn
      clear hn
      go_enter Tryd.func16, Tryd.ntmps16
      go_wp2_with fail
      (with_reducible refine C0.out.mono ?_)
      rintro _ w1 ⟨rfl, rfl⟩
      have HTd : Hid (Txs w1.drew w1.drew.heap.size (some ad) T) := HT
      have htd : Hid (Tab w1.drew) := ht2
      have b1 : Hid (Below w1.heap.size w1 w1.drew) := below_drewN (Below.refl _ _) 1
      have Cd := C1 w1.drew
      go_wp2_with fail
      have HW : IntKind.i64.wrap ((i : Int) - (k : Int)) = (i : Int) - (k : Int) := IntWalk.i64_in _ (by omega)
      go_region_law (first
        | (go_simp; go_at_call 16; (with_reducible refine (Cd.out HTd.out htd.out).mono ?_); rintro _ w2 ⟨v, rfl, own, b2⟩
           have HT2 := Lib.hid ((HTd.out.below b2).mono b2.size); have ht3 := Lib.hid (htd.out.below b2 htd.out.1))
        | (go_simp; go_at_call 12; (with_reducible refine ((C2 _).out HT2.out ht3.out).mono ?_); rintro _ w3 ⟨rfl, b3⟩
           have own3 := (own.up b3).new rb
           have b13 := (b1.out.trans (b2.mono b1.out.size))
           have b14 := b13.trans (b3.mono b13.size)
           have b15 := b14.trans ((new_below w3 rb).mono b14.size))
        | (refine step_app _ rfl _ _ 22 rfl w1.heap.size 9 si _ 1 16 Tryd.underlying22 Hsi.out Sz0.out Sz1.out Sz2.out rfl (by decide) _ _ _ rfl own3 (some ⟨w3.heap.size, 0, none⟩) 1 1 [.string rb] rfl rfl (news_new w3 rb) (one_str rb) (by unfold maxLen; omega) (by omega) b15.size ?_
           intro v4 w4 own4 g4))
      all_goals
        go_wp2_with fail
        go_ret
        exact ⟨v4, rfl, TRow.more own4, row_below own3 (Nat.le_refl _) b15 g4⟩
end Go.Proofs.YtejapjmlofekfaaDoor

/- merkle.divide, climb, Check: their contracts. -/
namespace Go.Proofs.YtejapjmlofekfaaDoor
open Go.RowKit

theorem Txs.init {w : World} {B : Nat} {A : Option Addr} {Q : List ByteArray} {o : ByteArray} (h : Txs w B A (Q ++ [o])) : Txs w B A Q := by
  have := h.take Q.length
  rwa [List.take_left] at this
theorem Txs.last {w : World} {B : Nat} {A : Option Addr} {Q : List ByteArray} {o : ByteArray} (h : Txs w B A (Q ++ [o])) : ∃ ad, A = some ad ∧ (ad.add Q.length).block < B ∧ w.cell? (ad.add Q.length) = some (.string o) := h Q.length o (by simp)
theorem Short.init {Q : List ByteArray} {o : ByteArray} (h : Short (Q ++ [o])) : Short Q := fun x hx => h x (List.mem_append_left _ hx)
theorem Short.last {Q : List ByteArray} {o : ByteArray} (h : Short (Q ++ [o])) : o.size ≤ 140737488355328 := h o (by simp)
set_option maxRecDepth 100000 in
theorem divide_any (Q : List ByteArray) (o : ByteArray) (n : Nat) (hn : n = Q.length) (hl : n ≤ 140737488355328) (A : Option Addr) (c : Nat) (w : World) (hT : Txs w w.heap.size A (Q ++ [o])) (hc : n + 1 ≤ c) :
    Calls Tryd.prog 57 #[.slice A (n + 1) c] w fun e w' => e = .returned (.tuple #[.string o, .slice A n c]) ∧ Below w.heap.size w w' := by
  obtain ⟨ad, rfl, _, h0⟩ := hT.last
  rw [← hn] at h0
  have n1 : n ≤ c := by omega
  clear hT hn
  go_enter Tryd.func57, Tryd.ntmps57
  go_wp2_with fail
  go_quiet (fail)
  go_wp2_with fail
  go_ret2
  exact ⟨rfl, below_drewN (Below.refl _ _) _⟩
/-- what climb leaves -/
def ClEnd (w : World) (n i : Nat) (leaf : ByteArray) (P : List ByteArray) (e : Ending) (w' : World) : Prop :=
  ∃ x b, e = .returned (.tuple #[.string x, .bool b]) ∧ b = decide (P.length = (sidesN n i).length) ∧ (P.length = (sidesN n i).length → x = foldD (sidesN n i) P leaf) ∧ x.size ≤ 140737488355328 ∧ Below w.heap.size w w'
theorem nodeD_small (a b : ByteArray) : (nodeD a b).size ≤ 140737488355328 := by
  have : (nodeD a b).size = 32 := dg_size _
  omega
theorem leafD_small (a : ByteArray) : (leafD a).size ≤ 140737488355328 := by
  have : (leafD a).size = 32 := dg_size _
  omega
set_option maxRecDepth 100000 in
set_option maxHeartbeats 1000000 in
theorem climb_any : ∀ (N n i : Nat) (leaf : ByteArray) (P : List ByteArray), n ≤ N → i < n → n ≤ 140737488355328 → leaf.size ≤ 140737488355328 → Short P → P.length ≤ 140737488355328 → ∀ (A : Option Addr) (c : Nat) (w : World), Txs w w.heap.size A P → P.length ≤ c → Tab w →
    Calls Tryd.prog 41 #[.int .i64 (n : Int), .int .i64 (i : Int), .string leaf, .slice A P.length c] w (ClEnd w n i leaf P)
  | 0, n, i, leaf, P, hN, hi, _, _, _, _, A, c, w, _, _, _ => by omega
  | N + 1, n, i, leaf, P, hN, hi, hn, hlf, hs, hm, A, c, w, hT, hc, ht => by
    by_cases h2 : 2 ≤ n
    case neg =>
      obtain rfl : n = 1 := by omega
      have hsd := sidesN_one (show 1 < 2 by decide) i
      cases P with
      | nil =>
        go_enter Tryd.func41, Tryd.ntmps41
        go_wp2_with fail
        go_ret2
        exact ⟨leaf, true, rfl, by rw [hsd]; rfl, fun _ => by rw [hsd]; rfl, hlf, Below.refl _ _⟩
      | cons y P =>
        simp only [List.length_cons] at hm hc ⊢
        go_enter Tryd.func41, Tryd.ntmps41
        go_wp2_with fail
        go_ret2
        exact ⟨leaf, false, rfl, by rw [hsd]; rfl, fun h => by rw [hsd] at h; simp at h, hlf, Below.refl _ _⟩
    have q1 : ¬ ((n : Int) = 1) := by omega
    rcases List.eq_nil_or_concat P with rfl | ⟨Q, o, hQ⟩
    · have hne : (sidesN n i).length ≠ 0 := by
        by_cases hk : i < spl n
        · rw [sidesN_lo h2 hk]; simp
        · rw [sidesN_hi h2 (by omega)]; simp
      go_enter Tryd.func41, Tryd.ntmps41
      go_wp2_with fail
      go_ret2
      exact ⟨⟨#[]⟩, false, rfl, (decide_eq_false (fun h => hne h.symm)).symm, fun h => absurd h.symm hne, by decide, Below.refl _ _⟩
    rw [List.concat_eq_append] at hQ
    subst hQ
    have k1 := spl_lt h2
    have k0 := spl_pos n
    have hlen : (Q ++ [o]).length = Q.length + 1 := by simp
    rw [hlen] at hc hm ⊢
    have C0 : ∀ W, Hid _ := fun W => Lib.hid (split_any n h2 (by omega) W)
    have CD := Lib.hid (divide_any Q o Q.length rfl (by omega) A c w hT hc)
    have ih := climb_any N
    have ho := hs.last
    have hsQ := hs.init
    by_cases hk : i < spl n
    · have C1 : ∀ W, Hid (Txs W W.heap.size A Q → Tab W → Calls Tryd.prog 41 #[.int .i64 ((spl n : Nat) : Int), .int .i64 (i : Int), .string leaf, .slice A Q.length c] W (ClEnd W (spl n) i leaf Q)) := fun W p q => ih (spl n) i leaf Q (by omega) hk (by omega) hlf hsQ (by omega) A c W p (by omega) q
      have HE : Hid (ClEnd w n i leaf (Q ++ [o]) = ClEnd w n i leaf (Q ++ [o])) := rfl
      have HS := Lib.hid (sidesN_lo h2 hk)
      clear ih hs hsQ
      have HT := Lib.hid hT
      have ht1 := Lib.hid ht
      clear hT ht
      have hlt : (i : Int) < ((spl n : Nat) : Int) := by omega
      generalize spl n = k at *
      generalize hz : Q.length = z at *
      have Hz := Lib.hid hz
      clear hz
      go_enter Tryd.func41, Tryd.ntmps41
      go_wp2_with fail
      (with_reducible refine CD.out.mono ?_)
      rintro _ w1 ⟨rfl, b1⟩
      have HT1 := Lib.hid (((HT.out.below b1).mono b1.size).init)
      have ht2 := Lib.hid (ht1.out.below b1 ht1.out.1)
      go_wp2_with fail
      (with_reducible refine (C0 _).out.mono ?_)
      rintro _ _ ⟨rfl, rfl⟩
      go_wp2_with fail
      (with_reducible refine ((C1 _).out HT1.out ht2.out).mono ?_)
      rintro _ w2 ⟨x, b, rfl, hb, hx, hxs, b2⟩
      have ht3 := Lib.hid (ht2.out.below b2 ht2.out.1)
      have CN := Lib.hid (Node_any x o (by omega) (by omega) w2 ht3.out)
      have HB := Lib.hid hb
      have HX := Lib.hid hx
      clear hb hx
      go_wp2_with fail
      (with_reducible refine CN.out.mono ?_)
      rintro _ w3 ⟨rfl, b3⟩
      go_wp2_with fail
      go_ret2
      have b12 := b1.trans (b2.mono b1.size)
      refine ⟨nodeD x o, b, rfl, ?_, fun h => ?_, nodeD_small _ _, b12.trans (b3.mono b12.size)⟩
      · rw [HB.out, HS.out, List.length_append, List.length_append]
        simp
      · rw [HS.out] at h ⊢
        have h' : Q.length = (sidesN k i).length := by simpa using h
        rw [foldD_end _ _ _ _ _ h'.symm, ← HX.out h']; rfl
    · have hsub : i - spl n < n - spl n := by omega
      have C1 : ∀ W, Hid (Txs W W.heap.size A Q → Tab W → Calls Tryd.prog 41 #[.int .i64 ((n : Int) - ((spl n : Nat) : Int)), .int .i64 ((i : Int) - ((spl n : Nat) : Int)), .string leaf, .slice A Q.length c] W (ClEnd W (n - spl n) (i - spl n) leaf Q)) := fun W p q => by
        have := ih (n - spl n) (i - spl n) leaf Q (by omega) hsub (by omega) hlf hsQ (by omega) A c W p (by omega) q
        rw [show ((n - spl n : Nat) : Int) = (n : Int) - ((spl n : Nat) : Int) from by omega, show ((i - spl n : Nat) : Int) = (i : Int) - ((spl n : Nat) : Int) from by omega] at this
        exact this
      have HS := Lib.hid (sidesN_hi (i := i) h2 (by omega))
      clear ih hs hsQ
      have HT := Lib.hid hT
      have ht1 := Lib.hid ht
      clear hT ht
      have hlt : ¬ ((i : Int) < ((spl n : Nat) : Int)) := by omega
      generalize spl n = k at *
      generalize hz : Q.length = z at *
      have Hz := Lib.hid hz
      clear hz
      go_enter Tryd.func41, Tryd.ntmps41
      go_wp2_with fail
      (with_reducible refine CD.out.mono ?_)
      rintro _ w1 ⟨rfl, b1⟩
      have HT1 := Lib.hid (((HT.out.below b1).mono b1.size).init)
      have ht2 := Lib.hid (ht1.out.below b1 ht1.out.1)
      go_wp2_with fail
      (with_reducible refine (C0 _).out.mono ?_)
      rintro _ _ ⟨rfl, rfl⟩
      go_wp2_with fail
      (with_reducible refine ((C1 _).out HT1.out ht2.out).mono ?_)
      rintro _ w2 ⟨x, b, rfl, hb, hx, hxs, b2⟩
      have ht3 := Lib.hid (ht2.out.below b2 ht2.out.1)
      have CN := Lib.hid (Node_any o x (by omega) (by omega) w2 ht3.out)
      have HB := Lib.hid hb
      have HX := Lib.hid hx
      clear hb hx
      go_wp2_with fail
      (with_reducible refine CN.out.mono ?_)
      rintro _ w3 ⟨rfl, b3⟩
      go_wp2_with fail
      go_ret2
      have b12 := b1.trans (b2.mono b1.size)
      refine ⟨nodeD o x, b, rfl, ?_, fun h => ?_, nodeD_small _ _, b12.trans (b3.mono b12.size)⟩
      · rw [HB.out, HS.out, List.length_append, List.length_append]
        simp
      · rw [HS.out] at h ⊢
        have h' : Q.length = (sidesN (n - k) (i - k)).length := by simpa using h
        rw [foldD_end _ _ _ _ _ h'.symm, ← HX.out h']; rfl
theorem checkD_no {root s : ByteArray} {n i : Int} {P : List ByteArray} (h : n < 1 ∨ 1099511627776 < n ∨ i < 0 ∨ n ≤ i) : checkD root n i s P = false := by
  unfold checkD
  exact decide_eq_false (fun ⟨a, b, c, d, _⟩ => by omega)
set_option maxRecDepth 100000 in
theorem Check_no (root s : ByteArray) (n i : Int) (P : List ByteArray) (h : n < 1 ∨ 1099511627776 < n ∨ i < 0 ∨ n ≤ i) (A : Option Addr) (c : Nat) (w : World) :
    Calls Tryd.prog 20 #[.string root, .int .i64 n, .int .i64 i, .string s, .slice A P.length c] w fun e w' => e = .returned (.bool (checkD root n i s P)) ∧ Below w.heap.size w w' := by
  rw [checkD_no h]
  by_cases h0 : n < 1
  · clear h
    go_enter Tryd.func20, Tryd.ntmps20
    go_wp2_with fail
    go_ret
    exact ⟨rfl, Below.refl _ _⟩
  by_cases h1 : 1099511627776 < n
  · clear h
    go_enter Tryd.func20, Tryd.ntmps20
    go_wp2_with fail
    go_ret
    exact ⟨rfl, Below.refl _ _⟩
  by_cases h2 : i < 0
  · clear h
    go_enter Tryd.func20, Tryd.ntmps20
    go_wp2_with fail
    go_ret
    exact ⟨rfl, Below.refl _ _⟩
  have h3 : n ≤ i := by omega
  clear h
  go_enter Tryd.func20, Tryd.ntmps20
  go_wp2_with fail
  go_ret
  exact ⟨rfl, Below.refl _ _⟩
set_option maxRecDepth 100000 in
theorem Check_any (root s : ByteArray) (n i : Int) (P : List ByteArray) (hsz : s.size ≤ 140737488355328) (hs : Short P) (hm : P.length ≤ 140737488355328) (A : Option Addr) (c : Nat) (w : World) (hT : Txs w w.heap.size A P) (hc : P.length ≤ c) (ht : Tab w) :
    Calls Tryd.prog 20 #[.string root, .int .i64 n, .int .i64 i, .string s, .slice A P.length c] w fun e w' => e = .returned (.bool (checkD root n i s P)) ∧ Below w.heap.size w w' := by
  by_cases hno : n < 1 ∨ 1099511627776 < n ∨ i < 0 ∨ n ≤ i
  · exact Check_no root s n i P hno A c w
  have a1 : ¬ n < 1 := by omega
  have a2 : ¬ 1099511627776 < n := by omega
  have a3 : ¬ i < 0 := by omega
  have a4 : ¬ n ≤ i := by omega
  obtain ⟨n', rfl⟩ : ∃ n' : Nat, n = (n' : Int) := ⟨n.toNat, by omega⟩
  obtain ⟨i', rfl⟩ : ∃ i' : Nat, i = (i' : Int) := ⟨i.toNat, by omega⟩
  have HK : Hid (checkD root n' i' s P = decide (P.length = (sidesN n' i').length ∧ foldD (sidesN n' i') P (leafD s) = root)) := by
    show _ = _
    unfold checkD
    congr 1
    apply propext
    simp only [Int.toNat_natCast]
    exact ⟨fun ⟨_, _, _, _, e⟩ => e, fun e => ⟨by omega, by omega, by omega, by omega, e⟩⟩
  have C0 := Lib.hid (Leaf_any s (by omega) w ht)
  have C1 : ∀ W, Hid (Txs W W.heap.size A P → Tab W → Calls Tryd.prog 41 #[.int .i64 (n' : Int), .int .i64 (i' : Int), .string (leafD s), .slice A P.length c] W (ClEnd W n' i' (leafD s) P)) := fun W p q => climb_any n' n' i' (leafD s) P (Nat.le_refl _) (by omega) (by omega) (leafD_small s) hs hm A c W p hc q
  generalize leafD s = lf at *
  have HT := Lib.hid hT
  have ht1 := Lib.hid ht
  clear hT ht hs hno
  generalize hz : P.length = z at *
  have Hz := Lib.hid hz
  clear hz
  go_enter Tryd.func20, Tryd.ntmps20
  go_wp2_with fail
  (with_reducible refine C0.out.mono ?_)
  rintro _ w1 ⟨rfl, b1⟩
  have HT1 := Lib.hid ((HT.out.below b1).mono b1.size)
  have ht2 := Lib.hid (ht1.out.below b1 ht1.out.1)
  go_wp2_with fail
  (with_reducible refine ((C1 _).out HT1.out ht2.out).mono ?_)
  rintro _ w2 ⟨x, b, rfl, hb, hx, hxs, b2⟩
  have HB := Lib.hid hb
  have HX := Lib.hid hx
  clear hb hx
  have b12 := b1.trans (b2.mono b1.size)
  cases b with
  | false =>
    go_wp2_with fail
    go_ret
    refine ⟨?_, b12⟩
    have := of_decide_eq_false HB.out.symm
    rw [Hz.out] at this
    rw [HK.out, decide_eq_false (fun h => this h.1)]; rfl
  | true =>
    have hl := of_decide_eq_true HB.out.symm
    rw [Hz.out] at HX hl
    have hxx := HX.out hl
    have HL := Lib.hid hl
    have HXX := Lib.hid hxx
    clear hl hxx
    cases hq : x.toList == root.toList
    · go_wp2_with fail
      go_ret
      refine ⟨?_, b12⟩
      rw [HK.out, decide_eq_false (fun h => by
        rw [← HXX.out] at h
        rw [h.2] at hq
        simp at hq)]; rfl
    · go_wp2_with fail
      go_ret
      refine ⟨?_, b12⟩
      rw [HK.out, decide_eq_true ⟨HL.out, by rw [← HXX.out]; exact (eqB_iff x root).1 hq⟩]; rfl
end Go.Proofs.YtejapjmlofekfaaDoor

/- merkle.proof, Proof: their contracts. -/
namespace Go.Proofs.YtejapjmlofekfaaDoor
open Go.RowKit

theorem proofL_60 {T : List ByteArray} {m : Nat} (first : Bool) (h0 : 0 < m) (hm : m ≤ T.length) (hl : T.length ≤ 140737488355328) : (proofL T m first).length ≤ 60 := by
  rw [proofL_len _ T m first (Nat.le_refl _) h0 hm]
  have := sidesM_len 47 m T.length h0 (Nat.le_trans hl (by decide))
  split <;> omega
theorem TRow.single (w : World) (x : ByteArray) {base : Nat} (h : base ≤ w.heap.size) : TRow (w.alloc (.cells #[.string x] 9)) base (.slice (some ⟨w.heap.size, 0, none⟩) 1 1) [x] :=
  ⟨rfl, .inr ⟨w.heap.size, 1, #[.string x], rfl, h, Arr.new w _ _, Nat.le_refl _, by decide, rfl, rfl⟩⟩
set_option maxRecDepth 100000 in
set_option maxHeartbeats 1000000 in
theorem proof_end (T : List ByteArray) (first : Bool) (hl : T.length ≤ 140737488355328) (hs : Short T) (A : Option Addr) (c : Nat) (w : World) (hT : Txs w w.heap.size A T) (hc : T.length ≤ c) (ht : Tab w) :
    Calls Tryd.prog 40 #[.slice A T.length c, .int .i64 (T.length : Int), .bool first] w (REnd w (proofL T T.length first)) := by
  rw [proofL_all (Nat.le_refl _)]
  have C := Lib.hid (Root_any _ T (Nat.le_refl _) hl hs A c w hT hc ht)
  generalize rootL T = r at *
  cases first
  · go_enter Tryd.func40, Tryd.ntmps40
    go_wp2_with fail
    (with_reducible refine C.out.mono ?_)
    rintro _ w1 ⟨rfl, b1⟩
    go_wp2_with fail
    go_ret
    refine ⟨_, rfl, ?_, b1.trans ((new_below w1 r).mono b1.size)⟩
    exact TRow.single w1 r b1.size
  · go_enter Tryd.func40, Tryd.ntmps40
    go_wp2_with fail
    go_ret
    exact ⟨_, rfl, TRow.nil _ _, Below.refl _ _⟩
set_option maxRecDepth 100000 in
set_option maxHeartbeats 1000000 in
theorem proof_in : ∀ (N : Nat) (T : List ByteArray) (m : Nat) (first : Bool), T.length ≤ N → T.length ≤ 140737488355328 → Short T → 0 < m → m ≤ T.length → ∀ (A : Option Addr) (c : Nat) (w : World), Txs w w.heap.size A T → T.length ≤ c → Tab w →
    Calls Tryd.prog 40 #[.slice A T.length c, .int .i64 (m : Int), .bool first] w (REnd w (proofL T m first))
  | 0, T, m, _, hN, _, _, _, _, A, c, w, _, _, _ => by omega
  | N + 1, T, m, first, hN, hm, hs, h0, hi, A, c, w, hT, hc, ht => by
    by_cases hall : m = T.length
    · subst hall
      exact proof_end T first hm hs A c w hT hc ht
    have hlt : m < T.length := by omega
    clear hall
    have h2 : 2 ≤ T.length := by omega
    have ih := proof_in N
    obtain ⟨si, hsi, sz0, sz1, sz2⟩ := info_parts info_str
    have Hsi := Lib.hid hsi
    have Sz0 := Lib.hid sz0
    have Sz1 := Lib.hid sz1
    have Sz2 := Lib.hid sz2
    clear hsi sz0 sz1 sz2
    obtain ⟨ad, rfl, hb, hb2⟩ := hT 0 T[0] (List.getElem?_eq_getElem (by omega))
    clear hb hb2
    have k1 := spl_lt h2
    have k0 := spl_pos T.length
    have C0 := Lib.hid (split_any T.length h2 (by omega) w)
    have e1 : (T.take (spl T.length)).length = spl T.length := by rw [List.length_take]; omega
    have e2 : (T.drop (spl T.length)).length = T.length - spl T.length := by rw [List.length_drop]
    by_cases hk : m ≤ spl T.length
    · skip
      have C1 : ∀ W, Hid (Txs W W.heap.size (some ad) T → Tab W → Calls Tryd.prog 40 #[.slice (some ad) (spl T.length) c, .int .i64 (m : Int), .bool first] W (REnd W (proofL (T.take (spl T.length)) m first))) := fun W p q => by
        have := ih (T.take (spl T.length)) m first (by omega) (by omega) (hs.take _) h0 (by omega) (some ad) c W (p.take _) (by omega) q
        rw [e1] at this
        exact this
      have C2 : ∀ W, Hid (Txs W W.heap.size (some ad) T → Tab W → Calls Tryd.prog 12 #[.slice (some (ad.add (spl T.length))) (T.length - spl T.length) (c - spl T.length)] W (TEnd W (rootL (T.drop (spl T.length))))) := fun W p q => by
        have := Root_any _ (T.drop (spl T.length)) (Nat.le_refl _) (by omega) (hs.drop _) (some (ad.add (spl T.length))) (c - spl T.length) W (p.drop _) (by omega) q
        rw [e2] at this
        exact this
      rw [proofL_lo hlt h0 hk]
      have hp := proofL_60 (T := T.take (spl T.length)) (m := m) first h0 (by omega) (by omega)
      clear ih e1 e2
      generalize rootL (T.drop (spl T.length)) = rb at *
      generalize proofL (T.take (spl T.length)) m first = P at *
      generalize spl T.length = k at *
      have n2 : ¬ (c = k) := by omega
      have n3 : k ≤ c := by omega
      have n4 : k ≤ T.length := by omega
      have n1 : ¬ ((m : Int) = T.length) := by omega
      have n5 : (m : Int) ≤ k := by omega
      have HT := Lib.hid hT
      have ht2 := Lib.hid ht
      clear hT ht
      generalize hn : T.length = n at *
      have Hn := Lib.hid hn
      clear hn
      go_enter Tryd.func40, Tryd.ntmps40
      go_wp2_with fail
      (with_reducible refine C0.out.mono ?_)
      rintro _ w1 ⟨rfl, rfl⟩
      have HTd : Hid (Txs w1.drew w1.drew.heap.size (some ad) T) := HT
      have htd : Hid (Tab w1.drew) := ht2
      have b1 : Hid (Below w1.heap.size w1 w1.drew) := below_drewN (Below.refl _ _) 1
      have Cd := C1 w1.drew
      go_wp2_with fail
      go_region_law (first
        | (go_simp; go_at_call 40; (with_reducible refine (Cd.out HTd.out htd.out).mono ?_); rintro _ w2 ⟨v, rfl, own, b2⟩
           have HT2 := Lib.hid ((HTd.out.below b2).mono b2.size); have ht3 := Lib.hid (htd.out.below b2 htd.out.1))
        | (go_simp; go_at_call 12; (with_reducible refine ((C2 _).out HT2.out ht3.out).mono ?_); rintro _ w3 ⟨rfl, b3⟩
           have own3 := (own.up b3).new rb
           have b13 := (b1.out.trans (b2.mono b1.out.size))
           have b14 := b13.trans (b3.mono b13.size)
           have b15 := b14.trans ((new_below w3 rb).mono b14.size))
        | (refine step_app _ rfl _ _ 22 rfl w1.heap.size 9 si _ 1 16 Tryd.underlying22 Hsi.out Sz0.out Sz1.out Sz2.out rfl (by decide) _ _ _ rfl own3 (some ⟨w3.heap.size, 0, none⟩) 1 1 [.string rb] rfl rfl (news_new w3 rb) (one_str rb) (by unfold maxLen; omega) (by omega) b15.size ?_
           intro v4 w4 own4 g4))
      all_goals
        go_wp2_with fail
        go_ret
        exact ⟨v4, rfl, TRow.more own4, row_below own3 (Nat.le_refl _) b15 g4⟩
    · skip
      have C1 : ∀ W, Hid (Txs W W.heap.size (some ad) T → Tab W → Calls Tryd.prog 40 #[.slice (some (ad.add (spl T.length))) (T.length - spl T.length) (c - spl T.length), .int .i64 ((m : Int) - ((spl T.length : Nat) : Int)), .bool false] W (REnd W (proofL (T.drop (spl T.length)) (m - spl T.length) false))) := fun W p q => by
        have := ih (T.drop (spl T.length)) (m - spl T.length) false (by omega) (by omega) (hs.drop _) (by omega) (by omega) (some (ad.add (spl T.length))) (c - spl T.length) W (p.drop _) (by omega) q
        rw [e2] at this
        rw [show ((m - spl T.length : Nat) : Int) = (m : Int) - ((spl T.length : Nat) : Int) from by omega] at this
        exact this
      have C2 : ∀ W, Hid (Txs W W.heap.size (some ad) T → Tab W → Calls Tryd.prog 12 #[.slice (some ad) (spl T.length) c] W (TEnd W (rootL (T.take (spl T.length))))) := fun W p q => by
        have := Root_any _ (T.take (spl T.length)) (Nat.le_refl _) (by omega) (hs.take _) (some ad) c W (p.take _) (by omega) q
        rw [e1] at this
        exact this
      rw [proofL_hi hlt h0 (by omega)]
      have hp := proofL_60 (T := T.drop (spl T.length)) (m := m - spl T.length) false (by omega) (by omega) (by omega)
      clear ih e1 e2
      generalize rootL (T.take (spl T.length)) = rb at *
      generalize proofL (T.drop (spl T.length)) (m - spl T.length) false = P at *
      generalize spl T.length = k at *
      have n2 : ¬ (c = k) := by omega
      have n3 : k ≤ c := by omega
      have n4 : k ≤ T.length := by omega
      have n1 : ¬ ((m : Int) = T.length) := by omega
      have n5 : ¬ ((m : Int) ≤ k) := by omega
      have HT := Lib.hid hT
      have ht2 := Lib.hid ht
      clear hT ht
      generalize hn : T.length = n at *
      have Hn := Lib.hid hn
      clear hn
      go_enter Tryd.func40, Tryd.ntmps40
      go_wp2_with fail
      (with_reducible refine C0.out.mono ?_)
      rintro _ w1 ⟨rfl, rfl⟩
      have HTd : Hid (Txs w1.drew w1.drew.heap.size (some ad) T) := HT
      have htd : Hid (Tab w1.drew) := ht2
      have b1 : Hid (Below w1.heap.size w1 w1.drew) := below_drewN (Below.refl _ _) 1
      have Cd := C1 w1.drew
      go_wp2_with fail
      have HW : IntKind.i64.wrap ((m : Int) - (k : Int)) = (m : Int) - (k : Int) := IntWalk.i64_in _ (by omega)
      go_region_law (first
        | (go_simp; go_at_call 40; (with_reducible refine (Cd.out HTd.out htd.out).mono ?_); rintro _ w2 ⟨v, rfl, own, b2⟩
           have HT2 := Lib.hid ((HTd.out.below b2).mono b2.size); have ht3 := Lib.hid (htd.out.below b2 htd.out.1))
        | (go_simp; go_at_call 12; (with_reducible refine ((C2 _).out HT2.out ht3.out).mono ?_); rintro _ w3 ⟨rfl, b3⟩
           have own3 := (own.up b3).new rb
           have b13 := (b1.out.trans (b2.mono b1.out.size))
           have b14 := b13.trans (b3.mono b13.size)
           have b15 := b14.trans ((new_below w3 rb).mono b14.size))
        | (refine step_app _ rfl _ _ 22 rfl w1.heap.size 9 si _ 1 16 Tryd.underlying22 Hsi.out Sz0.out Sz1.out Sz2.out rfl (by decide) _ _ _ rfl own3 (some ⟨w3.heap.size, 0, none⟩) 1 1 [.string rb] rfl rfl (news_new w3 rb) (one_str rb) (by unfold maxLen; omega) (by omega) b15.size ?_
           intro v4 w4 own4 g4))
      all_goals
        go_wp2_with fail
        go_ret
        exact ⟨v4, rfl, TRow.more own4, row_below own3 (Nat.le_refl _) b15 g4⟩
theorem Proof_no (T : List ByteArray) (m : Int) (h : m < 1 ∨ (T.length : Int) < m) (A : Option Addr) (c : Nat) (w : World) :
    Calls Tryd.prog 18 #[.slice A T.length c, .int .i64 m] w (REnd w []) := by
  by_cases h0 : m < 1
  · go_enter Tryd.func18, Tryd.ntmps18
    go_wp2_with fail
    go_ret
    exact ⟨_, rfl, TRow.nil _ _, Below.refl _ _⟩
  · have h1 : (T.length : Int) < m := by omega
    go_enter Tryd.func18, Tryd.ntmps18
    go_wp2_with fail
    go_ret
    exact ⟨_, rfl, TRow.nil _ _, Below.refl _ _⟩
theorem Proof_in (T : List ByteArray) (m : Nat) (hm : T.length ≤ 140737488355328) (hs : Short T) (h0 : 0 < m) (hi : m ≤ T.length) (A : Option Addr) (c : Nat) (w : World) (hT : Txs w w.heap.size A T) (hc : T.length ≤ c) (ht : Tab w) :
    Calls Tryd.prog 18 #[.slice A T.length c, .int .i64 (m : Int)] w (REnd w (proofL T m true)) := by
  have C := Lib.hid (proof_in _ T m true (Nat.le_refl _) hm hs h0 hi A c w hT hc ht)
  have q1 : ¬ ((m : Int) < 1) := by omega
  have q2 : ¬ ((T.length : Int) < m) := by omega
  go_enter Tryd.func18, Tryd.ntmps18
  go_wp2_with fail
  (with_reducible refine C.out.mono ?_)
  rintro _ w1 ⟨v, rfl, own, b⟩
  go_wp2_with fail
  go_ret
  exact ⟨v, rfl, own, b⟩
end Go.Proofs.YtejapjmlofekfaaDoor

/- merkle.grow, proofSize, Extends: their contracts. -/
namespace Go.Proofs.YtejapjmlofekfaaDoor
open Go.RowKit

/-- what grow leaves -/
def GrEnd (w : World) (r : ByteArray × ByteArray) (e : Ending) (w' : World) : Prop :=
  e = .returned (.tuple #[.string r.1, .string r.2]) ∧ r.1.size ≤ 140737488355328 ∧ r.2.size ≤ 140737488355328 ∧ Below w.heap.size w w'
theorem growD_step {m n m' n' : Nat} {c : Bool} {old o : ByteArray} {Q : List ByteArray} (h : sidesM m n = sidesM m' n' ++ [c]) (hl : Q.length = (sidesM m' n').length ∨ Q.length = (sidesM m' n').length + 1) :
    growD old m n (Q ++ [o]) = stepG c o (growD old m' n' Q) := by
  unfold growD
  rw [h]
  generalize sidesM m' n' = cs at *
  rcases hl with hl | hl
  · rw [if_pos (by simp; omega), if_pos (by omega), foldG_end _ _ _ _ _ hl.symm]
  · rw [if_neg (by simp; omega), if_neg (by omega)]
    match Q, hl with
    | y :: Q, hl =>
      have hl2 : cs.length = Q.length := by simp at hl; omega
      show foldG (cs ++ [c]) (Q ++ [o]) (y, y) = _
      rw [foldG_end _ _ _ _ _ hl2]; rfl
set_option maxRecDepth 100000 in
set_option maxHeartbeats 1000000 in
theorem grow_any : ∀ (N n m : Nat) (old : ByteArray) (P : List ByteArray), n ≤ N → 0 < m → m ≤ n → n ≤ 140737488355328 → old.size ≤ 140737488355328 → Short P → P.length ≤ 140737488355328 → (P.length = (sidesM m n).length ∨ P.length = (sidesM m n).length + 1) →
    ∀ (A : Option Addr) (c : Nat) (w : World), Txs w w.heap.size A P → P.length ≤ c → Tab w →
    Calls Tryd.prog 45 #[.string old, .int .i64 (m : Int), .int .i64 (n : Int), .slice A P.length c] w (GrEnd w (growD old m n P))
  | 0, n, m, old, P, hN, h0, hi, _, _, _, _, _, A, c, w, _, _, _ => by omega
  | N + 1, n, m, old, P, hN, h0, hi, hn, hold, hs, hm, hl, A, c, w, hT, hc, ht => by
    by_cases hall : m = n
    · subst hall
      have hsd := sidesM_all (Nat.le_refl m)
      rw [hsd] at hl
      match P, hl with
      | [], _ =>
        go_enter Tryd.func45, Tryd.ntmps45
        go_wp2_with fail
        go_ret2
        have e : growD old m m [] = (old, old) := by unfold growD; rw [hsd]; rfl
        rw [e]
        exact ⟨rfl, hold, hold, Below.refl _ _⟩
      | [y], _ =>
        obtain ⟨ad, rfl, _, c0⟩ := hT 0 y rfl
        rw [show ad.add 0 = ad from by simp [Addr.add]] at c0
        have hy := hs y List.mem_cons_self
        go_enter Tryd.func45, Tryd.ntmps45
        go_wp2_with fail
        go_quiet (fail)
        go_wp2_with fail
        go_ret2
        have e : growD old m m [y] = (y, y) := by unfold growD; rw [hsd]; rfl
        rw [e]
        exact ⟨rfl, hy, hy, below_drewN (Below.refl _ _) _⟩
    have hlt : m < n := by omega
    have h2 : 2 ≤ n := by omega
    have q1 : ¬ ((m : Int) = n) := by omega
    have hbe : ((m : Int) == n) = false := by rw [beq_eq_false_iff_ne]; exact q1
    rcases List.eq_nil_or_concat P with rfl | ⟨Q, o, hQ⟩
    · exfalso
      by_cases hk : m ≤ spl n
      · rw [sidesM_lo hlt h0 hk] at hl; simp at hl
      · rw [sidesM_hi hlt h0 (by omega)] at hl; simp at hl
    rw [List.concat_eq_append] at hQ
    subst hQ
    have k1 := spl_lt h2
    have k0 := spl_pos n
    have hlen : (Q ++ [o]).length = Q.length + 1 := by simp
    rw [hlen] at hc hm hl ⊢
    have C0 : ∀ W, Hid _ := fun W => Lib.hid (split_any n h2 (by omega) W)
    have CD := Lib.hid (divide_any Q o Q.length rfl (by omega) A c w hT hc)
    have ih := grow_any N
    have ho := hs.last
    have hsQ := hs.init
    by_cases hk : m ≤ spl n
    · have hS := sidesM_lo hlt h0 hk
      have hl2 : Q.length = (sidesM m (spl n)).length ∨ Q.length = (sidesM m (spl n)).length + 1 := by rw [hS] at hl; simp at hl; omega
      have C1 : ∀ W, Hid (Txs W W.heap.size A Q → Tab W → Calls Tryd.prog 45 #[.string old, .int .i64 (m : Int), .int .i64 ((spl n : Nat) : Int), .slice A Q.length c] W (GrEnd W (growD old m (spl n) Q))) := fun W p q => ih (spl n) m old Q (by omega) h0 hk (by omega) hold hsQ (by omega) hl2 A c W p (by omega) q
      rw [growD_step hS hl2]
      clear ih hs hsQ hl hl2 hS
      generalize growD old m (spl n) Q = r at *
      have HT := Lib.hid hT
      have ht1 := Lib.hid ht
      clear hT ht
      have hle : (m : Int) ≤ ((spl n : Nat) : Int) := by omega
      generalize spl n = k at *
      generalize hz : Q.length = z at *
      have Hz := Lib.hid hz
      clear hz
      go_enter Tryd.func45, Tryd.ntmps45
      go_wp2_with fail
      (with_reducible refine CD.out.mono ?_)
      rintro _ w1 ⟨rfl, b1⟩
      have HT1 := Lib.hid (((HT.out.below b1).mono b1.size).init)
      have ht2 := Lib.hid (ht1.out.below b1 ht1.out.1)
      go_wp2_with fail
      (with_reducible refine (C0 _).out.mono ?_)
      rintro _ _ ⟨rfl, rfl⟩
      go_wp2_with fail
      (with_reducible refine ((C1 _).out HT1.out ht2.out).mono ?_)
      rintro _ w2 ⟨rfl, hr1, hr2, b2⟩
      have ht3 := Lib.hid (ht2.out.below b2 ht2.out.1)
      have CN := Lib.hid (Node_any r.2 o (by omega) (by omega) w2 ht3.out)
      go_wp2_with fail
      (with_reducible refine CN.out.mono ?_)
      rintro _ w3 ⟨rfl, b3⟩
      go_wp2_with fail
      go_ret2
      have b12 := b1.trans (b2.mono b1.size)
      exact ⟨rfl, hr1, nodeD_small _ _, b12.trans (b3.mono b12.size)⟩
    · have hS := sidesM_hi hlt h0 (by omega)
      have hl2 : Q.length = (sidesM (m - spl n) (n - spl n)).length ∨ Q.length = (sidesM (m - spl n) (n - spl n)).length + 1 := by rw [hS] at hl; simp at hl; omega
      have C1 : ∀ W, Hid (Txs W W.heap.size A Q → Tab W → Calls Tryd.prog 45 #[.string old, .int .i64 ((m : Int) - ((spl n : Nat) : Int)), .int .i64 ((n : Int) - ((spl n : Nat) : Int)), .slice A Q.length c] W (GrEnd W (growD old (m - spl n) (n - spl n) Q))) := fun W p q => by
        have := ih (n - spl n) (m - spl n) old Q (by omega) (by omega) (by omega) (by omega) hold hsQ (by omega) hl2 A c W p (by omega) q
        rw [show ((n - spl n : Nat) : Int) = (n : Int) - ((spl n : Nat) : Int) from by omega, show ((m - spl n : Nat) : Int) = (m : Int) - ((spl n : Nat) : Int) from by omega] at this
        exact this
      rw [growD_step hS hl2]
      clear ih hs hsQ hl hl2 hS
      generalize growD old (m - spl n) (n - spl n) Q = r at *
      have HT := Lib.hid hT
      have ht1 := Lib.hid ht
      clear hT ht
      have hle : ¬ ((m : Int) ≤ ((spl n : Nat) : Int)) := by omega
      generalize spl n = k at *
      generalize hz : Q.length = z at *
      have Hz := Lib.hid hz
      clear hz
      go_enter Tryd.func45, Tryd.ntmps45
      go_wp2_with fail
      (with_reducible refine CD.out.mono ?_)
      rintro _ w1 ⟨rfl, b1⟩
      have HT1 := Lib.hid (((HT.out.below b1).mono b1.size).init)
      have ht2 := Lib.hid (ht1.out.below b1 ht1.out.1)
      go_wp2_with fail
      (with_reducible refine (C0 _).out.mono ?_)
      rintro _ _ ⟨rfl, rfl⟩
      go_wp2_with fail
      (with_reducible refine ((C1 _).out HT1.out ht2.out).mono ?_)
      rintro _ w2 ⟨rfl, hr1, hr2, b2⟩
      have ht3 := Lib.hid (ht2.out.below b2 ht2.out.1)
      have CN := Lib.hid (Node_any o r.1 (by omega) (by omega) w2 ht3.out)
      go_wp2_with fail
      (with_reducible refine CN.out.mono ?_)
      rintro _ w3 ⟨rfl, b3⟩
      have ht4 := Lib.hid (ht3.out.below b3 ht3.out.1)
      have CM := Lib.hid (Node_any o r.2 (by omega) (by omega) w3 ht4.out)
      go_wp2_with fail
      (with_reducible refine CM.out.mono ?_)
      rintro _ w4 ⟨rfl, b4⟩
      go_wp2_with fail
      go_ret2
      have b12 := b1.trans (b2.mono b1.size)
      have b13 := b12.trans (b3.mono b12.size)
      exact ⟨rfl, nodeD_small _ _, nodeD_small _ _, b13.trans (b4.mono b13.size)⟩
/-- where proofSize's loop stands -/
def PsRel (m n : Nat) (w : World) (a b x y : Value) (wr : World) : Prop :=
  ∃ m' n' s t : Nat, a = .int .i64 (m' : Int) ∧ b = .int .i64 (n' : Int) ∧ x = .int .i64 (s : Int) ∧ y = .int .i64 (t : Int) ∧ 0 < m' ∧ m' ≤ n' ∧ n' ≤ n ∧ s + n' ≤ n ∧
    proofN m n = s + (sidesM m' n').length + (if t = 1 ∨ (sidesM m' n').contains true = true then 1 else 0) ∧ t ≤ 1 ∧ wr = w
set_option maxRecDepth 100000 in
set_option maxHeartbeats 1000000 in
theorem proofSize_any (m n : Nat) (h0 : 0 < m) (hm : m ≤ n) (hn : n ≤ 140737488355328) (w : World) :
    Calls Tryd.prog 44 #[.int .i64 (m : Int), .int .i64 (n : Int)] w fun e w' => e = .returned (.int .i64 ((proofN m n : Nat) : Int)) ∧ w = w' := by
  have h1 : Hid (PsRel m n w (.int .i64 (m : Int)) (.int .i64 (n : Int)) (.int .i64 0) (.int .i64 0) w) := by
    refine ⟨m, n, 0, 0, rfl, rfl, rfl, rfl, h0, hm, Nat.le_refl _, by omega, ?_, by omega, rfl⟩
    unfold proofN
    simp
  have hs := fun m n => Lib.hid (split_any m n)
  go_enter Tryd.func44, Tryd.ntmps44
  go_wp2_with fail
  go_loopw [0, 1, 5, 6] (fun a b x y wr => PsRel m n w a b x y wr) (fun _ b _ _ _ => (intOf b).toNat)
  case atStart => exact h1.out
  case round =>
    clear h1
    obtain ⟨m', n', s, t, rfl, rfl, rfl, rfl, p0, p1, p2, p3, p4, p5, rfl⟩ := hrel
    have HP := Lib.hid p4
    clear p4
    by_cases hlt : m' < n'
    · have hlt2 : (m' : Int) < n' := by omega
      have h2 : 2 ≤ n' := by omega
      have k1 := spl_lt h2
      have k0 := spl_pos n'
      have C0 := Lib.hid (split_any n' h2 (by omega) wr)
      by_cases hk : m' ≤ spl n'
      · have HS := Lib.hid (sidesM_lo hlt p0 hk)
        generalize spl n' = k at *
        have hk2 : (m' : Int) ≤ k := by omega
        go_wp2_with fail
        (with_reducible refine C0.out.mono ?_)
        rintro _ _ ⟨rfl, rfl⟩
        go_wp2_with fail
        refine ⟨⟨m', k, s + 1, t, rfl, rfl, by go_num, rfl, p0, hk, by omega, by omega, ?_, p5, rfl⟩, by simp [intOf]; omega⟩
        rw [HP.out, HS.out, List.length_append, List.contains_append]
        simp
        omega
      · have HS := Lib.hid (sidesM_hi hlt p0 (by omega))
        generalize spl n' = k at *
        have hk2 : ¬ ((m' : Int) ≤ k) := by omega
        go_wp2_with fail
        (with_reducible refine C0.out.mono ?_)
        rintro _ _ ⟨rfl, rfl⟩
        go_wp2_with fail
        refine ⟨⟨m' - k, n' - k, s + 1, 1, by congr 1; omega, by congr 1; omega, by go_num, rfl, by omega, by omega, by omega, by omega, ?_, by omega, rfl⟩, by simp [intOf]; omega⟩
        rw [HP.out, HS.out, List.length_append, List.contains_append]
        simp
        omega
    · have hlt2 : ¬ ((m' : Int) < n') := by omega
      have he : proofN m n = s + t := by
        rw [HP.out, sidesM_all (by omega)]
        simp
        split <;> omega
      have HE := Lib.hid he
      clear he
      go_wp2_with fail
      go_ret
      refine ⟨?_, rfl⟩
      rw [HE.out, Int.natCast_add]; rfl
end Go.Proofs.YtejapjmlofekfaaDoor

/- merkle.Extends: its contract. -/
namespace Go.Proofs.YtejapjmlofekfaaDoor
open Go.RowKit

/-- what a test's call leaves -/
def BEnd (w : World) (b : Bool) (e : Ending) (w' : World) : Prop := e = .returned (.bool b) ∧ Below w.heap.size w w'
theorem eq_toList {x y : ByteArray} (h : (x.toList == y.toList) = true) : x = y := (eqB_iff x y).1 h
theorem ne_toList {x y : ByteArray} (h : (x.toList == y.toList) = false) : x ≠ y := fun e => by
  rw [e] at h
  simp at h
set_option maxRecDepth 100000 in
theorem Ext_no (old root : ByteArray) (m n : Int) (P : List ByteArray) (h : m < 0 ∨ n < m ∨ 1099511627776 < n) (A : Option Addr) (c : Nat) (w : World) :
    Calls Tryd.prog 26 #[.string old, .int .i64 m, .string root, .int .i64 n, .slice A P.length c] w (BEnd w (extendsD old m root n P)) := by
  have he : extendsD old m root n P = false := by
    unfold extendsD
    exact decide_eq_false (fun ⟨a, b, c, _⟩ => by omega)
  rw [he]
  by_cases h0 : m < 0
  · clear h
    go_enter Tryd.func26, Tryd.ntmps26
    go_wp2_with fail
    go_ret
    exact ⟨rfl, Below.refl _ _⟩
  by_cases h1 : n < m
  · clear h
    go_enter Tryd.func26, Tryd.ntmps26
    go_wp2_with fail
    go_ret
    exact ⟨rfl, Below.refl _ _⟩
  have h2 : 1099511627776 < n := by omega
  clear h
  go_enter Tryd.func26, Tryd.ntmps26
  go_wp2_with fail
  go_ret
  exact ⟨rfl, Below.refl _ _⟩
set_option maxRecDepth 100000 in
theorem Ext_zero (old root : ByteArray) (n : Nat) (hn : n ≤ 1099511627776) (P : List ByteArray) (A : Option Addr) (c : Nat) (w : World) (ht : Tab w) :
    Calls Tryd.prog 26 #[.string old, .int .i64 0, .string root, .int .i64 (n : Int), .slice A P.length c] w (BEnd w (extendsD old 0 root (n : Int) P)) := by
  have he : extendsD old 0 root (n : Int) P = decide (P = [] ∧ old = dg ⟨#[]⟩ ∧ ((n : Int) = 0 → root = old)) := by
    unfold extendsD
    congr 1
    apply propext
    constructor
    · rintro ⟨_, _, _, h | h⟩
      · exact h.2
      · omega
    · intro h
      exact ⟨by omega, by omega, by omega, .inl ⟨rfl, h⟩⟩
  have HE := Lib.hid he
  clear he
  have nneg : ¬ ((n : Int) < 0) := by omega
  have CR := Lib.hid (Root_any 0 [] (by simp) (by simp) (fun x hx => by cases hx) none 0 w (Txs.nil _ _ _) (by simp) ht)
  rw [rootL_nil] at CR
  have hz : (([] : List ByteArray).length) = 0 := rfl
  rw [hz] at CR
  clear hz
  generalize dg ⟨#[]⟩ = d at *
  cases P with
  | cons y P =>
    have HF : Hid (extendsD old 0 root (n : Int) (y :: P) = false) := by
      show _ = _
      rw [HE.out]; exact decide_eq_false (fun h => by cases h.1)
    simp only [List.length_cons]
    go_enter Tryd.func26, Tryd.ntmps26
    go_wp2_with fail
    go_ret
    exact ⟨by rw [HF.out]; rfl, Below.refl _ _⟩
  | nil =>
    rw [List.length_nil]
    cases hq : old.toList == d.toList
    · have HF : Hid (extendsD old 0 root (n : Int) [] = false) := by
        show _ = _
        rw [HE.out]; exact decide_eq_false (fun h => ne_toList hq h.2.1)
      go_enter Tryd.func26, Tryd.ntmps26
      go_wp2_with fail
      (with_reducible refine CR.out.mono ?_)
      rintro _ w1 ⟨rfl, b1⟩
      go_wp2_with fail
      go_ret
      exact ⟨by rw [HF.out]; rfl, b1⟩
    · have hq2 := Lib.hid (eq_toList hq)
      by_cases hn0 : n = 0
      · subst hn0
        cases hr : root.toList == old.toList
        · have HF : Hid (extendsD old 0 root ((0 : Nat) : Int) [] = false) := by
            show _ = _
            rw [HE.out]; exact decide_eq_false (fun h => ne_toList hr (h.2.2 rfl))
          clear HE
          go_enter Tryd.func26, Tryd.ntmps26
          go_wp2_with fail
          (with_reducible refine CR.out.mono ?_)
          rintro _ w1 ⟨rfl, b1⟩
          go_wp2_with fail
          go_ret
          exact ⟨by rw [HF.out]; rfl, b1⟩
        · have HF : Hid (extendsD old 0 root ((0 : Nat) : Int) [] = true) := by
            show _ = _
            rw [HE.out]; exact decide_eq_true ⟨rfl, hq2.out, fun _ => eq_toList hr⟩
          clear HE
          go_enter Tryd.func26, Tryd.ntmps26
          go_wp2_with fail
          (with_reducible refine CR.out.mono ?_)
          rintro _ w1 ⟨rfl, b1⟩
          go_wp2_with fail
          go_ret
          exact ⟨by rw [HF.out]; rfl, b1⟩
      · have HF : Hid (extendsD old 0 root (n : Int) [] = true) := by
          show _ = _
          rw [HE.out]; exact decide_eq_true ⟨rfl, hq2.out, fun h => by omega⟩
        have hpos : (0 : Int) < n := by omega
        clear HE
        go_enter Tryd.func26, Tryd.ntmps26
        go_wp2_with fail
        (with_reducible refine CR.out.mono ?_)
        rintro _ w1 ⟨rfl, b1⟩
        go_wp2_with fail
        go_ret
        exact ⟨by rw [HF.out]; rfl, b1⟩
set_option maxRecDepth 100000 in
theorem Ext_pos (old root : ByteArray) (m n : Nat) (h0 : 0 < m) (hm : m ≤ n) (hn : n ≤ 1099511627776) (P : List ByteArray) (hold : old.size ≤ 140737488355328) (hs : Short P) (hl : P.length ≤ 140737488355328) (A : Option Addr) (c : Nat) (w : World) (hT : Txs w w.heap.size A P) (hc : P.length ≤ c) (ht : Tab w) :
    Calls Tryd.prog 26 #[.string old, .int .i64 (m : Int), .string root, .int .i64 (n : Int), .slice A P.length c] w (BEnd w (extendsD old (m : Int) root (n : Int) P)) := by
  have he : extendsD old (m : Int) root (n : Int) P = decide (P.length = proofN m n ∧ growD old m n P = (old, root)) := by
    unfold extendsD
    congr 1
    apply propext
    simp only [Int.toNat_natCast]
    constructor
    · rintro ⟨_, _, _, h | h⟩
      · omega
      · exact h.2
    · intro h
      exact ⟨by omega, by omega, by omega, .inr ⟨by omega, h⟩⟩
  have HE := Lib.hid he
  clear he
  have a1 : ¬ (m : Int) < 0 := by omega
  have a2 : ¬ (n : Int) < m := by omega
  have a3 : ¬ 1099511627776 < (n : Int) := by omega
  have a4 : ¬ (m : Int) = 0 := by omega
  have CP := Lib.hid (proofSize_any m n h0 hm (by omega) w)
  by_cases hp : P.length = proofN m n
  case neg =>
    have HF : Hid (extendsD old (m : Int) root (n : Int) P = false) := by
      show _ = _
      rw [HE.out]; exact decide_eq_false (fun h => hp h.1)
    have hne : ((P.length : Int) != ((proofN m n : Nat) : Int)) = true := by rw [bne_iff_ne]; omega
    clear HE hT ht hp
    go_enter Tryd.func26, Tryd.ntmps26
    go_wp2_with fail
    (with_reducible refine CP.out.mono ?_)
    rintro _ _ ⟨rfl, rfl⟩
    go_wp2_with fail
    go_ret
    exact ⟨by rw [HF.out]; rfl, Below.refl _ _⟩
  have CG := Lib.hid (grow_any n n m old P (Nat.le_refl _) h0 hm (by omega) hold hs hl (by
    unfold proofN at hp
    rw [hp]
    split <;> omega) A c w hT hc ht)
  have HP := Lib.hid hp
  rw [hp] at CG hc hl ⊢
  clear hp hT
  generalize growD old m n P = r at *
  generalize proofN m n = z at *
  obtain ⟨r1, r2⟩ := r
  have fin : Hid (extendsD old (m : Int) root (n : Int) P = decide (r1 = old ∧ r2 = root)) := by
    show _ = _
    rw [HE.out]
    congr 1
    apply propext
    exact ⟨fun h => ⟨congrArg Prod.fst h.2, congrArg Prod.snd h.2⟩, fun h => ⟨HP.out, by rw [h.1, h.2]⟩⟩
  clear HE
  have hne : ((z : Int) != (z : Int)) = false := by simp
  cases q1 : r1.toList == old.toList
  · have HF : Hid (extendsD old (m : Int) root (n : Int) P = false) := by
      show _ = _
      rw [fin.out]; exact decide_eq_false (fun h => ne_toList q1 h.1)
    clear fin
    go_enter Tryd.func26, Tryd.ntmps26
    go_wp2_with fail
    (with_reducible refine CP.out.mono ?_)
    rintro _ _ ⟨rfl, rfl⟩
    go_wp2_with fail
    (with_reducible refine CG.out.mono ?_)
    rintro _ w1 ⟨rfl, _, _, b1⟩
    go_wp2_with fail
    go_ret
    exact ⟨by rw [HF.out]; rfl, b1⟩
  · have e1 := Lib.hid (eq_toList q1)
    cases q2 : r2.toList == root.toList
    · have HF : Hid (extendsD old (m : Int) root (n : Int) P = false) := by
        show _ = _
        rw [fin.out]; exact decide_eq_false (fun h => ne_toList q2 h.2)
      clear fin
      go_enter Tryd.func26, Tryd.ntmps26
      go_wp2_with fail
      (with_reducible refine CP.out.mono ?_)
      rintro _ _ ⟨rfl, rfl⟩
      go_wp2_with fail
      (with_reducible refine CG.out.mono ?_)
      rintro _ w1 ⟨rfl, _, _, b1⟩
      go_wp2_with fail
      go_ret
      exact ⟨by rw [HF.out]; rfl, b1⟩
    · have HF : Hid (extendsD old (m : Int) root (n : Int) P = true) := by
        show _ = _
        rw [fin.out]; exact decide_eq_true ⟨e1.out, eq_toList q2⟩
      clear fin
      go_enter Tryd.func26, Tryd.ntmps26
      go_wp2_with fail
      (with_reducible refine CP.out.mono ?_)
      rintro _ _ ⟨rfl, rfl⟩
      go_wp2_with fail
      (with_reducible refine CG.out.mono ?_)
      rintro _ w1 ⟨rfl, _, _, b1⟩
      go_wp2_with fail
      go_ret
      exact ⟨by rw [HF.out]; rfl, b1⟩
theorem Extends_any (old root : ByteArray) (m n : Int) (P : List ByteArray) (hold : old.size ≤ 140737488355328) (hs : Short P) (hl : P.length ≤ 140737488355328) (A : Option Addr) (c : Nat) (w : World) (hT : Txs w w.heap.size A P) (hc : P.length ≤ c) (ht : Tab w) :
    Calls Tryd.prog 26 #[.string old, .int .i64 m, .string root, .int .i64 n, .slice A P.length c] w (BEnd w (extendsD old m root n P)) := by
  by_cases hno : m < 0 ∨ n < m ∨ 1099511627776 < n
  · exact Ext_no old root m n P hno A c w
  obtain ⟨n', rfl⟩ : ∃ n' : Nat, n = (n' : Int) := ⟨n.toNat, by omega⟩
  obtain ⟨m', rfl⟩ : ∃ m' : Nat, m = (m' : Int) := ⟨m.toNat, by omega⟩
  by_cases h0 : m' = 0
  · subst h0
    exact Ext_zero old root n' (by omega) P A c w ht
  · exact Ext_pos old root m' n' (by omega) (by omega) (by omega) P hold hs hl A c w hT hc ht
end Go.Proofs.YtejapjmlofekfaaDoor

/- Objects compared. -/
namespace Go.Proofs.YtejapjmlofekfaaDoor
open Go.RowKit

def neE (x y : Ent) : Bool := !(eqB x.name y.name && x.dir == y.dir && eqB x.id y.id)
theorem neE_iff (x y : Ent) : neE x y = false ↔ x = y := by
  unfold neE
  obtain ⟨a, b, c⟩ := x
  obtain ⟨a', b', c'⟩ := y
  simp [eqB_iff, and_assoc]
theorem take_eq_step {α : Type} {T U : List α} {k : Nat} (h : T.take k = U.take k) (h1 : k < T.length) (h2 : k < U.length) (e : T[k] = U[k]) : T.take (k + 1) = U.take (k + 1) := by
  rw [List.take_succ_eq_append_getElem h1, List.take_succ_eq_append_getElem h2, h, e]
set_option maxRecDepth 100000 in
set_option maxHeartbeats 1000000 in
theorem keepStrings_any (T U : List ByteArray) (hl : T.length ≤ 281474976710656) (hu : U.length ≤ 281474976710656) (A A' : Option Addr) (c c' : Nat) (w : World) (hP : Txs w w.heap.size A T) (hQ : Txs w w.heap.size A' U) :
    Calls Tryd.prog 34 #[.slice A T.length c, .slice A' U.length c'] w fun e w' => e = .returned (.bool (decide (T = U))) ∧ Below w.heap.size w w' := by
  by_cases hlen : T.length = U.length
  · have hlb : ((T.length : Int) != U.length) = false := by rw [hlen]; simp
    rw [hlen] at hlb ⊢
    go_enter Tryd.func34, Tryd.ntmps34
    go_wp2_with fail
    go_loopw [5] (fun i wr => ∃ k : Nat, k ≤ U.length ∧ i = .int .i64 (k : Int) ∧ T.take k = U.take k ∧ Below w.heap.size w wr) (fun i _ => U.length - (intOf i).toNat)
    case atStart => exact ⟨0, Nat.zero_le _, rfl, rfl, Below.refl _ _⟩
    case round =>
      obtain ⟨k, hk, rfl, ht, hB⟩ := hrel
      have HT := Lib.hid ht
      clear ht
      by_cases hlt : k < U.length
      · have hlt2 : k < T.length := by omega
        obtain ⟨ad, rfl, hbl, h0⟩ := hP k T[k] (List.getElem?_eq_getElem hlt2)
        obtain ⟨ad2, rfl, hbl2, h1⟩ := hQ k U[k] (List.getElem?_eq_getElem hlt)
        have g0 := (hB.cell hbl).trans h0
        have g1 := (hB.cell hbl2).trans h1
        have hi : (k : Int) < U.length := by omega
        have HS := Lib.hid (fun e => take_eq_step HT.out hlt2 hlt e)
        have HN : Hid (T[k] ≠ U[k] → T ≠ U) := fun h e => by subst e; exact h rfl
        clear h0 h1 hP hQ HT
        generalize T[k] = x at *
        generalize U[k] = y at *
        cases hq : x.toList == y.toList
        · have hne : Hid (decide (T = U) = false) := decide_eq_false (HN.out (fun e => by rw [e] at hq; simp at hq))
          clear HS HN hlb
          go_wp2_with fail
          go_quiet (fail)
          go_wp2_with fail
          go_ret
          exact ⟨by rw [hne.out]; rfl, below_drewN hB _⟩
        · have HS2 := Lib.hid (HS.out ((eqB_iff x y).1 hq))
          clear HS HN hlb
          go_wp2_with fail
          go_quiet (fail)
          go_wp2_with fail
          refine ⟨⟨k + 1, hlt, by go_num, HS2.out, below_drewN hB _⟩, by simp [intOf]; omega⟩
      · obtain rfl : k = U.length := by omega
        have hi : ¬ (U.length : Int) < U.length := by omega
        have heq : Hid (decide (T = U) = true) := decide_eq_true (by have := HT.out; rwa [List.take_length, List.take_of_length_le (by omega)] at this)
        clear hP hQ HT hlb
        go_wp2_with fail
        go_ret
        exact ⟨by rw [heq.out]; rfl, hB⟩
  · have hlb : ((T.length : Int) != U.length) = true := by rw [bne_iff_ne]; omega
    have hne : Hid (decide (T = U) = false) := decide_eq_false (fun e => hlen (by rw [e]))
    clear hP hQ hlen
    go_enter Tryd.func34, Tryd.ntmps34
    go_wp2_with fail
    go_ret
    exact ⟨by rw [hne.out]; rfl, Below.refl _ _⟩
end Go.Proofs.YtejapjmlofekfaaDoor
