/- Texts in one: MkRoot, MkPath, MkCheck, MkProof, MkGrow, MkExt, OSame. -/
import Derived.Test.YtlokfeoihnlkkaaDoorWDone
import Derived.Test.YtlokfeoihnlkkaaDoorOApp
import Derived.BigQuiet
import Derived.Deep.QuietTactic
import Derived.Deep.RegionLaw
import Derived.Test.YtlokfeoihnlkkaaDoorOMem
import Derived.Deep.Cut
/- merkle.Root: its contract. -/
namespace Go.Proofs.YtlokfeoihnlkkaaDoor
open Go.RowKit

theorem Txs.take {w : World} {B : Nat} {A : Option Addr} {T : List ByteArray} (h : Txs w B A T) (k : Nat) : Txs w B A (T.take k) := fun j x hx => by
  refine h j x ?_
  rw [List.getElem?_take] at hx
  split at hx
  · exact hx
  · cases hx
theorem Txs.drop {w : World} {B : Nat} {ad : Addr} {T : List ByteArray} (h : Txs w B (some ad) T) (k : Nat) : Txs w B (some (ad.add k)) (T.drop k) := fun j x hx => by
  rw [List.getElem?_drop] at hx
  obtain ⟨ad2, e, h1, h2⟩ := h _ _ hx
  cases e
  exact ⟨_, rfl, by rw [Addr.add_add]; exact h1, by rw [Addr.add_add]; exact h2⟩
def Short (T : List ByteArray) : Prop := ∀ x ∈ T, x.size ≤ 140737488355328
theorem Short.take {T : List ByteArray} (h : Short T) (k : Nat) : Short (T.take k) := fun x hx => h x (List.mem_of_mem_take hx)
theorem Short.drop {T : List ByteArray} (h : Short T) (k : Nat) : Short (T.drop k) := fun x hx => h x (List.mem_of_mem_drop hx)
/-- what a text's call leaves -/
def TEnd (w : World) (s : ByteArray) (e : Ending) (w' : World) : Prop := e = .returned (.string s) ∧ Below w.heap.size w w'
set_option maxRecDepth 100000 in
set_option maxHeartbeats 1000000 in
theorem Root_any : ∀ (N : Nat) (T : List ByteArray), T.length ≤ N → T.length ≤ 140737488355328 → Short T → ∀ (A : Option Addr) (c : Nat) (w : World), Txs w w.heap.size A T → T.length ≤ c → Tab w →
    Calls Tryd.prog 5 #[.slice A T.length c] w (TEnd w (rootL T))
  | N, [], _, _, _, A, c, w, _, _, ht => by
    rw [rootL_nil]
    go_enter Tryd.func5, Tryd.ntmps5
    go_wp2_with fail
    (with_reducible refine (Sum_any _ (by decide) _ ht).mono ?_)
    rintro _ w1 ⟨rfl, b1⟩
    go_wp2_with fail
    go_ret
    exact ⟨rfl, b1⟩
  | N, [x], _, _, hs, A, c, w, hT, _, ht => by
    rw [rootL_one]
    obtain ⟨ad, rfl, _, h0⟩ := hT 0 x rfl
    rw [show ad.add 0 = ad from by simp [Addr.add]] at h0
    have hx := hs x List.mem_cons_self
    go_enter Tryd.func5, Tryd.ntmps5
    go_wp2_with fail
    (with_reducible refine (Leaf_any x (by omega) _ ht).mono ?_)
    rintro _ w1 ⟨rfl, b1⟩
    go_wp2_with fail
    go_ret
    exact ⟨rfl, b1⟩
  | N + 1, x :: y :: l, hN, hm, hs, A, c, w, hT, hc, ht => by
    generalize hL : x :: y :: l = T at *
    have h2 : 2 ≤ T.length := by rw [← hL]; simp
    obtain ⟨ad, rfl, hb, _⟩ := hT 0 x (by rw [← hL]; rfl)
    clear hL hb
    have k1 := spl_lt h2
    have k0 := spl_pos T.length
    have C0 := Lib.hid (split_any T.length h2 (by omega) w)
    have ih := Root_any N
    have e1 : (T.take (spl T.length)).length = spl T.length := by rw [List.length_take]; omega
    have e2 : (T.drop (spl T.length)).length = T.length - spl T.length := by rw [List.length_drop]
    have C1 : ∀ W, Hid (Txs W W.heap.size (some ad) T → Tab W → Calls Tryd.prog 5 #[.slice (some ad) (spl T.length) c] W (TEnd W (rootL (T.take (spl T.length))))) := fun W p q => by
      have := ih (T.take (spl T.length)) (by omega) (by omega) (hs.take _) (some ad) c W (p.take _) (by omega) q
      rw [e1] at this
      exact this
    have C2 : ∀ W, Hid (Txs W W.heap.size (some ad) T → Tab W → Calls Tryd.prog 5 #[.slice (some (ad.add (spl T.length))) (T.length - spl T.length) (c - spl T.length)] W (TEnd W (rootL (T.drop (spl T.length))))) := fun W p q => by
      have := ih (T.drop (spl T.length)) (by omega) (by omega) (hs.drop _) (some (ad.add (spl T.length))) (c - spl T.length) W (p.drop _) (by omega) q
      rw [e2] at this
      exact this
    have C3 : ∀ W, Hid (Tab W → Calls Tryd.prog 17 #[.string (rootL (T.take (spl T.length))), .string (rootL (T.drop (spl T.length)))] W (TEnd W (rootL T))) := fun W q => by
      rw [rootL_two h2]
      exact Node_any _ _ (by rw [rootL_size]; decide) (by rw [rootL_size]; decide) W q
    clear ih e1 e2
    generalize spl T.length = k at *
    generalize rootL (T.take k) = ra at *
    generalize rootL (T.drop k) = rb at *
    generalize rootL T = r at *
    have n0 : ¬ ((T.length : Int) = 0) := by omega
    have n1 : ¬ ((T.length : Int) = 1) := by omega
    have n2 : ¬ (c = k) := by omega
    have n3 : k ≤ c := by omega
    have n4 : k ≤ T.length := by omega
    have HT := Lib.hid hT
    clear hT
    have ht2 := Lib.hid ht
    clear ht
    generalize hn : T.length = n at *
    have Hn := Lib.hid hn
    clear hn
    go_enter Tryd.func5, Tryd.ntmps5
    go_wp2_with fail
    (with_reducible refine C0.out.mono ?_)
    rintro _ w1 ⟨rfl, rfl⟩
    go_wp2_with fail
    have HTd : Hid (Txs w1.drew w1.drew.heap.size (some ad) T) := HT
    have htd : Hid (Tab w1.drew) := ht2
    have Cd := C1 w1.drew
    go_region_law (first
      | (go_simp; go_at_call 5; (with_reducible refine (Cd.out HTd.out htd.out).mono ?_); rintro _ w2 ⟨rfl, b2⟩; have HT2 := Lib.hid ((HTd.out.below b2).mono b2.size); have ht3 := Lib.hid (htd.out.below b2 htd.out.1))
      | (go_simp; go_at_call 5; (with_reducible refine ((C2 _).out HT2.out ht3.out).mono ?_); rintro _ w3 ⟨rfl, b3⟩; have ht4 := Lib.hid (ht3.out.below b3 ht3.out.1))
      | (go_simp; go_at_call 17; (with_reducible refine ((C3 _).out ht4.out).mono ?_); rintro _ w4 ⟨rfl, b4⟩))
    go_wp2_with fail
    go_ret
    have b1 : Below w1.heap.size w1 w1.drew := below_drewN (Below.refl _ _) 1
    have b12 := b1.trans (b2.mono b1.size)
    have b13 := b12.trans (b3.mono b12.size)
    exact ⟨rfl, b13.trans (b4.mono b13.size)⟩
end Go.Proofs.YtlokfeoihnlkkaaDoor

/- merkle.Path: its contract. -/
namespace Go.Proofs.YtlokfeoihnlkkaaDoor
open Go.RowKit

/-- a row of texts of one's own -/
def TRow (w : World) (base : Nat) (v : Value) (T : List ByteArray) : Prop := w.ownsRow base 9 1 v T.length (T.map sv)
theorem TRow.up {w w' : World} {base : Nat} {v : Value} {T : List ByteArray} (h : TRow w base v T) (hb : Below w.heap.size w w') : TRow w' base v T := by
  refine ⟨h.1, ?_⟩
  rcases h.2 with hn | ⟨g, cap, cur, hv, hbs, hg, rest⟩
  · exact .inl hn
  · exact .inr ⟨g, cap, cur, hv, hbs, (hb.block g (Array.getElem?_eq_some_iff.1 hg).1).trans hg, rest⟩
theorem TRow.less {w : World} {base B : Nat} {v : Value} {T : List ByteArray} (h : TRow w base v T) (hb : B ≤ base) : TRow w B v T := by
  refine ⟨h.1, ?_⟩
  rcases h.2 with hn | ⟨g, cap, cur, hv, hbs, rest⟩
  · exact .inl hn
  · exact .inr ⟨g, cap, cur, hv, Nat.le_trans hb hbs, rest⟩
theorem TRow.new {w : World} {base : Nat} {v : Value} {T : List ByteArray} (h : TRow w base v T) (x : ByteArray) : TRow (w.alloc (.cells #[.string x] 9)) base v T := h.up ((Below.refl _ _).alloc (Nat.le_refl _) _)
theorem TRow.nil (w : World) (base : Nat) : TRow w base (.slice none 0 0) [] := own_nil _ _ _ _
theorem news_new (w : World) (x : ByteArray) : News (w.alloc (.cells #[.string x] 9)) (some ⟨w.heap.size, 0, none⟩) 1 [.string x] :=
  ⟨(fun e => by cases e), fun ad e j u hu => by cases e; exact new_cells w [.string x] _ j u hu⟩
theorem one_str (x : ByteArray) : ∀ u ∈ [Value.string x], u.oneCell' = true := fun u hu => by
  rw [List.mem_singleton.1 hu]; rfl
theorem TRow.more {w : World} {base : Nat} {v : Value} {T : List ByteArray} {x : ByteArray} (h : w.ownsRow base 9 1 v (T.length + 1) (T.map sv ++ [.string x])) : TRow w base v (T ++ [x]) := by
  unfold TRow
  rw [List.length_append, List.map_append]
  exact h
theorem row_below {w w1 w2 : World} {base : Nat} {v : Value} {T : List ByteArray} (h : TRow w1 base v T) (hb : w.heap.size ≤ base) (b : Below w.heap.size w w1) (k : w1.grownBy w2 v.ownBlock) : Below w.heap.size w w2 :=
  b.grown k b.size (fun q hq => Nat.le_trans hb (own_row_ge h q hq))
theorem new_below (w : World) (x : ByteArray) : Below w.heap.size w (w.alloc (.cells #[.string x] 9)) := (Below.refl _ _).alloc (Nat.le_refl _) _
/-- what a call leaves that answers with a row of its own -/
def REnd (w : World) (T : List ByteArray) (e : Ending) (w' : World) : Prop := ∃ v, e = .returned v ∧ TRow w' w.heap.size v T ∧ Below w.heap.size w w'
theorem pathL_60 {T : List ByteArray} {i : Nat} (hm : T.length ≤ 140737488355328) : (pathL T i).length ≤ 60 := by
  by_cases h : i < T.length
  · rw [pathL_len _ T i (Nat.le_refl _) h]
    exact Nat.le_trans (sidesN_len 47 _ _ (Nat.le_trans hm (by decide))) (by decide)
  · rw [pathL_no (.inr (by omega))]; simp
theorem Path_no (T : List ByteArray) (i : Int) (hi : i < 0 ∨ (T.length : Int) ≤ i ∨ T.length = 1) (A : Option Addr) (c : Nat) (w : World) :
    Calls Tryd.prog 9 #[.slice A T.length c, .int .i64 i] w (REnd w []) := by
  by_cases h0 : i < 0
  · go_enter Tryd.func9, Tryd.ntmps9
    go_wp2_with fail
    go_ret
    exact ⟨_, rfl, TRow.nil _ _, Below.refl _ _⟩
  · by_cases h1 : (T.length : Int) ≤ i
    · go_enter Tryd.func9, Tryd.ntmps9
      go_wp2_with fail
      go_ret
      exact ⟨_, rfl, TRow.nil _ _, Below.refl _ _⟩
    · have h2 : T.length = 1 := by omega
      rw [h2] at h1 ⊢
      go_enter Tryd.func9, Tryd.ntmps9
      go_wp2_with fail
      go_ret
      exact ⟨_, rfl, TRow.nil _ _, Below.refl _ _⟩
set_option maxRecDepth 100000 in
set_option maxHeartbeats 1000000 in
theorem Path_in : ∀ (N : Nat) (T : List ByteArray) (i : Nat), T.length ≤ N → T.length ≤ 140737488355328 → Short T → i < T.length → ∀ (A : Option Addr) (c : Nat) (w : World), Txs w w.heap.size A T → T.length ≤ c → Tab w →
    Calls Tryd.prog 9 #[.slice A T.length c, .int .i64 (i : Int)] w (REnd w (pathL T i))
  | 0, T, i, hN, _, _, hi, A, c, w, _, _, _ => by omega
  | N + 1, T, i, hN, hm, hs, hi, A, c, w, hT, hc, ht => by
    by_cases h2 : 2 ≤ T.length
    case neg =>
      have e : T.length = 1 := by omega
      rw [pathL_no (.inl (by omega))]
      exact Path_no T _ (.inr (.inr e)) A c w
    have ih := Path_in N
    obtain ⟨si, hsi, sz0, sz1, sz2⟩ := info_parts info_str
    have Hsi := Lib.hid hsi
    have Sz0 := Lib.hid sz0
    have Sz1 := Lib.hid sz1
    have Sz2 := Lib.hid sz2
    clear hsi sz0 sz1 sz2
    obtain ⟨ad, rfl, hb, hb2⟩ := hT 0 T[0] (List.getElem?_eq_getElem (by omega))
    clear hb hb2
    have k1 := spl_lt h2
    have k0 := spl_pos T.length
    have C0 := Lib.hid (split_any T.length h2 (by omega) w)
    have e1 : (T.take (spl T.length)).length = spl T.length := by rw [List.length_take]; omega
    have e2 : (T.drop (spl T.length)).length = T.length - spl T.length := by rw [List.length_drop]
    by_cases hk : i < spl T.length
    · skip
      have C1 : ∀ W, Hid (Txs W W.heap.size (some ad) T → Tab W → Calls Tryd.prog 9 #[.slice (some ad) (spl T.length) c, .int .i64 (i : Int)] W (REnd W (pathL (T.take (spl T.length)) i))) := fun W p q => by
        have := ih (T.take (spl T.length)) i (by omega) (by omega) (hs.take _) (by omega) (some ad) c W (p.take _) (by omega) q
        rw [e1] at this
        exact this
      have C2 : ∀ W, Hid (Txs W W.heap.size (some ad) T → Tab W → Calls Tryd.prog 5 #[.slice (some (ad.add (spl T.length))) (T.length - spl T.length) (c - spl T.length)] W (TEnd W (rootL (T.drop (spl T.length))))) := fun W p q => by
        have := Root_any _ (T.drop (spl T.length)) (Nat.le_refl _) (by omega) (hs.drop _) (some (ad.add (spl T.length))) (c - spl T.length) W (p.drop _) (by omega) q
        rw [e2] at this
        exact this
      rw [pathL_lo h2 hk]
      have hp := pathL_60 (T := T.take (spl T.length)) (i := i) (by omega)
      clear ih e1 e2
      generalize rootL (T.drop (spl T.length)) = rb at *
      generalize pathL (T.take (spl T.length)) i = P at *
      generalize spl T.length = k at *
      have n2 : ¬ (c = k) := by omega
      have n3 : k ≤ c := by omega
      have n4 : k ≤ T.length := by omega
      have q1 : ¬ ((i : Int) < 0) := by omega
      have q2 : ¬ ((T.length : Int) ≤ i) := by omega
      have n1 : ¬ ((T.length : Int) = 1) := by omega
      have n5 : (i : Int) < k := by omega
      have HT := Lib.hid hT
      have ht2 := Lib.hid ht
      clear hT ht
      generalize hn : T.length = n at *
      have Hn := Lib.hid hn
      clear hn
      go_enter Tryd.func9, Tryd.ntmps9
      go_wp2_with fail
      (with_reducible refine C0.out.mono ?_)
      rintro _ w1 ⟨rfl, rfl⟩
      have HTd : Hid (Txs w1.drew w1.drew.heap.size (some ad) T) := HT
      have htd : Hid (Tab w1.drew) := ht2
      have b1 : Hid (Below w1.heap.size w1 w1.drew) := below_drewN (Below.refl _ _) 1
      have Cd := C1 w1.drew
      go_wp2_with fail
      go_region_law (first
        | (go_simp; go_at_call 9; (with_reducible refine (Cd.out HTd.out htd.out).mono ?_); rintro _ w2 ⟨v, rfl, own, b2⟩
           have HT2 := Lib.hid ((HTd.out.below b2).mono b2.size); have ht3 := Lib.hid (htd.out.below b2 htd.out.1))
        | (go_simp; go_at_call 5; (with_reducible refine ((C2 _).out HT2.out ht3.out).mono ?_); rintro _ w3 ⟨rfl, b3⟩
           have own3 := (own.up b3).new rb
           have b13 := (b1.out.trans (b2.mono b1.out.size))
           have b14 := b13.trans (b3.mono b13.size)
           have b15 := b14.trans ((new_below w3 rb).mono b14.size))
        | (refine step_app _ rfl _ _ 22 rfl w1.heap.size 9 si _ 1 16 Tryd.underlying22 Hsi.out Sz0.out Sz1.out Sz2.out rfl (by decide) _ _ _ rfl own3 (some ⟨w3.heap.size, 0, none⟩) 1 1 [.string rb] rfl rfl (news_new w3 rb) (one_str rb) (by unfold maxLen; omega) (by omega) b15.size ?_
           intro v4 w4 own4 g4))
      all_goals
        go_wp2_with fail
        go_ret
        exact ⟨v4, rfl, TRow.more own4, row_below own3 (Nat.le_refl _) b15 g4⟩
    · skip
      have C1 : ∀ W, Hid (Txs W W.heap.size (some ad) T → Tab W → Calls Tryd.prog 9 #[.slice (some (ad.add (spl T.length))) (T.length - spl T.length) (c - spl T.length), .int .i64 ((i : Int) - ((spl T.length : Nat) : Int))] W (REnd W (pathL (T.drop (spl T.length)) (i - spl T.length)))) := fun W p q => by
        have := ih (T.drop (spl T.length)) (i - spl T.length) (by omega) (by omega) (hs.drop _) (by omega) (some (ad.add (spl T.length))) (c - spl T.length) W (p.drop _) (by omega) q
        rw [e2] at this
        rw [show ((i - spl T.length : Nat) : Int) = (i : Int) - ((spl T.length : Nat) : Int) from by omega] at this
        exact this
      have C2 : ∀ W, Hid (Txs W W.heap.size (some ad) T → Tab W → Calls Tryd.prog 5 #[.slice (some ad) (spl T.length) c] W (TEnd W (rootL (T.take (spl T.length))))) := fun W p q => by
        have := Root_any _ (T.take (spl T.length)) (Nat.le_refl _) (by omega) (hs.take _) (some ad) c W (p.take _) (by omega) q
        rw [e1] at this
        exact this
      rw [pathL_hi h2 hi (by omega)]
      have hp := pathL_60 (T := T.drop (spl T.length)) (i := i - spl T.length) (by omega)
      clear ih e1 e2
      generalize rootL (T.take (spl T.length)) = rb at *
      generalize pathL (T.drop (spl T.length)) (i - spl T.length) = P at *
      generalize spl T.length = k at *
      have n2 : ¬ (c = k) := by omega
      have n3 : k ≤ c := by omega
      have n4 : k ≤ T.length := by omega
      have q1 : ¬ ((i : Int) < 0) := by omega
      have q2 : ¬ ((T.length : Int) ≤ i) := by omega
      have n1 : ¬ ((T.length : Int) = 1) := by omega
      have n5 : ¬ ((i : Int) < k) := by omega
      have HT := Lib.hid hT
      have ht2 := Lib.hid ht
      clear hT ht
      generalize hn : T.length = n at *
      have Hn := Lib.hid hn
      clear hn
      go_enter Tryd.func9, Tryd.ntmps9
      go_wp2_with fail
      (with_reducible refine C0.out.mono ?_)
      rintro _ w1 ⟨rfl, rfl⟩
      have HTd : Hid (Txs w1.drew w1.drew.heap.size (some ad) T) := HT
      have htd : Hid (Tab w1.drew) := ht2
      have b1 : Hid (Below w1.heap.size w1 w1.drew) := below_drewN (Below.refl _ _) 1
      have Cd := C1 w1.drew
      go_wp2_with fail
      have HW : IntKind.i64.wrap ((i : Int) - (k : Int)) = (i : Int) - (k : Int) := IntWalk.i64_in _ (by omega)
      go_region_law (first
        | (go_simp; go_at_call 9; (with_reducible refine (Cd.out HTd.out htd.out).mono ?_); rintro _ w2 ⟨v, rfl, own, b2⟩
           have HT2 := Lib.hid ((HTd.out.below b2).mono b2.size); have ht3 := Lib.hid (htd.out.below b2 htd.out.1))
        | (go_simp; go_at_call 5; (with_reducible refine ((C2 _).out HT2.out ht3.out).mono ?_); rintro _ w3 ⟨rfl, b3⟩
           have own3 := (own.up b3).new rb
           have b13 := (b1.out.trans (b2.mono b1.out.size))
           have b14 := b13.trans (b3.mono b13.size)
           have b15 := b14.trans ((new_below w3 rb).mono b14.size))
        | (refine step_app _ rfl _ _ 22 rfl w1.heap.size 9 si _ 1 16 Tryd.underlying22 Hsi.out Sz0.out Sz1.out Sz2.out rfl (by decide) _ _ _ rfl own3 (some ⟨w3.heap.size, 0, none⟩) 1 1 [.string rb] rfl rfl (news_new w3 rb) (one_str rb) (by unfold maxLen; omega) (by omega) b15.size ?_
           intro v4 w4 own4 g4))
      all_goals
        go_wp2_with fail
        go_ret
        exact ⟨v4, rfl, TRow.more own4, row_below own3 (Nat.le_refl _) b15 g4⟩
end Go.Proofs.YtlokfeoihnlkkaaDoor

/- merkle.divide, climb, Check: their contracts. -/
namespace Go.Proofs.YtlokfeoihnlkkaaDoor
open Go.RowKit

theorem Txs.init {w : World} {B : Nat} {A : Option Addr} {Q : List ByteArray} {o : ByteArray} (h : Txs w B A (Q ++ [o])) : Txs w B A Q := by
  have := h.take Q.length
  rwa [List.take_left] at this
theorem Txs.last {w : World} {B : Nat} {A : Option Addr} {Q : List ByteArray} {o : ByteArray} (h : Txs w B A (Q ++ [o])) : ∃ ad, A = some ad ∧ (ad.add Q.length).block < B ∧ w.cell? (ad.add Q.length) = some (.string o) := h Q.length o (by simp)
theorem Short.init {Q : List ByteArray} {o : ByteArray} (h : Short (Q ++ [o])) : Short Q := fun x hx => h x (List.mem_append_left _ hx)
theorem Short.last {Q : List ByteArray} {o : ByteArray} (h : Short (Q ++ [o])) : o.size ≤ 140737488355328 := h o (by simp)
/-- what climb leaves -/
def ClEnd (w : World) (n i : Nat) (leaf : ByteArray) (P : List ByteArray) (e : Ending) (w' : World) : Prop :=
  ∃ x b, e = .returned (.tuple #[.string x, .bool b]) ∧ b = decide (P.length = (sidesN n i).length) ∧ (P.length = (sidesN n i).length → x = foldD (sidesN n i) P leaf) ∧ x.size ≤ 140737488355328 ∧ Below w.heap.size w w'
theorem nodeD_small (a b : ByteArray) : (nodeD a b).size ≤ 140737488355328 := by
  have : (nodeD a b).size = 32 := dg_size _
  omega
theorem leafD_small (a : ByteArray) : (leafD a).size ≤ 140737488355328 := by
  have : (leafD a).size = 32 := dg_size _
  omega
theorem checkD_no {root s : ByteArray} {n i : Int} {P : List ByteArray} (h : n < 1 ∨ 1099511627776 < n ∨ i < 0 ∨ n ≤ i) : checkD root n i s P = false := by
  unfold checkD
  exact decide_eq_false (fun ⟨a, b, c, d, _⟩ => by omega)
end Go.Proofs.YtlokfeoihnlkkaaDoor

/- merkle.proof, Proof: their contracts. -/
namespace Go.Proofs.YtlokfeoihnlkkaaDoor
open Go.RowKit

theorem proofL_60 {T : List ByteArray} {m : Nat} (first : Bool) (h0 : 0 < m) (hm : m ≤ T.length) (hl : T.length ≤ 140737488355328) : (proofL T m first).length ≤ 60 := by
  rw [proofL_len _ T m first (Nat.le_refl _) h0 hm]
  have := sidesM_len 47 m T.length h0 (Nat.le_trans hl (by decide))
  split <;> omega
theorem TRow.single (w : World) (x : ByteArray) {base : Nat} (h : base ≤ w.heap.size) : TRow (w.alloc (.cells #[.string x] 9)) base (.slice (some ⟨w.heap.size, 0, none⟩) 1 1) [x] :=
  ⟨rfl, .inr ⟨w.heap.size, 1, #[.string x], rfl, h, Arr.new w _ _, Nat.le_refl _, by decide, rfl, rfl⟩⟩
set_option maxRecDepth 100000 in
set_option maxHeartbeats 1000000 in
theorem proof_end (T : List ByteArray) (first : Bool) (hl : T.length ≤ 140737488355328) (hs : Short T) (A : Option Addr) (c : Nat) (w : World) (hT : Txs w w.heap.size A T) (hc : T.length ≤ c) (ht : Tab w) :
    Calls Tryd.prog 22 #[.slice A T.length c, .int .i64 (T.length : Int), .bool first] w (REnd w (proofL T T.length first)) := by
  rw [proofL_all (Nat.le_refl _)]
  have C := Lib.hid (Root_any _ T (Nat.le_refl _) hl hs A c w hT hc ht)
  generalize rootL T = r at *
  cases first
  · go_enter Tryd.func22, Tryd.ntmps22
    go_wp2_with fail
    (with_reducible refine C.out.mono ?_)
    rintro _ w1 ⟨rfl, b1⟩
    go_wp2_with fail
    go_ret
    refine ⟨_, rfl, ?_, b1.trans ((new_below w1 r).mono b1.size)⟩
    exact TRow.single w1 r b1.size
  · go_enter Tryd.func22, Tryd.ntmps22
    go_wp2_with fail
    go_ret
    exact ⟨_, rfl, TRow.nil _ _, Below.refl _ _⟩
set_option maxRecDepth 100000 in
set_option maxHeartbeats 1000000 in
theorem proof_in : ∀ (N : Nat) (T : List ByteArray) (m : Nat) (first : Bool), T.length ≤ N → T.length ≤ 140737488355328 → Short T → 0 < m → m ≤ T.length → ∀ (A : Option Addr) (c : Nat) (w : World), Txs w w.heap.size A T → T.length ≤ c → Tab w →
    Calls Tryd.prog 22 #[.slice A T.length c, .int .i64 (m : Int), .bool first] w (REnd w (proofL T m first))
  | 0, T, m, _, hN, _, _, _, _, A, c, w, _, _, _ => by omega
  | N + 1, T, m, first, hN, hm, hs, h0, hi, A, c, w, hT, hc, ht => by
    by_cases hall : m = T.length
    · subst hall
      exact proof_end T first hm hs A c w hT hc ht
    have hlt : m < T.length := by omega
    clear hall
    have h2 : 2 ≤ T.length := by omega
    have ih := proof_in N
    obtain ⟨si, hsi, sz0, sz1, sz2⟩ := info_parts info_str
    have Hsi := Lib.hid hsi
    have Sz0 := Lib.hid sz0
    have Sz1 := Lib.hid sz1
    have Sz2 := Lib.hid sz2
    clear hsi sz0 sz1 sz2
    obtain ⟨ad, rfl, hb, hb2⟩ := hT 0 T[0] (List.getElem?_eq_getElem (by omega))
    clear hb hb2
    have k1 := spl_lt h2
    have k0 := spl_pos T.length
    have C0 := Lib.hid (split_any T.length h2 (by omega) w)
    have e1 : (T.take (spl T.length)).length = spl T.length := by rw [List.length_take]; omega
    have e2 : (T.drop (spl T.length)).length = T.length - spl T.length := by rw [List.length_drop]
    by_cases hk : m ≤ spl T.length
    · skip
      have C1 : ∀ W, Hid (Txs W W.heap.size (some ad) T → Tab W → Calls Tryd.prog 22 #[.slice (some ad) (spl T.length) c, .int .i64 (m : Int), .bool first] W (REnd W (proofL (T.take (spl T.length)) m first))) := fun W p q => by
        have := ih (T.take (spl T.length)) m first (by omega) (by omega) (hs.take _) h0 (by omega) (some ad) c W (p.take _) (by omega) q
        rw [e1] at this
        exact this
      have C2 : ∀ W, Hid (Txs W W.heap.size (some ad) T → Tab W → Calls Tryd.prog 5 #[.slice (some (ad.add (spl T.length))) (T.length - spl T.length) (c - spl T.length)] W (TEnd W (rootL (T.drop (spl T.length))))) := fun W p q => by
        have := Root_any _ (T.drop (spl T.length)) (Nat.le_refl _) (by omega) (hs.drop _) (some (ad.add (spl T.length))) (c - spl T.length) W (p.drop _) (by omega) q
        rw [e2] at this
        exact this
      rw [proofL_lo hlt h0 hk]
      have hp := proofL_60 (T := T.take (spl T.length)) (m := m) first h0 (by omega) (by omega)
      clear ih e1 e2
      generalize rootL (T.drop (spl T.length)) = rb at *
      generalize proofL (T.take (spl T.length)) m first = P at *
      generalize spl T.length = k at *
      have n2 : ¬ (c = k) := by omega
      have n3 : k ≤ c := by omega
      have n4 : k ≤ T.length := by omega
      have n1 : ¬ ((m : Int) = T.length) := by omega
      have n5 : (m : Int) ≤ k := by omega
      have HT := Lib.hid hT
      have ht2 := Lib.hid ht
      clear hT ht
      generalize hn : T.length = n at *
      have Hn := Lib.hid hn
      clear hn
      go_enter Tryd.func22, Tryd.ntmps22
      go_wp2_with fail
      (with_reducible refine C0.out.mono ?_)
      rintro _ w1 ⟨rfl, rfl⟩
      have HTd : Hid (Txs w1.drew w1.drew.heap.size (some ad) T) := HT
      have htd : Hid (Tab w1.drew) := ht2
      have b1 : Hid (Below w1.heap.size w1 w1.drew) := below_drewN (Below.refl _ _) 1
      have Cd := C1 w1.drew
      go_wp2_with fail
      go_region_law (first
        | (go_simp; go_at_call 22; (with_reducible refine (Cd.out HTd.out htd.out).mono ?_); rintro _ w2 ⟨v, rfl, own, b2⟩
           have HT2 := Lib.hid ((HTd.out.below b2).mono b2.size); have ht3 := Lib.hid (htd.out.below b2 htd.out.1))
        | (go_simp; go_at_call 5; (with_reducible refine ((C2 _).out HT2.out ht3.out).mono ?_); rintro _ w3 ⟨rfl, b3⟩
           have own3 := (own.up b3).new rb
           have b13 := (b1.out.trans (b2.mono b1.out.size))
           have b14 := b13.trans (b3.mono b13.size)
           have b15 := b14.trans ((new_below w3 rb).mono b14.size))
        | (refine step_app _ rfl _ _ 22 rfl w1.heap.size 9 si _ 1 16 Tryd.underlying22 Hsi.out Sz0.out Sz1.out Sz2.out rfl (by decide) _ _ _ rfl own3 (some ⟨w3.heap.size, 0, none⟩) 1 1 [.string rb] rfl rfl (news_new w3 rb) (one_str rb) (by unfold maxLen; omega) (by omega) b15.size ?_
           intro v4 w4 own4 g4))
      all_goals
        go_wp2_with fail
        go_ret
        exact ⟨v4, rfl, TRow.more own4, row_below own3 (Nat.le_refl _) b15 g4⟩
    · skip
      have C1 : ∀ W, Hid (Txs W W.heap.size (some ad) T → Tab W → Calls Tryd.prog 22 #[.slice (some (ad.add (spl T.length))) (T.length - spl T.length) (c - spl T.length), .int .i64 ((m : Int) - ((spl T.length : Nat) : Int)), .bool false] W (REnd W (proofL (T.drop (spl T.length)) (m - spl T.length) false))) := fun W p q => by
        have := ih (T.drop (spl T.length)) (m - spl T.length) false (by omega) (by omega) (hs.drop _) (by omega) (by omega) (some (ad.add (spl T.length))) (c - spl T.length) W (p.drop _) (by omega) q
        rw [e2] at this
        rw [show ((m - spl T.length : Nat) : Int) = (m : Int) - ((spl T.length : Nat) : Int) from by omega] at this
        exact this
      have C2 : ∀ W, Hid (Txs W W.heap.size (some ad) T → Tab W → Calls Tryd.prog 5 #[.slice (some ad) (spl T.length) c] W (TEnd W (rootL (T.take (spl T.length))))) := fun W p q => by
        have := Root_any _ (T.take (spl T.length)) (Nat.le_refl _) (by omega) (hs.take _) (some ad) c W (p.take _) (by omega) q
        rw [e1] at this
        exact this
      rw [proofL_hi hlt h0 (by omega)]
      have hp := proofL_60 (T := T.drop (spl T.length)) (m := m - spl T.length) false (by omega) (by omega) (by omega)
      clear ih e1 e2
      generalize rootL (T.take (spl T.length)) = rb at *
      generalize proofL (T.drop (spl T.length)) (m - spl T.length) false = P at *
      generalize spl T.length = k at *
      have n2 : ¬ (c = k) := by omega
      have n3 : k ≤ c := by omega
      have n4 : k ≤ T.length := by omega
      have n1 : ¬ ((m : Int) = T.length) := by omega
      have n5 : ¬ ((m : Int) ≤ k) := by omega
      have HT := Lib.hid hT
      have ht2 := Lib.hid ht
      clear hT ht
      generalize hn : T.length = n at *
      have Hn := Lib.hid hn
      clear hn
      go_enter Tryd.func22, Tryd.ntmps22
      go_wp2_with fail
      (with_reducible refine C0.out.mono ?_)
      rintro _ w1 ⟨rfl, rfl⟩
      have HTd : Hid (Txs w1.drew w1.drew.heap.size (some ad) T) := HT
      have htd : Hid (Tab w1.drew) := ht2
      have b1 : Hid (Below w1.heap.size w1 w1.drew) := below_drewN (Below.refl _ _) 1
      have Cd := C1 w1.drew
      go_wp2_with fail
      have HW : IntKind.i64.wrap ((m : Int) - (k : Int)) = (m : Int) - (k : Int) := IntWalk.i64_in _ (by omega)
      go_region_law (first
        | (go_simp; go_at_call 22; (with_reducible refine (Cd.out HTd.out htd.out).mono ?_); rintro _ w2 ⟨v, rfl, own, b2⟩
           have HT2 := Lib.hid ((HTd.out.below b2).mono b2.size); have ht3 := Lib.hid (htd.out.below b2 htd.out.1))
        | (go_simp; go_at_call 5; (with_reducible refine ((C2 _).out HT2.out ht3.out).mono ?_); rintro _ w3 ⟨rfl, b3⟩
           have own3 := (own.up b3).new rb
           have b13 := (b1.out.trans (b2.mono b1.out.size))
           have b14 := b13.trans (b3.mono b13.size)
           have b15 := b14.trans ((new_below w3 rb).mono b14.size))
        | (refine step_app _ rfl _ _ 22 rfl w1.heap.size 9 si _ 1 16 Tryd.underlying22 Hsi.out Sz0.out Sz1.out Sz2.out rfl (by decide) _ _ _ rfl own3 (some ⟨w3.heap.size, 0, none⟩) 1 1 [.string rb] rfl rfl (news_new w3 rb) (one_str rb) (by unfold maxLen; omega) (by omega) b15.size ?_
           intro v4 w4 own4 g4))
      all_goals
        go_wp2_with fail
        go_ret
        exact ⟨v4, rfl, TRow.more own4, row_below own3 (Nat.le_refl _) b15 g4⟩
theorem Proof_no (T : List ByteArray) (m : Int) (h : m < 1 ∨ (T.length : Int) < m) (A : Option Addr) (c : Nat) (w : World) :
    Calls Tryd.prog 11 #[.slice A T.length c, .int .i64 m] w (REnd w []) := by
  by_cases h0 : m < 1
  · go_enter Tryd.func11, Tryd.ntmps11
    go_wp2_with fail
    go_ret
    exact ⟨_, rfl, TRow.nil _ _, Below.refl _ _⟩
  · have h1 : (T.length : Int) < m := by omega
    go_enter Tryd.func11, Tryd.ntmps11
    go_wp2_with fail
    go_ret
    exact ⟨_, rfl, TRow.nil _ _, Below.refl _ _⟩
theorem Proof_in (T : List ByteArray) (m : Nat) (hm : T.length ≤ 140737488355328) (hs : Short T) (h0 : 0 < m) (hi : m ≤ T.length) (A : Option Addr) (c : Nat) (w : World) (hT : Txs w w.heap.size A T) (hc : T.length ≤ c) (ht : Tab w) :
    Calls Tryd.prog 11 #[.slice A T.length c, .int .i64 (m : Int)] w (REnd w (proofL T m true)) := by
  have C := Lib.hid (proof_in _ T m true (Nat.le_refl _) hm hs h0 hi A c w hT hc ht)
  have q1 : ¬ ((m : Int) < 1) := by omega
  have q2 : ¬ ((T.length : Int) < m) := by omega
  go_enter Tryd.func11, Tryd.ntmps11
  go_wp2_with fail
  (with_reducible refine C.out.mono ?_)
  rintro _ w1 ⟨v, rfl, own, b⟩
  go_wp2_with fail
  go_ret
  exact ⟨v, rfl, own, b⟩
end Go.Proofs.YtlokfeoihnlkkaaDoor

/- merkle.grow, proofSize, Extends: their contracts. -/
namespace Go.Proofs.YtlokfeoihnlkkaaDoor
open Go.RowKit

/-- what grow leaves -/
def GrEnd (w : World) (r : ByteArray × ByteArray) (e : Ending) (w' : World) : Prop :=
  e = .returned (.tuple #[.string r.1, .string r.2]) ∧ r.1.size ≤ 140737488355328 ∧ r.2.size ≤ 140737488355328 ∧ Below w.heap.size w w'
theorem growD_step {m n m' n' : Nat} {c : Bool} {old o : ByteArray} {Q : List ByteArray} (h : sidesM m n = sidesM m' n' ++ [c]) (hl : Q.length = (sidesM m' n').length ∨ Q.length = (sidesM m' n').length + 1) :
    growD old m n (Q ++ [o]) = stepG c o (growD old m' n' Q) := by
  unfold growD
  rw [h]
  generalize sidesM m' n' = cs at *
  rcases hl with hl | hl
  · rw [if_pos (by simp; omega), if_pos (by omega), foldG_end _ _ _ _ _ hl.symm]
  · rw [if_neg (by simp; omega), if_neg (by omega)]
    match Q, hl with
    | y :: Q, hl =>
      have hl2 : cs.length = Q.length := by simp at hl; omega
      show foldG (cs ++ [c]) (Q ++ [o]) (y, y) = _
      rw [foldG_end _ _ _ _ _ hl2]; rfl
/-- where proofSize's loop stands -/
def PsRel (m n : Nat) (w : World) (a b x y : Value) (wr : World) : Prop :=
  ∃ m' n' s t : Nat, a = .int .i64 (m' : Int) ∧ b = .int .i64 (n' : Int) ∧ x = .int .i64 (s : Int) ∧ y = .int .i64 (t : Int) ∧ 0 < m' ∧ m' ≤ n' ∧ n' ≤ n ∧ s + n' ≤ n ∧
    proofN m n = s + (sidesM m' n').length + (if t = 1 ∨ (sidesM m' n').contains true = true then 1 else 0) ∧ t ≤ 1 ∧ wr = w
end Go.Proofs.YtlokfeoihnlkkaaDoor

/- merkle.Extends: its contract. -/
namespace Go.Proofs.YtlokfeoihnlkkaaDoor
open Go.RowKit

/-- what a test's call leaves -/
def BEnd (w : World) (b : Bool) (e : Ending) (w' : World) : Prop := e = .returned (.bool b) ∧ Below w.heap.size w w'
theorem eq_toList {x y : ByteArray} (h : (x.toList == y.toList) = true) : x = y := (eqB_iff x y).1 h
theorem ne_toList {x y : ByteArray} (h : (x.toList == y.toList) = false) : x ≠ y := fun e => by
  rw [e] at h
  simp at h
end Go.Proofs.YtlokfeoihnlkkaaDoor

/- Objects compared. -/
namespace Go.Proofs.YtlokfeoihnlkkaaDoor
open Go.RowKit

def neE (x y : Ent) : Bool := !(eqB x.name y.name && x.dir == y.dir && eqB x.id y.id)
theorem neE_iff (x y : Ent) : neE x y = false ↔ x = y := by
  unfold neE
  obtain ⟨a, b, c⟩ := x
  obtain ⟨a', b', c'⟩ := y
  simp [eqB_iff, and_assoc]
theorem take_eq_step {α : Type} {T U : List α} {k : Nat} (h : T.take k = U.take k) (h1 : k < T.length) (h2 : k < U.length) (e : T[k] = U[k]) : T.take (k + 1) = U.take (k + 1) := by
  rw [List.take_succ_eq_append_getElem h1, List.take_succ_eq_append_getElem h2, h, e]
end Go.Proofs.YtlokfeoihnlkkaaDoor
