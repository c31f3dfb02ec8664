/- Texts in one: StClsP, WRef, WRefGet, WRefText, WStep. -/
import Derived.Test.YtmikfmcgddmplaaGreatDoorOMapB
import Derived.Test.YtmikfmcgddmplaaGreatDoorRdn
import Derived.Deep.RegionWith
import Derived.Test.YtmikfmcgddmplaaGreatDoorWRead
/- The document's Closed: its set of ids as a map, and the sorting by insertion: plain; a range over a map that tells the keys shown. -/
namespace Go.Proofs.YtmikfmcgddmplaaGreatDoor
open Go.RowKit

/-- a set of ids, as the entries of a map -/
def hx (H : List ByteArray) : List KV := H.map fun x => (x, true)
theorem hx_pos (x : ByteArray) : ∀ H : List ByteArray, (pos x (hx H)).isSome = memB x H
  | [] => rfl
  | y :: H => by
    have ih := hx_pos x H
    show (pos x ((y, true) :: hx H)).isSome = (decide (y = x) || memB x H)
    rw [pos]
    by_cases h : x = y
    · rw [if_pos h, decide_eq_true h.symm]; rfl
    · rw [if_neg h, decide_eq_false (fun e => h e.symm), Bool.false_or, ← ih]
      cases pos x (hx H) <;> rfl
theorem hx_get (x : ByteArray) (H : List ByteArray) : getL x (hx H) = memB x H := by
  have h := hx_pos x H
  unfold getL
  cases hp : pos x (hx H) with
  | none => rw [hp] at h; exact h
  | some p =>
    rw [hp] at h
    obtain ⟨v, hv⟩ := pos_at x (hx H) p hp
    have : ((hx H).getD p (x, false)).2 = true := by
      rw [List.getD_eq_getElem?_getD, hv, Option.getD_some]
      have hm := List.mem_of_getElem? hv
      unfold hx at hm
      obtain ⟨y, _, e⟩ := List.mem_map.1 hm
      exact (congrArg Prod.snd e).symm
    rw [← h]
    show ((hx H).getD p (x, false)).2 = true
    exact this
theorem hx_up {x : ByteArray} {H : List ByteArray} (h : memB x H = false) : upL x true (hx H) = hx (H ++ [x]) := by
  have hp := hx_pos x H
  rw [h] at hp
  unfold upL
  cases hq : pos x (hx H) with
  | none =>
    show hx H ++ [(x, true)] = hx (H ++ [x])
    unfold hx
    rw [List.map_append]; rfl
  | some p => rw [hq] at hp; cases hp
theorem hx_len (H : List ByteArray) : (hx H).length = H.length := List.length_map _
/-- how many of a row are less -/
def lessN (x : ByteArray) : List ByteArray → Nat
  | [] => 0
  | y :: l => if ltB y x = true then lessN x l + 1 else 0
theorem lessN_le (x : ByteArray) : ∀ l, lessN x l ≤ l.length
  | [] => Nat.le_refl _
  | y :: l => by
    have := lessN_le x l
    unfold lessN
    split
    · rw [List.length_cons]; omega
    · exact Nat.zero_le _
def insB (x : ByteArray) (l : List ByteArray) : List ByteArray := l.take (lessN x l) ++ x :: l.drop (lessN x l)
theorem insB_mem (x z : ByteArray) (l : List ByteArray) : z ∈ insB x l ↔ z = x ∨ z ∈ l := by
  unfold insB
  rw [List.mem_append, List.mem_cons]
  constructor
  · rintro (h | h | h)
    · exact .inr (List.mem_of_mem_take h)
    · exact .inl h
    · exact .inr (List.mem_of_mem_drop h)
  · rintro (h | h)
    · exact .inr (.inl h)
    · rw [← List.take_append_drop (lessN x l) l, List.mem_append] at h
      rcases h with h | h
      · exact .inl h
      · exact .inr (.inr h)
theorem insB_cons (x y : ByteArray) (l : List ByteArray) : insB x (y :: l) = if ltB y x = true then y :: insB x l else x :: y :: l := by
  unfold insB
  rw [lessN]
  split <;> rfl
theorem insB_len (x : ByteArray) (l : List ByteArray) : (insB x l).length = l.length + 1 := by
  have := lessN_le x l
  unfold insB
  rw [List.length_append, List.length_cons, List.length_take, List.length_drop]
  omega
theorem ltB_no {a b : ByteArray} (h : ltB a b = false) (hne : a ≠ b) : ltB b a = true := by
  rcases ltB_tri a b with q | q | q
  · rw [q] at h; cases h
  · exact absurd q hne
  · exact q
theorem insB_rsn {x : ByteArray} : ∀ {l : List ByteArray}, Rsn l → x ∉ l → Rsn (insB x l)
  | [], _, _ => by
    show Rsn [x]
    exact List.pairwise_singleton _ _
  | y :: l, h, hx => by
    rw [insB_cons]
    have h1 := List.pairwise_cons.1 h
    have hne : y ≠ x := fun e => hx (by rw [e]; exact List.mem_cons_self)
    split
    · rename_i hlt
      refine List.pairwise_cons.2 ⟨fun z hz => ?_, insB_rsn h1.2 (fun q => hx (List.mem_cons_of_mem _ q))⟩
      rcases (insB_mem x z l).1 hz with rfl | hz
      · exact hlt
      · exact h1.1 z hz
    · rename_i hlt
      have hgt : ltB x y = true := ltB_no (by cases hq : ltB y x <;> simp_all) hne
      refine List.pairwise_cons.2 ⟨fun z hz => ?_, h⟩
      rcases List.mem_cons.1 hz with rfl | hz
      · exact hgt
      · exact ltB_trans hgt (h1.1 z hz)
theorem inj_of_nodup : ∀ {l : List MapEntry}, (l.map (·.born)).Nodup → ∀ {x y : MapEntry}, x ∈ l → y ∈ l → x.born = y.born → x = y
  | [], _, _, _, hx, _, _ => by cases hx
  | z :: l, h, x, y, hx, hy, e => by
    rw [List.map_cons, List.nodup_cons] at h
    rcases List.mem_cons.1 hx with h1 | h1
    · rcases List.mem_cons.1 hy with h2 | h2
      · rw [h1, h2]
      · exact absurd (List.mem_map.2 ⟨y, h2, by rw [← e, h1]⟩) h.1
    · rcases List.mem_cons.1 hy with h2 | h2
      · exact absurd (List.mem_map.2 ⟨x, h1, by rw [e, h2]⟩) h.1
      · exact inj_of_nodup h.2 h1 h2 e
/-- an iterator in block r over the set in block b: the ids shown -/
def ItrS (b r : Nat) (H S : List ByteArray) (W : World) : Prop :=
  ∃ seen : Array Nat, W.heap[r]? = some (.mapIter (some b) H.length seen H.length) ∧ S.Nodup ∧ (∀ x ∈ S, x ∈ H) ∧ (∀ e ∈ mkEs 0 (hx H), seen.contains e.born = true → ∃ x ∈ S, e.key = .string x) ∧ (∀ e ∈ mkEs 0 (hx H), ∀ x ∈ S, e.key = .string x → seen.contains e.born = true)
theorem mkEs_key : ∀ (l : List KV) (i : Nat) (e : MapEntry), e ∈ mkEs i l → ∃ x ∈ l, e.key = .string x.1 ∧ e.val = .bool x.2
  | [], _, e, h => by cases h
  | x :: l, i, e, h => by
    rcases List.mem_cons.1 h with rfl | h
    · exact ⟨x, List.mem_cons_self, rfl, rfl⟩
    · obtain ⟨y, hy, h2⟩ := mkEs_key l (i + 1) e h
      exact ⟨y, List.mem_cons_of_mem _ hy, h2⟩
theorem key_mkEs : ∀ (l : List KV) (i : Nat) (x : KV), x ∈ l → ∃ e ∈ mkEs i l, e.key = .string x.1
  | [], _, x, h => by cases h
  | y :: l, i, x, h => by
    rcases List.mem_cons.1 h with rfl | h
    · exact ⟨_, List.mem_cons_self, rfl⟩
    · obtain ⟨e, he, h2⟩ := key_mkEs l (i + 1) x h
      exact ⟨e, List.mem_cons_of_mem _ he, h2⟩
/-- entries of one key are one entry -/
theorem mkEs_once : ∀ (H : List ByteArray) (i : Nat) (e e' : MapEntry), H.Nodup → e ∈ mkEs i (hx H) → e' ∈ mkEs i (hx H) → e.key = e'.key → e = e'
  | [], _, e, _, _, h, _, _ => by cases h
  | x :: H, i, e, e', hn, h, h', hk => by
    rw [List.nodup_cons] at hn
    have far : ∀ y, y ∈ mkEs (i + 1) (hx H) → y.key ≠ .string x := fun y hy q => by
      obtain ⟨z, hz, hkz, _⟩ := mkEs_key _ _ _ hy
      rw [hkz] at q
      have e1 : z.1 = x := by simpa using q
      unfold hx at hz
      obtain ⟨u, hu, rfl⟩ := List.mem_map.1 hz
      exact hn.1 (by rw [← e1]; exact hu)
    rcases List.mem_cons.1 h with rfl | h
    · rcases List.mem_cons.1 h' with rfl | h'
      · rfl
      · exact absurd hk.symm (far e' h')
    · rcases List.mem_cons.1 h' with rfl | h'
      · exact absurd hk (far e h)
      · exact mkEs_once H (i + 1) e e' hn.2 h h' hk
theorem ItrS.start {W : World} {b : Nat} {H : List ByteArray} : ItrS b W.heap.size H [] (W.alloc (.mapIter (some b) H.length #[] H.length)) :=
  ⟨#[], heap_alloc_new W _, List.nodup_nil, (fun x hx => by cases hx), (fun e _ h => by simp at h), fun e _ x hx => by cases hx⟩
open Go.ChangeMaps (setBlock) in
/-- the iterator's step: all ids were shown, or one comes that was not -/
theorem itrS_next {W : World} {b r : Nat} {H S : List ByteArray} (hH : H.Nodup) (hM : MapAt W b (hx H)) (hI : ItrS b r H S W) (hr : r ≠ b) :
    ((∀ x ∈ H, x ∈ S) ∧ ∀ ty, (Instr.next (.pointer (some ⟨r, 0, none⟩)) false ty).run Tryz.prog W = .ok (.tuple #[.bool false]) W) ∨
    ∃ (x : ByteArray) (W' : World), x ∈ H ∧ x ∉ S ∧ (∀ ty, (Instr.next (.pointer (some ⟨r, 0, none⟩)) false ty).run Tryz.prog W = .ok (.tuple #[.bool true, .string x, .bool true]) W') ∧
      (Instr.entry (.pointer (some ⟨r, 0, none⟩))).run Tryz.prog W' = .ok (.tuple #[.string x, .bool true]) W' ∧ MapAt W' b (hx H) ∧ W.grownBy W' (some r) ∧ ItrS b r H (S ++ [x]) W' := by
  obtain ⟨seen, hit, hSn, hSH, hs1, hs2⟩ := hI
  have hM' : W.heap[b]? = some (.map (mkEs 0 (hx H)).toArray (hx H).length) := hM
  rw [hx_len] at hM'
  rcases run_next_at (P := Tryz.prog) W 0 r b H.length H.length seen (mkEs 0 (hx H)).toArray H.length hit hM' (fun x hx' => by
      obtain ⟨_, _, _, _, h⟩ := mkEs_mem (hx H) 0 x (by simpa using hx')
      rw [hx_len] at h
      omega) (Nat.le_refl _) with ⟨h0, hrun⟩ | ⟨e, he, w1, hw1, hrun⟩
  · left
    have ha := all_seen _ _ h0
    refine ⟨fun x hxH => ?_, fun ty => hrun⟩
    obtain ⟨e, he, hk⟩ := key_mkEs (hx H) 0 (x, true) (List.mem_map.2 ⟨x, hxH, rfl⟩)
    obtain ⟨y, hy, hk2⟩ := hs1 e he (ha e (by simpa using he))
    rw [hk] at hk2
    have e1 : x = y := by simpa using hk2
    rw [e1]; exact hy
  · right
    obtain ⟨hmem, hns⟩ := mem_left he
    have hmem' : e ∈ mkEs 0 (hx H) := by simpa using hmem
    obtain ⟨z, hz, hkey, hv⟩ := mkEs_key (hx H) 0 e hmem'
    unfold hx at hz
    obtain ⟨x, hxH, rfl⟩ := List.mem_map.1 hz
    have hxS : x ∉ S := fun q => by
      have := hs2 e hmem' x q hkey
      rw [this] at hns
      cases hns
    have hit1 : w1.heap[r]? = some (.mapIter (some b) H.length seen H.length) := by rcases hw1 with rfl | rfl <;> exact hit
    have hM1 : w1.heap[b]? = some (.map (mkEs 0 (hx H)).toArray H.length) := by rcases hw1 with rfl | rfl <;> exact hM'
    have hlt : r < w1.heap.size := (Array.getElem?_eq_some_iff.1 hit1).1
    have hit2 : (setBlock w1 r (.mapIter (some b) H.length (seen.push e.born) H.length)).heap[r]? = some (.mapIter (some b) H.length (seen.push e.born) H.length) := by simp [setBlock, hlt]
    have hM2 : (setBlock w1 r (.mapIter (some b) H.length (seen.push e.born) H.length)).heap[b]? = some (.map (mkEs 0 (hx H)).toArray H.length) := by
      simp only [setBlock, Array.getElem?_setIfInBounds]
      rw [if_neg hr]
      exact hM1
    have hent := run_entry_at (P := Tryz.prog) _ r b H.length seen (mkEs 0 (hx H)).toArray H.length e hit2 hM2 hmem (by simpa using mkEs_nodup (hx H) 0)
    have hk : W.grownBy (setBlock w1 r (.mapIter (some b) H.length (seen.push e.born) H.length)) (some r) := by
      have k0 : W.grownBy w1 (some r) := by
        rcases hw1 with rfl | rfl
        · exact World.grownBy.refl _ _
        · exact gb_below (Below.refl _ _).drew
      exact gb_trans k0 gb_map
    rw [hkey, hv] at hent hrun
    refine ⟨x, _, hxH, hxS, fun ty => hrun, hent, ?_, hk, seen.push e.born, hit2, ?_, ?_, fun y hy hc => ?_, fun y hy u hu hk3 => ?_⟩
    · unfold MapAt
      rw [hx_len]
      exact hM2
    · rw [List.nodup_append]
      exact ⟨hSn, by simp, fun a ha b' hb' q => hxS (by rw [List.mem_singleton.1 hb'] at q; rw [← q]; exact ha)⟩
    · intro y hy
      rcases List.mem_append.1 hy with q | q
      · exact hSH y q
      · rw [List.mem_singleton.1 q]; exact hxH
    · rw [Array.contains_push] at hc
      simp only [Bool.or_eq_true, beq_iff_eq] at hc
      rcases hc with hc | hc
      · obtain ⟨u, hu, h2⟩ := hs1 y hy hc
        exact ⟨u, List.mem_append_left _ hu, h2⟩
      · have hb := mkEs_nodup (hx H) 0
        have e1 : y = e := inj_of_nodup hb hy hmem' hc
        exact ⟨x, by simp, by rw [e1, hkey]⟩
    · rw [Array.contains_push]
      rcases List.mem_append.1 hu with q | q
      · rw [hs2 y hy u q hk3]; rfl
      · rw [List.mem_singleton.1 q] at hk3
        have e1 : y = e := mkEs_once H 0 y e hH hy hmem' (by rw [hk3, hkey])
        rw [e1]
        simp
end Go.Proofs.YtmikfmcgddmplaaGreatDoor

/- ref.Number, ref.Text: their contracts. -/
namespace Go.Proofs.YtmikfmcgddmplaaGreatDoor
open Go.RowKit

theorem conv_one (x : UInt8) (W : World) : (convert 105 9 (.slice (some ⟨W.heap.size, 0, none⟩) 1 1)).run Tryz.prog (W.alloc (.cells #[.int .u8 (x.toNat : Int)] 5)) = .ok (.string (bs [x])) (W.alloc (.cells #[.int .u8 (x.toNat : Int)] 5)) := by
  rw [run_convert_bytes_string _ 105 9 5 _ _ _ Tryz.underlying105 Tryz.underlying5 Tryz.underlying9]
  exact run_bytes (P := Tryz.prog) (Arr.new W 5 #[.int .u8 (x.toNat : Int)]) [x] rfl 1
theorem conv_one_drew (x : UInt8) (W : World) : (convert 105 9 (.slice (some ⟨W.heap.size, 0, none⟩) 1 1)).run Tryz.prog (W.alloc (.cells #[.int .u8 (x.toNat : Int)] 5)).drew = .ok (.string (bs [x])) (W.alloc (.cells #[.int .u8 (x.toNat : Int)] 5)).drew := by
  rw [run_convert_bytes_string _ 105 9 5 _ _ _ Tryz.underlying105 Tryz.underlying5 Tryz.underlying9]
  exact run_bytes (P := Tryz.prog) (Arr.new W 5 #[.int .u8 (x.toNat : Int)]).drew [x] rfl 1
theorem conv_kept {x : UInt8} {w w2 : World} {bx : ByteArray} (hb : Below (w.alloc (.cells #[.int .u8 (x.toNat : Int)] 5)).drew.heap.size (w.alloc (.cells #[.int .u8 (x.toNat : Int)] 5)).drew w2) (hx : bs [x] = bx) :
    (convert 105 9 (.slice (some ⟨w.heap.size, 0, none⟩) 1 1)).run Tryz.prog w2 = .ok (.string bx) w2 := by
  subst hx
  rw [run_convert_bytes_string _ 105 9 5 _ _ _ Tryz.underlying105 Tryz.underlying5 Tryz.underlying9]
  exact run_bytes (P := Tryz.prog) ((Arr.new w 5 #[.int .u8 (x.toNat : Int)]).drew.below hb (by simp)) [x] rfl 1

set_option maxRecDepth 100000 in
set_option maxHeartbeats 1000000 in
theorem RefNumber_small (n : Nat) (h : n < 128) (w : World) :
    Calls Tryz.prog 128 #[.int .i64 (n : Int)] w fun e w' => e = .returned (.string (bs (num n))) ∧ Below w.heap.size w w' := by
  have HN := Lib.hid (num_small n h)
  have h1 : ¬ ((n : Int) < 0) := by omega
  have h2 : ¬ (4611686018427387904 ≤ (n : Int)) := by omega
  have h3 : (n : Int) < 128 := by omega
  have hb2 := last_byte n
  generalize UInt8.ofNat n = x at *
  have hc := conv_one x w
  go_enter Tryz.func128, Tryz.ntmps128
  go_wp2_with fail
  go_ret
  exact ⟨by rw [HN.out]; rfl, (Below.refl _ _).alloc (Nat.le_refl _) _⟩

set_option maxRecDepth 100000 in
set_option maxHeartbeats 1000000 in
theorem RefNumber_great (n : Nat) (h : 128 ≤ n) (h62 : n < 4611686018427387904)
    (ih : ∀ w, Calls Tryz.prog 128 #[.int .i64 ((n / 128 : Nat) : Int)] w fun e w' => e = .returned (.string (bs (num (n / 128)))) ∧ Below w.heap.size w w') (w : World) :
    Calls Tryz.prog 128 #[.int .i64 (n : Int)] w fun e w' => e = .returned (.string (bs (num n))) ∧ Below w.heap.size w w' := by
  have HN : Hid (bs (num n) = bs [UInt8.ofNat (n % 128 + 128)] ++ bs (num (n / 128))) := by
    show _ = _
    rw [num_great n h]
    apply ByteArray.ext
    simp [bs]
  have h1 : ¬ ((n : Int) < 0) := by omega
  have h2 : ¬ (4611686018427387904 ≤ (n : Int)) := by omega
  have h3 : ¬ (n : Int) < 128 := by omega
  have hb2 : IntKind.u8.wrap (IntKind.i64.wrap ((n : Int).tmod 128 + 128)) = ((UInt8.ofNat (n % 128 + 128)).toNat : Int) := by
    rw [Int.tmod_eq_emod_of_nonneg (by omega), IntWalk.i64_in _ (by omega), IntKind.wrap_u8', UInt8.toNat_ofNat']; omega
  have hb3 : IntKind.i64.wrap ((n : Int) / 128) = (n : Int) / 128 := IntWalk.i64_in _ (by omega)
  have hl : (bs (num (n / 128))).size ≤ 9 := by rw [bs_size]; exact num_len9 _ (by omega)
  have hl1 : (bs [UInt8.ofNat (n % 128 + 128)]).size = 1 := bs_size _
  have hdiv : ((n / 128 : Nat) : Int) = (n : Int) / 128 := by omega
  rw [hdiv] at ih
  generalize UInt8.ofNat (n % 128 + 128) = x at *
  generalize bs (num (n / 128)) = y at *
  have HI := Lib.hid ih
  have HL1 := Lib.hid hl1
  have hl2 : (bs [x]).size ≤ 1 := by omega
  clear ih hl1 hdiv
  generalize hbx : bs [x] = bx at *
  have hc : ∀ W : World, (convert 105 9 (.slice (some ⟨W.heap.size, 0, none⟩) 1 1)).run Tryz.prog (W.alloc (.cells #[.int .u8 (x.toNat : Int)] 5)) = .ok (.string bx) (W.alloc (.cells #[.int .u8 (x.toNat : Int)] 5)) := fun W => by rw [← hbx]; exact conv_one x W
  have hcd : ∀ W : World, (convert 105 9 (.slice (some ⟨W.heap.size, 0, none⟩) 1 1)).run Tryz.prog (W.alloc (.cells #[.int .u8 (x.toNat : Int)] 5)).drew = .ok (.string bx) (W.alloc (.cells #[.int .u8 (x.toNat : Int)] 5)).drew := fun W => by rw [← hbx]; exact conv_one_drew x W
  have HX := Lib.hid hbx
  clear hbx
  go_enter Tryz.func128, Tryz.ntmps128
  go_wp2_with fail
  clear h1 h2 h3 h62 h
  go_region_with (first
    | (go_at_call 128
       (with_reducible refine (HI.out _).mono ?_)
       rintro e w2 ⟨rfl, b2⟩
       have hc2 := conv_kept b2 HX.out)
    | (go_at_call 128
       (with_reducible refine (HI.out _).mono ?_)
       rintro e w2 ⟨rfl, b2⟩))
  all_goals
    go_wp2_with fail
    go_ret
    refine ⟨by rw [HN.out]; rfl, ?_⟩
    first
      | exact (((Below.refl _ _).alloc (Nat.le_refl _) _).drew).trans (b2.mono (by simp))
      | (have b3 : Below w.heap.size w w2 := (Below.refl _ w).drew.trans b2
         exact b3.alloc b3.size _)

/-- ref.Number at a number in its range -/
theorem RefNumber_yes (n : Nat) : n < 4611686018427387904 → ∀ w : World,
    Calls Tryz.prog 128 #[.int .i64 (n : Int)] w fun e w' => e = .returned (.string (bs (num n))) ∧ Below w.heap.size w w' := by
  induction n using num.induct with
  | case1 n h => exact fun _ w => RefNumber_small n h w
  | case2 n h ih => exact fun h62 w => RefNumber_great n (by omega) h62 (ih (by omega)) w
theorem RefNumber_no (n : Int) (h : n < 0 ∨ 4611686018427387904 ≤ n) (w : World) :
    Calls Tryz.prog 128 #[.int .i64 n] w fun e w' => e = .returned (.string ⟨#[]⟩) ∧ w = w' := by
  rcases h with h | h
  · go_enter Tryz.func128, Tryz.ntmps128
    go_wp2_with fail
    go_ret
    exact ⟨rfl, rfl⟩
  · have h1 : ¬ (n < 0) := by omega
    go_enter Tryz.func128, Tryz.ntmps128
    go_wp2_with fail
    go_ret
    exact ⟨rfl, rfl⟩

def NumberIs (n : Int) (r : ByteArray) : Prop := ∀ W, Calls Tryz.prog 128 #[.int .i64 n] W fun x w' => x = .returned (.string r) ∧ Below W.heap.size W w'
theorem numberIs_yes (n : Nat) (h : n < 4611686018427387904) : NumberIs (n : Int) (bs (num n)) := fun W => RefNumber_yes n h W
theorem numberIs_no (n : Int) (h : n < 0 ∨ 4611686018427387904 ≤ n) : NumberIs n ⟨#[]⟩ := fun W =>
  (RefNumber_no n h W).mono fun _ _ ⟨h1, h2⟩ => ⟨h1, by subst h2; exact Below.refl _ _⟩
theorem num_full (n : Nat) : (bs (num n)).toList.isEmpty = false := by
  have hp := num_pos n
  rw [ByteArray.toList_eq, bs_list]
  cases hq : num n with
  | nil => rw [hq] at hp; simp at hp
  | cons => rfl
end Go.Proofs.YtmikfmcgddmplaaGreatDoor

/- ref.Get, ref.GetText: their contracts. -/
namespace Go.Proofs.YtmikfmcgddmplaaGreatDoor
open Go.RowKit

theorem last_num (n : Nat) (h : 1 < (num n).length) : lastOf (num n) ≠ 0 := by
  rcases (num_ended n).2.1 with h1 | h1
  · omega
  · exact h1
def RGRel (s : ByteArray) (w : World) (n p i : Value) (wr : World) : Prop :=
  ∃ k : Nat, k ≤ s.size ∧ k ≤ 8 ∧ i = .int .i64 (k : Int) ∧ p = .int .i64 ((128 ^ k : Nat) : Int) ∧ n = .int .i64 (val (s.data.toList.take k) : Int) ∧ (∀ x ∈ s.data.toList.take k, 128 ≤ x.toNat) ∧ Below w.heap.size w wr

theorem sum_groups (v b p v2 : Nat) (hp : p ≤ 72057594037927936) (hv : v < p) (h : v2 = v + b % 128 * p) :
    wrap64 ((v : Int) + wrap64 ((b : Int) % 128 * (p : Int))) = (v2 : Int) := by
  have hx : b % 128 * p ≤ 127 * 72057594037927936 := Nat.mul_le_mul (by omega) hp
  have e : (b : Int) % 128 * (p : Int) = ((b % 128 * p : Nat) : Int) := by simp
  rw [e, IntWalk.wrap64_in ((b % 128 * p : Nat) : Int) (by omega), IntWalk.wrap64_in _ (by omega), h]
  omega
/-- what Number makes of what was read is what stands there, just where the last byte is not idle -/
theorem same_bytes (s : ByteArray) (k : Nat) (h : k < s.size) (ho : ∀ x ∈ s.data.toList.take k, 128 ≤ x.toNat) (hb : s[k].toNat < 128) :
    if 0 < k ∧ s[k].toNat = 0 then ((bs (num (val (s.data.toList.take (k + 1))))).toList == (s.extract 0 (k + 1)).toList) = false else bs (num (val (s.data.toList.take (k + 1)))) = s.extract 0 (k + 1) := by
  have he := ended_snoc _ _ ho hb
  rw [← take_snoc s k h] at he
  have hl : (s.data.toList.take (k + 1)).length = k + 1 := by rw [List.length_take]; have : s.data.toList.length = s.size := rfl; omega
  have hlast : lastOf (s.data.toList.take (k + 1)) = s[k].toNat := by rw [take_snoc s k h, lastOf_snoc]
  split
  · rename_i hc
    rw [beq_eq_false_iff_ne]
    intro e
    rw [ByteArray.toList_eq, ByteArray.toList_eq, bs_list, extract_drop, List.drop_zero, Nat.sub_zero] at e
    have h1 := last_num (val (s.data.toList.take (k + 1))) (by rw [e, hl]; omega)
    rw [e, hlast] at h1
    exact h1 hc.2
  · rename_i hc
    rw [(val_ended _ he (by rw [hl, hlast]; omega)).1, bs_extract]

set_option maxRecDepth 100000 in
set_option maxHeartbeats 1000000 in
theorem RefGet_any (s : ByteArray) (hs : s.size ≤ 281474976710656) (w : World) :
    Calls Tryz.prog 88 #[.string s] w fun e w' => GR (got s.data.toList) e ∧ Below w.heap.size w w' := by
  go_enter Tryz.func88, Tryz.ntmps88
  go_wp2_with fail
  go_loopw [5, 6, 7] (fun n p i wr => RGRel s w n p i wr) (fun _ _ i _ => 9 - (intOf i).toNat)
  case atStart => exact ⟨0, by omega, by omega, rfl, rfl, rfl, (fun x hx => by simp at hx), Below.refl _ _⟩
  case round =>
    obtain ⟨k, hk, hk8, rfl, rfl, rfl, ho, hB⟩ := hrel
    have HO := Lib.hid ho
    clear ho
    by_cases hlt : k < s.size
    · have h1 : (k : Int) < 9 := by omega
      have h2 : (k : Int) < s.size := by omega
      have hb := s[k].toNat_lt
      have hv := val_lt (s.data.toList.take k)
      rw [List.length_take, Nat.min_eq_left (show k ≤ s.data.toList.length from hk)] at hv
      have hp : (128 : Nat) ^ k ≤ 72057594037927936 := by
        have : (128 : Nat) ^ k ≤ 128 ^ 8 := Nat.pow_le_pow_right (by decide) (by omega)
        omega
      have hp7 : k < 8 → (128 : Nat) ^ k ≤ 562949953421312 := fun h => by
        have : (128 : Nat) ^ k ≤ 128 ^ 7 := Nat.pow_le_pow_right (by decide) (by omega)
        omega
      have hp8 : k = 8 → (128 : Nat) ^ k = 72057594037927936 := fun h => by subst h; rfl
      have HPS : Hid ((128 : Nat) ^ (k + 1) = 128 ^ k * 128) := by show _ = _; rw [Nat.pow_succ]
      have hv2 : val (s.data.toList.take (k + 1)) = val (s.data.toList.take k) + s[k].toNat % 128 * 128 ^ k := by
        rw [take_snoc s k hlt, val_snoc, List.length_take, Nat.min_eq_left (show k ≤ s.data.toList.length from hk)]
      have hj := sum_groups _ _ _ _ hp hv hv2
      by_cases hg : 128 ≤ s[k].toNat
      · have HG : Hid (k = 8 → got s.data.toList = none) := fun h8 => got_open s 9 (.inr rfl) (by omega) (by
          rw [show 9 = k + 1 from by omega, take_snoc s k hlt]
          intro x hx
          rw [List.mem_append, List.mem_singleton] at hx
          rcases hx with hx | rfl
          · exact HO.out x hx
          · exact hg) (by omega)
        have hg' : 128 ≤ (s[k].toNat : Int) := by omega
        clear hv2 hv
        generalize val (s.data.toList.take k) = v at *
        generalize hV2 : val (s.data.toList.take (k + 1)) = v2 at *
        have HV2 := Lib.hid hV2
        clear hV2
        by_cases h8 : k = 8
        · have HG2 := Lib.hid (HG.out h8)
          have h8' : ((k : Int) == 8) = true := by rw [beq_iff_eq]; omega
          have hg2 : 64 ≤ (s[k].toNat : Int) := by omega
          clear hp8 hp7 HG h8 HPS
          generalize (128 : Nat) ^ k = p at *
          go_wp2_with fail
          go_ret3
          exact ⟨GR_none rfl HG2.out, hB⟩
        · have hp' := hp7 (by omega)
          have h8' : ((k : Int) == 8) = false := by rw [beq_eq_false_iff_ne]; omega
          have h8'' : (k : Int) < 8 := by omega
          have hk7 : k < 8 := by omega
          clear hp8 hp7 HG h8 hp
          generalize hP : (128 : Nat) ^ k = p at *
          have HP := Lib.hid hP
          clear hP
          go_wp2_with fail
          refine ⟨⟨k + 1, hlt, hk7, by go_num, by rw [HPS.out]; go_num, by rw [HV2.out, hj], ?_, hB⟩, by simp [intOf]; omega⟩
          intro x hx
          rw [take_snoc s k hlt, List.mem_append, List.mem_singleton] at hx
          rcases hx with hx | rfl
          · exact HO.out x hx
          · exact hg
      · have hg' : (s[k].toNat : Int) < 128 := by omega
        have HG := Lib.hid (got_at s k hlt (by omega) HO.out (by omega))
        have HS := Lib.hid (same_bytes s k hlt HO.out (by omega))
        have hmod : s[k].toNat % 128 = s[k].toNat := by omega
        rw [hmod] at hv2
        clear hmod
        by_cases h8 : k = 8 ∧ 64 ≤ s[k].toNat
        · obtain ⟨e8, h64⟩ := h8
          have hpe := hp8 e8
          have hbig : 4611686018427387904 ≤ val (s.data.toList.take (k + 1)) := by
            rw [hv2, hpe]; omega
          have HG2 : Hid (got s.data.toList = none) := by show _ = _; rw [HG.out, if_pos (.inr hbig)]
          have h8' : ((k : Int) == 8) = true := by rw [beq_iff_eq]; omega
          have hg2 : 64 ≤ (s[k].toNat : Int) := by omega
          clear HG HS hp8 hp7 hbig hpe hv2 HPS hv e8 h64
          generalize val (s.data.toList.take k) = v at *
          generalize val (s.data.toList.take (k + 1)) = v2 at *
          generalize (128 : Nat) ^ k = p at *
          go_wp2_with fail
          go_ret3
          exact ⟨GR_none rfl HG2.out, hB⟩
        · have hsmall : val (s.data.toList.take (k + 1)) < 4611686018427387904 := by
            rw [hv2]
            by_cases e8 : k = 8
            · rw [hp8 e8] at hv ⊢
              omega
            · have h7 := hp7 (by omega)
              have hx : s[k].toNat * 128 ^ k ≤ 127 * 562949953421312 := Nat.mul_le_mul (by omega) h7
              omega
          have h8' : ((k : Int) == 8) = false ∨ (((k : Int) == 8) = true ∧ ¬ (64 ≤ (s[k].toNat : Int))) := by
            by_cases e : k = 8
            · exact .inr ⟨by rw [beq_iff_eq]; omega, by omega⟩
            · exact .inl (by rw [beq_eq_false_iff_ne]; omega)
          have HN := Lib.hid (RefNumber_yes _ hsmall)
          have w1 : IntKind.i64.wrap ((k : Int) + 1) = (k : Int) + 1 := IntWalk.i64_in _ (by omega)
          have w2 : ((k : Int) + 1).toNat = k + 1 := by omega
          have w3 : (k : Int) + 1 ≤ s.size := by omega
          have w4 : 0 ≤ (k : Int) + 1 := by omega
          have W1 := Lib.hid w1
          have W2 := Lib.hid w2
          clear w1 w2 hp8 hp7 HPS hv hv2 h8
          by_cases hz : 0 < k ∧ s[k].toNat = 0
          · have hne := HS.out
            rw [if_pos hz] at hne
            have HG2 : Hid (got s.data.toList = none) := by show _ = _; rw [HG.out, if_pos (.inl hz)]
            have HNE := Lib.hid hne
            clear HG HS hz hsmall hne HO
            generalize val (s.data.toList.take k) = v at *
            generalize val (s.data.toList.take (k + 1)) = v2 at *
            generalize (128 : Nat) ^ k = p at *
            generalize bs (num v2) = x at *
            rcases h8' with h8' | ⟨h8', h8''⟩
            all_goals
              go_wp2_with fail
              try rw [hj]
              clear hp hj
              have w1 := W1.out
              have w2 := W2.out
              have hne := HNE.out
              go_region_with (first
                | (go_at_call 128
                   (with_reducible refine (HN.out _).mono ?_)
                   rintro e w5 ⟨rfl, b5⟩))
              all_goals
                clear w1 w2 hne
                go_wp2_with fail
                go_ret3
                exact ⟨GR_none rfl HG2.out, (hB.drew).trans (b5.mono (by have := hB.size; simpa using this))⟩
          · have heq := HS.out
            rw [if_neg hz] at heq
            have HG2 : Hid (got s.data.toList = some (val (s.data.toList.take (k + 1)), k + 1)) := by show _ = _; rw [HG.out, if_neg (by omega)]
            rw [heq] at HN
            clear HG HS hz hsmall heq HO
            generalize val (s.data.toList.take k) = v at *
            generalize val (s.data.toList.take (k + 1)) = v2 at *
            generalize (128 : Nat) ^ k = p at *
            rcases h8' with h8' | ⟨h8', h8''⟩
            all_goals
              go_wp2_with fail
              try rw [hj]
              clear hp hj
              have w1 := W1.out
              have w2 := W2.out
              go_region_with (first
                | (go_at_call 128
                   (with_reducible refine (HN.out _).mono ?_)
                   rintro e w5 ⟨rfl, b5⟩))
              all_goals
                clear w1 w2
                go_wp2_with fail
                go_ret3
                exact ⟨GR_some (by go_num) HG2.out, (hB.drew).trans (b5.mono (by have := hB.size; simpa using this))⟩
    · have HG := Lib.hid (got_open s k (by omega) hk HO.out (by omega))
      have h2 : ¬ (k : Int) < s.size := by omega
      clear HO
      generalize (128 : Nat) ^ k = p at *
      go_wp2_with fail
      go_ret3
      exact ⟨GR_none rfl HG.out, hB⟩
end Go.Proofs.YtmikfmcgddmplaaGreatDoor

/- ref.GetText: its contract; both read alike. -/
namespace Go.Proofs.YtmikfmcgddmplaaGreatDoor
open Go.RowKit

def RefGetIs (s : ByteArray) (n k : Nat) (e : Int) : Prop := ∀ W, Calls Tryz.prog 88 #[.string s] W fun x w' => x = .returned (.tuple #[.int .i64 (n : Int), .int .i64 (k : Int), .int .i64 e]) ∧ Below W.heap.size W w'
theorem refGetIs_some (s : ByteArray) (hs : s.size ≤ 281474976710656) (n k : Nat) (h : got s.data.toList = some (n, k)) : RefGetIs s n k 0 := fun W => by
  have q := RefGet_any s hs W
  rw [h] at q
  exact q
theorem refGetIs_none (s : ByteArray) (hs : s.size ≤ 281474976710656) (h : got s.data.toList = none) : RefGetIs s 0 0 2 := fun W => by
  have q := RefGet_any s hs W
  rw [h] at q
  exact q
def RefGetTextIs (s r : ByteArray) (k : Nat) (e : Int) : Prop := ∀ W, Calls Tryz.prog 89 #[.string s] W fun x w' => x = .returned (.tuple #[.string r, .int .i64 (k : Int), .int .i64 e]) ∧ Below W.heap.size W w'

set_option maxRecDepth 100000 in
theorem refText_none (s : ByteArray) (hs : s.size ≤ 281474976710656) (h : got s.data.toList = none) : RefGetTextIs s ⟨#[]⟩ 0 2 := fun w => by
  have C := refGetIs_none s hs h
  clear h
  go_enter Tryz.func89, Tryz.ntmps89
  go_wp2_with fail
  have c1 := C w
  (with_reducible refine c1.mono ?_)
  clear c1
  rintro e w1 ⟨rfl, b1⟩
  go_wp2_with fail
  go_ret3
  exact ⟨rfl, b1⟩
set_option maxRecDepth 100000 in
theorem refText_long (s : ByteArray) (hs : s.size ≤ 281474976710656) (n k : Nat) (h : got s.data.toList = some (n, k)) (hn : 4096 < n) : RefGetTextIs s ⟨#[]⟩ 0 1 := fun w => by
  have C := refGetIs_some s hs n k h
  have hn1 : (4096 : Int) < n := by omega
  clear h
  go_enter Tryz.func89, Tryz.ntmps89
  go_wp2_with fail
  have c1 := C w
  (with_reducible refine c1.mono ?_)
  clear c1
  rintro e w1 ⟨rfl, b1⟩
  go_wp2_with fail
  go_ret3
  exact ⟨rfl, b1⟩
set_option maxRecDepth 100000 in
theorem refText_short (s : ByteArray) (hs : s.size ≤ 281474976710656) (n k : Nat) (h : got s.data.toList = some (n, k)) (hn : n ≤ 4096) (hl : s.size < k + n) : RefGetTextIs s ⟨#[]⟩ 0 2 := fun w => by
  have C := refGetIs_some s hs n k h
  have hk : k ≤ 9 := (got_some _ _ _ h).2.2.2.1
  have hn1 : ¬ ((4096 : Int) < n) := by omega
  have hn2 : ((s.size : Int) - k) < n := by omega
  clear h
  go_enter Tryz.func89, Tryz.ntmps89
  go_wp2_with fail
  have c1 := C w
  (with_reducible refine c1.mono ?_)
  clear c1
  rintro e w1 ⟨rfl, b1⟩
  go_wp2_with fail
  go_ret3
  exact ⟨rfl, b1⟩
set_option maxRecDepth 100000 in
theorem refText_yes (s : ByteArray) (hs : s.size ≤ 281474976710656) (n k : Nat) (h : got s.data.toList = some (n, k)) (hn : n ≤ 4096) (hl : k + n ≤ s.size) : RefGetTextIs s (s.extract k (k + n)) (k + n) 0 := fun w => by
  have C := refGetIs_some s hs n k h
  have hk : k ≤ 9 := (got_some _ _ _ h).2.2.2.1
  have hn1 : ¬ ((4096 : Int) < n) := by omega
  have hn2 : ¬ ((s.size : Int) - k) < n := by omega
  clear h
  go_enter Tryz.func89, Tryz.ntmps89
  go_wp2_with fail
  have c1 := C w
  (with_reducible refine c1.mono ?_)
  clear c1
  rintro e w1 ⟨rfl, b1⟩
  go_wp2_with fail
  go_ret3
  exact ⟨rfl, b1⟩

/-- both read a number alike -/
theorem gets_alike (s : ByteArray) (hs : s.size ≤ 281474976710656) : ∃ (n k : Nat) (e : Int), GetIs s n k e ∧ RefGetIs s n k e ∧ k ≤ s.size := by
  cases hg : got s.data.toList with
  | none => exact ⟨0, 0, 2, getIs_none s hs hg, refGetIs_none s hs hg, Nat.zero_le _⟩
  | some nk =>
    obtain ⟨n, k⟩ := nk
    exact ⟨n, k, 0, getIs_some s hs n k hg, refGetIs_some s hs n k hg, (got_some _ _ _ hg).2.2.2.2⟩
/-- both read a text alike -/
theorem texts_alike (s : ByteArray) (hs : s.size ≤ 281474976710656) : ∃ (r : ByteArray) (k : Nat) (e : Int), TextIs s r k e ∧ RefGetTextIs s r k e ∧ k ≤ s.size := by
  cases hg : got s.data.toList with
  | none => exact ⟨_, 0, 2, text_none s hs hg, refText_none s hs hg, Nat.zero_le _⟩
  | some nk =>
    obtain ⟨n, k⟩ := nk
    by_cases h1 : 4096 < n
    · exact ⟨_, 0, 1, text_long s hs n k hg h1, refText_long s hs n k hg h1, Nat.zero_le _⟩
    · by_cases h2 : s.size < k + n
      · exact ⟨_, 0, 2, text_short s hs n k hg (by omega) h2, refText_short s hs n k hg (by omega) h2, Nat.zero_le _⟩
      · exact ⟨_, k + n, 0, text_yes s hs n k hg (by omega) (by omega), refText_yes s hs n k hg (by omega) (by omega), by omega⟩
end Go.Proofs.YtmikfmcgddmplaaGreatDoor

/- A reader and the document's own cursor, step by step: both answer alike. -/
namespace Go.Proofs.YtmikfmcgddmplaaGreatDoor
open Go.RowKit

/-- the document's own cursor: what is left, what went wrong -/
def Cu (w : World) (g : Nat) (s : ByteArray) (e : Int) : Prop := Arr w g 91 #[.string s, .int .i64 e]
theorem Cu.c0 {w : World} {g : Nat} {s : ByteArray} {e : Int} (h : Cu w g s e) : w.cell? ⟨g, 0, none⟩ = some (.string s) := h.cell 0
theorem Cu.c1 {w : World} {g : Nat} {s : ByteArray} {e : Int} (h : Cu w g s e) : w.cell? ⟨g, 1, none⟩ = some (.int .i64 e) := h.cell 1
theorem Cu.set {w : World} {g : Nat} {s : ByteArray} {e : Int} (h : Cu w g s e) (s2 : ByteArray) : Cu (w.setCell ⟨g, 0, none⟩ (.string s2)) g s2 e := h.put 0 _
theorem Cu.err {w : World} {g : Nat} {s : ByteArray} {e : Int} (h : Cu w g s e) (e2 : Int) : Cu (w.setCell ⟨g, 1, none⟩ (.int .i64 e2)) g s e2 := h.put 1 _
def AfterC (w : World) (g : Nat) (v : Value) (s : ByteArray) (e : Int) (x : Ending) (w' : World) : Prop := x = .returned v ∧ Cu w' g s e ∧ w.grownBy w' (some g)

theorem cnumber_go (g : Nat) (s : ByteArray) (n k : Nat) (e : Int) (C : RefGetIs s n k e) (hk : k ≤ s.size) (w : World) (h : Cu w g s 0) :
    Calls Tryz.prog 48 #[.pointer (some ⟨g, 0, none⟩)] w (AfterC w g (.int .i64 (n : Int)) (s.extract k s.size) e) := by
  have c0 := h.c0
  have c1 := h.c1
  go_enter Tryz.func48, Tryz.ntmps48
  go_wp2_with fail
  have q := C w
  (with_reducible refine q.mono ?_)
  clear q
  rintro x w1 ⟨rfl, b1⟩
  have h1 : Cu w1 g s 0 := Arr.below h b1 h.lt
  have d0 := h1.c0
  have f0 := h1.free 0
  have h2 := h1.set (s.extract k s.size)
  have d1 := h1.c1
  have f1 := h1.free 1
  have h3 := h2.err e
  clear c0 c1
  go_wp2_with fail
  go_ret
  exact ⟨rfl, h3, gb_trans (gb_below b1) (gb_trans (gb_set _ _ _) (gb_set _ _ _))⟩
theorem cnumber_bad (g : Nat) (s : ByteArray) (e : Int) (he : (e != 0) = true) (w : World) (h : Cu w g s e) :
    Calls Tryz.prog 48 #[.pointer (some ⟨g, 0, none⟩)] w (AfterC w g (.int .i64 0) s e) := by
  have c1 := h.c1
  go_enter Tryz.func48, Tryz.ntmps48
  go_wp2_with fail
  go_ret
  exact ⟨rfl, h, World.grownBy.refl _ _⟩
theorem ctext_go (g : Nat) (s r : ByteArray) (k : Nat) (e : Int) (C : RefGetTextIs s r k e) (hk : k ≤ s.size) (w : World) (h : Cu w g s 0) :
    Calls Tryz.prog 49 #[.pointer (some ⟨g, 0, none⟩)] w (AfterC w g (.string r) (s.extract k s.size) e) := by
  have c0 := h.c0
  have c1 := h.c1
  go_enter Tryz.func49, Tryz.ntmps49
  go_wp2_with fail
  have q := C w
  (with_reducible refine q.mono ?_)
  clear q
  rintro x w1 ⟨rfl, b1⟩
  have h1 : Cu w1 g s 0 := Arr.below h b1 h.lt
  have d0 := h1.c0
  have f0 := h1.free 0
  have h2 := h1.set (s.extract k s.size)
  have d1 := h1.c1
  have f1 := h1.free 1
  have h3 := h2.err e
  clear c0 c1
  go_wp2_with fail
  go_ret
  exact ⟨rfl, h3, gb_trans (gb_below b1) (gb_trans (gb_set _ _ _) (gb_set _ _ _))⟩
theorem ctext_bad (g : Nat) (s : ByteArray) (e : Int) (he : (e != 0) = true) (w : World) (h : Cu w g s e) :
    Calls Tryz.prog 49 #[.pointer (some ⟨g, 0, none⟩)] w (AfterC w g (.string ⟨#[]⟩) s e) := by
  have c1 := h.c1
  go_enter Tryz.func49, Tryz.ntmps49
  go_wp2_with fail
  go_ret
  exact ⟨rfl, h, World.grownBy.refl _ _⟩
theorem ctake_bad (g : Nat) (s : ByteArray) (n e : Int) (he : (e != 0) = true) (he2 : (e == 0) = false) (w : World) (h : Cu w g s e) :
    Calls Tryz.prog 50 #[.pointer (some ⟨g, 0, none⟩), .int .i64 n] w (AfterC w g (.string ⟨#[]⟩) s e) := by
  have c1 := h.c1
  go_enter Tryz.func50, Tryz.ntmps50
  go_wp2_with fail
  go_ret
  exact ⟨rfl, h, World.grownBy.refl _ _⟩
theorem ctake_no (g : Nat) (s : ByteArray) (n : Int) (hn : n < 0 ∨ (s.size : Int) < n) (w : World) (h : Cu w g s 0) :
    Calls Tryz.prog 50 #[.pointer (some ⟨g, 0, none⟩), .int .i64 n] w (AfterC w g (.string ⟨#[]⟩) s 2) := by
  have c0 := h.c0
  have c1 := h.c1
  have f1 := h.free 1
  have h2 := h.err 2
  rcases hn with hn | hn
  · go_enter Tryz.func50, Tryz.ntmps50
    go_wp2_with fail
    go_ret
    exact ⟨rfl, h2, gb_set _ _ _⟩
  · have hn2 : ¬ n < 0 := by omega
    go_enter Tryz.func50, Tryz.ntmps50
    go_wp2_with fail
    go_ret
    exact ⟨rfl, h2, gb_set _ _ _⟩
theorem ctake_go (g : Nat) (s : ByteArray) (n : Nat) (hn : n ≤ s.size) (w : World) (h : Cu w g s 0) :
    Calls Tryz.prog 50 #[.pointer (some ⟨g, 0, none⟩), .int .i64 (n : Int)] w (AfterC w g (.string (s.extract 0 n)) (s.extract n s.size) 0) := by
  have c0 := h.c0
  have c1 := h.c1
  have f0 := h.free 0
  have h2 := h.set (s.extract n s.size)
  have hn2 : ¬ (n : Int) < 0 := by omega
  have hn3 : ¬ (s.size : Int) < n := by omega
  go_enter Tryz.func50, Tryz.ntmps50
  go_wp2_with fail
  go_ret
  exact ⟨rfl, h2, gb_set _ _ _⟩

/-- what a step answers, what is left, what went wrong -/
def stN (s : ByteArray) (e : Int) : Int × ByteArray × Int :=
  if e = 0 then (match got s.data.toList with | some (n, k) => ((n : Int), s.extract k s.size, 0) | none => (0, s.extract 0 s.size, 2)) else (0, s, e)
def stT (s : ByteArray) (e : Int) : ByteArray × ByteArray × Int :=
  if e = 0 then (match got s.data.toList with
    | some (n, k) => if 4096 < n then (⟨#[]⟩, s.extract 0 s.size, 1) else if s.size < k + n then (⟨#[]⟩, s.extract 0 s.size, 2) else (s.extract k (k + n), s.extract (k + n) s.size, 0)
    | none => (⟨#[]⟩, s.extract 0 s.size, 2)) else (⟨#[]⟩, s, e)
def stB (s : ByteArray) (e n : Int) : ByteArray × ByteArray × Int :=
  if e = 0 then (if n < 0 ∨ (s.size : Int) < n then (⟨#[]⟩, s, 2) else (s.extract 0 n.toNat, s.extract n.toNat s.size, 0)) else (⟨#[]⟩, s, e)

theorem both_num (s : ByteArray) (e : Int) (hs : s.size ≤ 281474976710656) : (stN s e).2.1.size ≤ s.size ∧
    (∀ W g, Rd W g s e → Calls Tryz.prog 71 #[.pointer (some ⟨g, 0, none⟩)] W (After W g (.int .i64 (stN s e).1) (stN s e).2.1 (stN s e).2.2)) ∧
    (∀ W g, Cu W g s e → Calls Tryz.prog 48 #[.pointer (some ⟨g, 0, none⟩)] W (AfterC W g (.int .i64 (stN s e).1) (stN s e).2.1 (stN s e).2.2)) := by
  by_cases he : e = 0
  · subst he
    cases hg : got s.data.toList with
    | none =>
      have hst : stN s 0 = (0, s.extract 0 s.size, 2) := by unfold stN; rw [if_pos rfl, hg]
      rw [hst]
      exact ⟨by simp, fun W g h => Number_go g s 0 0 2 (getIs_none s hs hg) (Nat.zero_le _) W h, fun W g h => cnumber_go g s 0 0 2 (refGetIs_none s hs hg) (Nat.zero_le _) W h⟩
    | some nk =>
      obtain ⟨n, k⟩ := nk
      have hk : k ≤ s.size := (got_some _ _ _ hg).2.2.2.2
      have hst : stN s 0 = ((n : Int), s.extract k s.size, 0) := by unfold stN; rw [if_pos rfl, hg]
      rw [hst]
      exact ⟨by simp, fun W g h => Number_go g s n k 0 (getIs_some s hs n k hg) hk W h, fun W g h => cnumber_go g s n k 0 (refGetIs_some s hs n k hg) hk W h⟩
  · have hst : stN s e = (0, s, e) := by unfold stN; rw [if_neg he]
    have he1 : (e != 0) = true := by rw [bne_iff_ne]; exact he
    rw [hst]
    exact ⟨Nat.le_refl _, fun W g h => Number_bad g s e he1 W h, fun W g h => cnumber_bad g s e he1 W h⟩
theorem both_text (s : ByteArray) (e : Int) (hs : s.size ≤ 281474976710656) : (stT s e).2.1.size ≤ s.size ∧
    (∀ W g, Rd W g s e → Calls Tryz.prog 110 #[.pointer (some ⟨g, 0, none⟩)] W (After W g (.string (stT s e).1) (stT s e).2.1 (stT s e).2.2)) ∧
    (∀ W g, Cu W g s e → Calls Tryz.prog 49 #[.pointer (some ⟨g, 0, none⟩)] W (AfterC W g (.string (stT s e).1) (stT s e).2.1 (stT s e).2.2)) := by
  by_cases he : e = 0
  · subst he
    cases hg : got s.data.toList with
    | none =>
      have hst : stT s 0 = (⟨#[]⟩, s.extract 0 s.size, 2) := by unfold stT; rw [if_pos rfl, hg]
      rw [hst]
      exact ⟨by simp, fun W g h => Text_go g s _ 0 2 (text_none s hs hg) (Nat.zero_le _) W h, fun W g h => ctext_go g s _ 0 2 (refText_none s hs hg) (Nat.zero_le _) W h⟩
    | some nk =>
      obtain ⟨n, k⟩ := nk
      by_cases h1 : 4096 < n
      · have hst : stT s 0 = (⟨#[]⟩, s.extract 0 s.size, 1) := by unfold stT; rw [if_pos rfl, hg]; simp only; rw [if_pos h1]
        rw [hst]
        exact ⟨by simp, fun W g h => Text_go g s _ 0 1 (text_long s hs n k hg h1) (Nat.zero_le _) W h, fun W g h => ctext_go g s _ 0 1 (refText_long s hs n k hg h1) (Nat.zero_le _) W h⟩
      · by_cases h2 : s.size < k + n
        · have hst : stT s 0 = (⟨#[]⟩, s.extract 0 s.size, 2) := by unfold stT; rw [if_pos rfl, hg]; simp only; rw [if_neg h1, if_pos h2]
          rw [hst]
          exact ⟨by simp, fun W g h => Text_go g s _ 0 2 (text_short s hs n k hg (by omega) h2) (Nat.zero_le _) W h, fun W g h => ctext_go g s _ 0 2 (refText_short s hs n k hg (by omega) h2) (Nat.zero_le _) W h⟩
        · have hst : stT s 0 = (s.extract k (k + n), s.extract (k + n) s.size, 0) := by unfold stT; rw [if_pos rfl, hg]; simp only; rw [if_neg h1, if_neg h2]
          rw [hst]
          exact ⟨by simp, fun W g h => Text_go g s _ (k + n) 0 (text_yes s hs n k hg (by omega) (by omega)) (by omega) W h, fun W g h => ctext_go g s _ (k + n) 0 (refText_yes s hs n k hg (by omega) (by omega)) (by omega) W h⟩
  · have hst : stT s e = (⟨#[]⟩, s, e) := by unfold stT; rw [if_neg he]
    have he1 : (e != 0) = true := by rw [bne_iff_ne]; exact he
    rw [hst]
    exact ⟨Nat.le_refl _, fun W g h => Text_bad g s e he1 W h, fun W g h => ctext_bad g s e he1 W h⟩
theorem both_bytes (s : ByteArray) (e n : Int) : (stB s e n).2.1.size ≤ s.size ∧
    (∀ W g, Rd W g s e → Calls Tryz.prog 112 #[.pointer (some ⟨g, 0, none⟩), .int .i64 n] W (After W g (.string (stB s e n).1) (stB s e n).2.1 (stB s e n).2.2)) ∧
    (∀ W g, Cu W g s e → Calls Tryz.prog 50 #[.pointer (some ⟨g, 0, none⟩), .int .i64 n] W (AfterC W g (.string (stB s e n).1) (stB s e n).2.1 (stB s e n).2.2)) := by
  by_cases he : e = 0
  · subst he
    by_cases hn : n < 0 ∨ (s.size : Int) < n
    · have hst : stB s 0 n = (⟨#[]⟩, s, 2) := by unfold stB; rw [if_pos rfl, if_pos hn]
      rw [hst]
      exact ⟨Nat.le_refl _, fun W g h => Bytes_no g s n hn W h, fun W g h => ctake_no g s n hn W h⟩
    · obtain ⟨m, rfl⟩ := Int.eq_ofNat_of_zero_le (show 0 ≤ n by omega)
      have hst : stB s 0 (m : Int) = (s.extract 0 m, s.extract m s.size, 0) := by unfold stB; rw [if_pos rfl, if_neg hn, Int.toNat_natCast]
      rw [hst]
      exact ⟨by simp, fun W g h => Bytes_go g s m (by omega) W h, fun W g h => ctake_go g s m (by omega) W h⟩
  · have hst : stB s e n = (⟨#[]⟩, s, e) := by unfold stB; rw [if_neg he]
    have he1 : (e != 0) = true := by rw [bne_iff_ne]; exact he
    have he2 : (e == 0) = false := by rw [beq_eq_false_iff_ne]; exact he
    rw [hst]
    exact ⟨Nat.le_refl _, fun W g h => Bytes_bad g s n e he1 W h, fun W g h => ctake_bad g s n e he1 he2 W h⟩
end Go.Proofs.YtmikfmcgddmplaaGreatDoor
