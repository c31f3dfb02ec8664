/- Texts in one: Mask, Seal, RefSeal, RefHex, RefUnhex. -/
import Derived.Test.YtmikfmcgddmplaaGreatDoorParts
import Derived.Lib.BufferWrite
import Derived.Lib.SlBuf
import Derived.Test.YtmikfmcgddmplaaGreatDoorRefSum
import Derived.Deep.AppendLies
import Derived.Test.YtmikfmcgddmplaaGreatDoorUnhexW
/- sum.maskedKey: its contract. -/
namespace Go.Proofs.YtmikfmcgddmplaaGreatDoor
open Go.RowKit

/-- a key, made up to a block by noughts -/
def padK (l : List UInt8) : List UInt8 := l ++ List.replicate (64 - l.length) 0
theorem padK_length (l : List UInt8) (h : l.length ≤ 64) : (padK l).length = 64 := by simp [padK]; omega
def xorTo (l : List UInt8) (m : UInt8) : Nat → List UInt8
  | 0 => l
  | n + 1 => (xorTo l m n).set n (l.getD n 0 ^^^ m)
theorem xorTo_length (l : List UInt8) (m : UInt8) (n : Nat) : (xorTo l m n).length = l.length := by
  induction n with
  | zero => rfl
  | succ n ih => simp [xorTo, ih]
theorem xorTo_at (l : List UInt8) (m : UInt8) (n i : Nat) : (xorTo l m n)[i]? = if i < n then (l[i]?).map (· ^^^ m) else l[i]? := by
  induction n with
  | zero => simp [xorTo]
  | succ n ih =>
    rw [xorTo, List.getElem?_set, ih, xorTo_length]
    by_cases h : n = i
    · subst h
      by_cases hl : n < l.length
      · simp [hl]
      · simp [hl]
    · by_cases h2 : i < n
      · simp [h, h2, show i < n + 1 by omega]
      · simp [h, h2, show ¬ i < n + 1 by omega]
theorem xorTo_ge (l : List UInt8) (m : UInt8) (n i : Nat) (h : n ≤ i) : (xorTo l m n).getD i 0 = l.getD i 0 := by
  rw [List.getD_eq_getElem?_getD, xorTo_at, if_neg (by omega), List.getD_eq_getElem?_getD]
theorem xorTo_all (l : List UInt8) (m : UInt8) : xorTo l m l.length = l.map (· ^^^ m) := by
  apply List.ext_getElem?
  intro i
  rw [xorTo_at, List.getElem?_map]
  by_cases h : i < l.length
  · rw [if_pos h]
  · rw [if_neg h, List.getElem?_eq_none (by omega)]; rfl
/-- the key's block under a mask -/
def mk (l : List UInt8) (m : UInt8) : List UInt8 := (padK l).map (· ^^^ m)

theorem u8_xor_of (a m : UInt8) (c : Int) (hc : c = (m.toNat : Int)) : bits .xor .u8 (a.toNat : Int) c = ((a ^^^ m).toNat : Int) := by
  have h1 := a.toNat_lt
  have h2 := m.toNat_lt
  subst hc
  rw [u8_xor_nat _ _ h1 h2]
  simp

theorem pad_cells (key : ByteArray) : ((barr (List.replicate 64 0)).toList.take 0 ++ Lib.byteCells key.data.toList ++ (barr (List.replicate 64 0)).toList.drop (0 + key.size)).toArray = barr (padK key.data.toList) := by
  have e : (barr (List.replicate 64 0)).toList = List.replicate 64 (bv 0) := by unfold barr; rw [List.map_replicate]
  rw [e, Nat.zero_add, List.drop_replicate, List.take_zero, List.nil_append]
  unfold barr padK
  rw [List.map_append, List.map_replicate]
  rfl

end Go.Proofs.YtmikfmcgddmplaaGreatDoor

/- sum.sumOfTwo and sum.Seal: their contracts. -/
namespace Go.Proofs.YtmikfmcgddmplaaGreatDoor
open Go.RowKit

theorem stA_rest (l : List UInt8) : (restOf l).length < 64 := by rw [restOf_length]; exact Nat.mod_lt _ (by omega)
theorem absorb_A (l : List UInt8) (b : ByteArray) (h : l.length + b.size < 1152921504606846976) (w : World) (ht : Tab w) :
    Calls Tryz.prog 130 #[.agg (stA l), .string b] w fun e w' => e = .returned (.agg (stA (l ++ b.data.toList))) ∧ Below w.heap.size w w' := by
  have q := absorb_any (blocks startH l) (blocks_len8 _ _ rfl) (bs (restOf l)) b l.length h (by rw [bs_size]; exact stA_rest l) w ht
  obtain ⟨e1, e2⟩ := blocks_restOf startH l b.data.toList
  rw [bs_list, ← e1, ← e2] at q
  have e3 : sarr (blocks startH (l ++ b.data.toList)) (bs (restOf (l ++ b.data.toList))) ((l.length + b.size : Nat) : Int) = stA (l ++ b.data.toList) := by
    unfold stA; rw [List.length_append]; rfl
  rw [e3] at q
  exact q
theorem finish_A (l : List UInt8) (h : l.length < 1152921504606846976) (w : World) (ht : Tab w) :
    Calls Tryz.prog 129 #[.agg (stA l)] w fun e w' => e = .returned (.string (bs (sha l))) ∧ Below w.heap.size w w' := by
  have q := finish_any (blocks startH l) (blocks_len8 _ _ rfl) (bs (restOf l)) l.length h (by rw [bs_size]; exact stA_rest l) w ht
  rw [bs_list] at q
  exact q

/-- the key as it is used -/
def keyOfL (l : List UInt8) : List UInt8 := if 64 < l.length then sha l else l
theorem keyOfL_le (l : List UInt8) : (keyOfL l).length ≤ 64 := by
  unfold keyOfL
  split
  · rw [sha_length]; omega
  · omega
def sealOf (key b : List UInt8) : List UInt8 := sha (mk (keyOfL key) 92 ++ sha (mk (keyOfL key) 54 ++ b))
theorem mk_length (l : List UInt8) (m : UInt8) (h : l.length ≤ 64) : (mk l m).length = 64 := by unfold mk; rw [List.length_map, padK_length _ h]

end Go.Proofs.YtmikfmcgddmplaaGreatDoor

/- ref.Seal and its closure: their contracts. -/
namespace Go.Proofs.YtmikfmcgddmplaaGreatDoor
open Go.RowKit

/-- block g starts with these bytes, none of them frozen -/
def FB (w : World) (g : Nat) (l : List UInt8) : Prop := ∃ cs t fz, w.heap[g]? = some (.cells cs t fz) ∧ l.length ≤ fz.1 ∧ cs.toList.take l.length = l.map bv
theorem FB.cell {w : World} {g : Nat} {l : List UInt8} (h : FB w g l) (j : Nat) (hj : j < l.length) : w.cell? ⟨g, j, none⟩ = some (.int .u8 ((l.getD j 0).toNat : Int)) := by
  obtain ⟨cs, t, fz, h1, h2, h3⟩ := h
  rw [cell_of_row w g j cs t fz h1]
  have e : cs[j]? = (cs.toList.take l.length)[j]? := by rw [List.getElem?_take_of_lt hj]; simp
  rw [e, h3]
  simp [bv, hj]
theorem FB.free {w : World} {g : Nat} {l : List UInt8} (h : FB w g l) (j : Nat) (hj : j < l.length) : w.frozen? ⟨g, j, none⟩ = false := by
  obtain ⟨cs, t, fz, h1, h2, h3⟩ := h
  have : ¬ (fz.1 ≤ j) := by omega
  simp [World.frozen?, h1, this]
theorem FB.put {w : World} {g : Nat} {l : List UInt8} (h : FB w g l) (j : Nat) (x : UInt8) : FB (w.setCell ⟨g, j, none⟩ (.int .u8 (x.toNat : Int))) g (l.set j x) := by
  obtain ⟨cs, t, fz, h1, h2, h3⟩ := h
  refine ⟨cs.setIfInBounds j (.int .u8 (x.toNat : Int)), t, fz, by simp [World.setCell, Array.getElem?_modify, h1], by simpa using h2, ?_⟩
  rw [List.length_set, Array.toList_setIfInBounds, List.take_set, h3, List.map_set]
  rfl
theorem run_bytesF {P : Program} {w : World} {g : Nat} {l : List UInt8} (h : FB w g l) (c : Nat) :
    (Conv.bytesToString (.slice (some ⟨g, 0, none⟩) l.length c)).run P w = .ok (.string (bs l)) w := by
  have hload : (loadCells ⟨g, 0, none⟩ l.length).run P w = .ok ((l.map fun b => (b.toNat : Int)).map (Value.int .u8)).toArray w := by
    have := run_loadCells_list (P := P) w ⟨g, 0, none⟩ (l.map bv) (fun j v hv => by
      have hadd : (⟨g, 0, none⟩ : Addr).add j = ⟨g, j, none⟩ := by unfold Addr.add; split <;> simp_all
      have hj : j < l.length := by
        have := (List.getElem?_eq_some_iff.1 hv).1
        simpa using this
      rw [hadd, h.cell j hj, ← hv]
      simp [bv, hj])
    have e : (l.map fun b => (b.toNat : Int)).map (Value.int .u8) = l.map bv := by rw [List.map_map]; rfl
    rw [e]
    simpa using this
  rw [run_bytesToString w _ _ _ _ hload, foldl_push]
  simp [bs]
theorem conv_own (s : ByteArray) (w : World) : ∃ W1 cap, (convert 9 105 (.string s)).run Tryz.prog w = .ok (.slice (some ⟨w.heap.size, 0, none⟩) s.size cap) W1 ∧
    FB W1 w.heap.size s.data.toList ∧ Below w.heap.size w W1 := by
  refine ⟨_, _, Lib.run_convert_string_bytes w 9 105 5 s Tryz.underlying9 Tryz.underlying105 Tryz.underlying5, ?_,
    ⟨rfl, rfl, rfl, by rw [Lib.bytesWorld_size]; omega, fun k hk => Lib.bytesWorld_at_old w 5 s k hk⟩⟩
  refine ⟨_, _, _, Lib.bytesWorld_at_new w 5 s, ?_, ?_⟩
  · simp [Lib.bytesCells]
  · simp [Lib.bytesCells]; intro a _; rfl

def zk (k : ByteArray) : Nat → ByteArray
  | 0 => k
  | n + 1 => zk k n ++ ⟨#[0]⟩
theorem zk_list (k : ByteArray) (n : Nat) : (zk k n).data.toList = k.data.toList ++ List.replicate n 0 := by
  induction n with
  | zero => simp [zk]
  | succ n ih => rw [zk, append_list, ih, List.replicate_succ']; simp
theorem zk_size (k : ByteArray) (n : Nat) : (zk k n).size = k.size + n := by
  induction n with
  | zero => rfl
  | succ n ih => rw [zk, ByteArray.size_append, ih]; rfl
def KRel (k : ByteArray) (w wr : World) : Prop := ∃ n, n ≤ 64 - k.size ∧ Arr wr w.heap.size 9 #[.string (zk k n)] ∧ Below w.heap.size w wr

def XRel (l : List UInt8) (m : UInt8) (w : World) (i : Value) (wr : World) : Prop :=
  ∃ j : Nat, j ≤ 64 ∧ i = .int .i64 j ∧ FB wr w.heap.size (xorTo l m j) ∧ Below w.heap.size w wr

def szAt (g : Nat) (w : World) : Nat := match w.cell? ⟨g, 0, none⟩ with | some (.string s) => 64 - s.size | _ => 0
theorem szAt_of {g : Nat} {w : World} {s : ByteArray} (h : w.cell? ⟨g, 0, none⟩ = some (.string s)) : szAt g w = 64 - s.size := by unfold szAt; rw [h]

def SIs (s d : ByteArray) : Prop := ∀ W, Calls Tryz.prog 25 #[.string s] W fun e w' => e = .returned (.string d) ∧ Below W.heap.size W w'

end Go.Proofs.YtmikfmcgddmplaaGreatDoor

/- ref.Hex: its contract. -/
namespace Go.Proofs.YtmikfmcgddmplaaGreatDoor
open Go.RowKit

theorem own_ge {w : World} {base : Nat} {e : TypeId} {size n : Nat} {v : Value} {xs : List Value} (h : w.ownsRow base e size v n xs) (k : Nat) (hk : v.ownBlock = some k) : base ≤ k := by
  rcases h.2 with ⟨rfl, _⟩ | ⟨g, cap, cur, rfl, hb, _⟩
  · cases hk
  · cases hk; exact hb
theorem own_lt {w : World} {base : Nat} {e : TypeId} {size n : Nat} {v : Value} {xs : List Value} (h : w.ownsRow base e size v n xs) (k : Nat) (hk : v.ownBlock = some k) : k < w.heap.size := by
  rcases h.2 with ⟨rfl, _⟩ | ⟨g, cap, cur, rfl, hb, hg, _⟩
  · cases hk
  · cases hk; exact (Array.getElem?_eq_some_iff.1 hg).1
theorem FB.lt {w : World} {g : Nat} {l : List UInt8} (h : FB w g l) : g < w.heap.size := by
  obtain ⟨cs, t, fz, h1, _⟩ := h
  exact (Array.getElem?_eq_some_iff.1 h1).1
theorem FB.alloc {w : World} {g : Nat} {l : List UInt8} (h : FB w g l) (o : Obj) : FB (w.alloc o) g l := by
  have hlt := h.lt
  obtain ⟨cs, t, fz, h1, h2⟩ := h
  exact ⟨cs, t, fz, (Below.heap_alloc w o g hlt).trans h1, h2⟩
theorem FB.kept {w w' : World} {g : Nat} {l : List UInt8} {row : Option Nat} (h : FB w g l) (hg : w.grownBy w' row) (hne : some g ≠ row) : FB w' g l := by
  have hlt := h.lt
  obtain ⟨cs, t, fz, h1, h2⟩ := h
  exact ⟨cs, t, fz, (hg.block g hlt hne).trans h1, h2⟩

theorem conv_nil (w : World) : (convert 105 9 (.slice none 0 0)).run Tryz.prog w = .ok (.string (bs [])) w := by
  rw [run_convert_bytes_string w 105 9 5 _ _ _ Tryz.underlying105 Tryz.underlying5 Tryz.underlying9]
  rfl
/-- the bytes that are read, the digits that are written -/
def HxW (l done : List UInt8) (v : Value) (w W : World) : Prop :=
  FB W w.heap.size l ∧ W.ownsRow (w.heap.size + 1) 5 1 v done.length (done.map bv) ∧ Below w.heap.size w W ∧ w.heap.size + 1 ≤ W.heap.size
def HxIn (l done : List UInt8) (a b gd : Nat) (w : World) (v j : Value) (wr : World) : Prop :=
  ∃ n : Nat, n ≤ 2 ∧ j = .int .i64 (n : Int) ∧ HxW l (done ++ [hd a, hd b].take n) v w wr ∧ wr.cell? ⟨gd, 0, none⟩ = some (.int .u8 (a : Int)) ∧ wr.cell? ⟨gd, 1, none⟩ = some (.int .u8 (b : Int)) ∧
    v.ownBlock ≠ some gd ∧ gd < wr.heap.size ∧ w.heap.size + 1 ≤ gd
def HxOut (l : List UInt8) (w : World) (v i : Value) (wr : World) : Prop :=
  ∃ k : Nat, k ≤ l.length ∧ i = .int .i64 (k : Int) ∧ HxW l (hexOf (l.take k)) v w wr

set_option maxRecDepth 100000 in
set_option maxHeartbeats 1000000 in
theorem RefHex_any (s : ByteArray) (hs : s.size ≤ 1048576) (w : World) :
    Calls Tryz.prog 40 #[.string s] w
      fun e w' => e = .returned (.string (bs (hexOf s.data.toList))) ∧ Below w.heap.size w w' := by
  obtain ⟨i, hi, hz0, hz1, hz2⟩ := info_parts info_u8
  have Hi := Lib.hid hi
  have Hz0 := Lib.hid hz0
  have Hz1 := Lib.hid hz1
  have Hz2 := Lib.hid hz2
  clear hi hz0 hz1 hz2
  obtain ⟨W1, cap, hcv, hF, hB0⟩ := conv_own s w
  have hW0 : HxW s.data.toList [] (.slice none 0 0) w W1 := ⟨hF, ⟨rfl, .inl ⟨rfl, rfl⟩⟩, hB0, hF.lt⟩
  clear hF hB0
  have hl : s.data.toList.length = s.size := rfl
  go_enter Tryz.func40, Tryz.ntmps40
  go_wp2_with fail
  clear hcv
  generalize hL : s.data.toList = l at *
  have HL := Lib.hid hL
  clear hL
  generalize s.size = N at *
  go_loopw [3, 11] (fun v i wr => HxOut l w v i wr) (fun _ i _ => N - (intOf i).toNat)
  case atStart => exact ⟨0, Nat.zero_le _, rfl, hW0⟩
  case round =>
    clear hW0 W1
    obtain ⟨k, hk, rfl, hW⟩ := hrel
    by_cases hlt : k < N
    · have hc := hW.1.cell k (by omega)
      have hkl : (k : Int) < N := by omega
      have hcl : (l.getD k 0).toNat ≤ 255 := by have := (l.getD k 0).toNat_lt; omega
      have HS : Hid (hexOf (l.take (k + 1)) = hexOf (l.take k) ++ [hd ((l.getD k 0).toNat / 16), hd ((l.getD k 0).toNat % 16)]) := by
        show _ = _
        rw [List.take_add_one, hexOf_append, List.getD_eq_getElem?_getD, List.getElem?_eq_getElem (by omega)]
        simp [hexOf]
      generalize (l.getD k 0).toNat = c at *
      go_wp2_with fail
      rw [show (c : Int) / 16 = ((c / 16 : Nat) : Int) from by omega, show (c : Int) % 16 = ((c % 16 : Nat) : Int) from by omega]
      have hxa : c / 16 < 16 := by omega
      have hxb : c % 16 < 16 := by omega
      have da := dig_run (c / 16) hxa
      have db := dig_run (c % 16) hxb
      generalize c / 16 = xa at *
      generalize c % 16 = xb at *
      have hA := Arr.new wr 5 #[.int .u8 (xa : Int), .int .u8 (xb : Int)]
      have hlt2 : ∀ q, Value.ownBlock u3 = some q → q < wr.heap.size := own_lt hW.2.1
      refine wp_forget (fun W => HxIn l (hexOf (l.take k)) xa xb wr.heap.size w u3 (.int .i64 ((0 : Nat) : Int)) W)
        ⟨0, by omega, rfl, ⟨hW.1.alloc _, ?_, hW.2.2.1.alloc hW.2.2.1.size _, by have := hW.2.2.2; simp; omega⟩, hA.cell 0, hA.cell 1, fun e => by have := hlt2 _ e; omega, hA.lt, hW.2.2.2⟩ ?_
      · have q := World.ownsRow.alloc hW.2.1 (.cells #[.int .u8 (xa : Int), .int .u8 (xb : Int)] 5)
        rw [List.take_zero, List.append_nil]
        exact q
      generalize wr.heap.size = gd
      have hlen : (hexOf (l.take k)).length = 2 * k := by rw [hexOf_length, List.length_take]; omega
      have HLn := Lib.hid hlen
      clear hA hlt2 hW hc hlen wr
      generalize hexOf (l.take k) = done at *
      intro W hI0
      go_loopw [3, 21] (fun v j wr => HxIn l done xa xb gd w v j wr) (fun _ j _ => 2 - (intOf j).toNat)
      case atStart => exact hI0
      case round =>
        clear hI0 W
        obtain ⟨n, hn, rfl, hI, h0, h1, hno, hgl, hgd⟩ := hrel
        by_cases hn2 : n < 2
        · obtain ⟨dn, hdn, hcn, htk⟩ : ∃ dn : Nat, dn < 16 ∧ wr.cell? ⟨gd, n, none⟩ = some (.int .u8 (dn : Int)) ∧ [hd xa, hd xb].take (n + 1) = [hd xa, hd xb].take n ++ [hd dn] := by
            have hcase : n = 0 ∨ n = 1 := by omega
            rcases hcase with rfl | rfl
            · exact ⟨xa, hxa, h0, rfl⟩
            · exact ⟨xb, hxb, h1, rfl⟩
          have hni : (n : Int) < 2 := by omega
          have dg := dig_run dn hdn
          have Htk := Lib.hid htk
          have HD : Hid ((done ++ [hd xa, hd xb].take n).length ≤ 2097154) := by
            have h2 : ([hd xa, hd xb].take n).length ≤ 2 := by rw [List.length_take]; exact Nat.min_le_right _ _
            have h3 := HLn.out
            show (done ++ [hd xa, hd xb].take n).length ≤ 2097154
            rw [List.length_append]; omega
          clear htk
          generalize hd dn = x at *
          have Htk2 : Hid (done ++ [hd xa, hd xb].take (n + 1) = (done ++ [hd xa, hd xb].take n) ++ [x]) := by show _ = _; rw [Htk.out, List.append_assoc]
          clear Htk
          generalize done ++ [hd xa, hd xb].take n = D at *
          go_wp2_with (at_builtin; refine wpList_append_lies _ rfl _ _ 105 rfl (w.heap.size + 1) 5 i _ 1 1 Tryz.underlying105 Hi.out Hz0.out Hz1.out Hz2.out rfl (by decide) _ _ _ rfl (World.ownsRow.alloc hI.2.1 _) ⟨wr.heap.size, 0, none⟩ 1 1 [.int .u8 (x.toNat : Int)] rfl rfl (new_cells wr [.int .u8 (x.toNat : Int)] 5) (bytes_one [x]) (by decide) (by have := HD.out; unfold maxLen; omega) (by have := HD.out; omega) (by have := hI.2.2.2; simp; omega) _ rfl ?_)
          intro g1 cap1 w2 hown hgrow hat hg1
          go_wp2_with fail
          have hne : some w.heap.size ≠ Value.ownBlock u3 := fun e => by have := own_ge hI.2.1 _ e.symm; omega
          have hal : ∀ j, (wr.alloc (.cells #[.int .u8 (x.toNat : Int)] 5)).cell? ⟨gd, j, none⟩ = wr.cell? ⟨gd, j, none⟩ := fun j => World.cell?_of_block (Below.heap_alloc wr _ gd hgl)
          have hsz := hgrow.size
          rw [show (wr.alloc (.cells #[.int .u8 (x.toNat : Int)] 5)).heap.size = wr.heap.size + 1 from by simp] at hsz
          have hwz := hI.2.2.2
          refine ⟨⟨n + 1, hn2, by go_num, ?_, hgrow.cell ((hal 0).trans h0) (Ne.symm hno), hgrow.cell ((hal 1).trans h1) (Ne.symm hno), ?_, by omega, hgd⟩, by simp [intOf]; omega⟩
          · rw [Htk2.out]
            exact ⟨(hI.1.alloc _).kept hgrow hne, by simpa [bv] using hown, (hI.2.2.1.alloc hI.2.2.1.size _).grown hgrow (by simp; omega) (fun q e => by have := own_ge hI.2.1 _ e; omega), by omega⟩
          · intro e
            have e1 : g1 = gd := by simpa [Value.ownBlock] using e
            rcases hat with h | h
            · rw [e1] at h; exact hno h
            · omega
        · obtain rfl : n = 2 := by omega
          go_wp2_with fail
          exact ⟨⟨k + 1, by omega, by go_num, by rw [HS.out]; exact hI⟩, by simp [intOf]; omega⟩
    · obtain rfl : k = N := by omega
      rw [show l.take k = l from List.take_of_length_le (by omega)] at hW
      have HR : Hid (bs (hexOf s.data.toList) = bs (hexOf l)) := by show _ = _; rw [HL.out]
      generalize hexOf l = p at *
      have hB := hW.2.2.1
      rcases hW.2.1.2 with ⟨rfl, hp0⟩ | ⟨g, cp, cur, rfl, hrest⟩
      · obtain rfl : p = [] := List.eq_nil_of_length_eq_zero hp0
        have hb := conv_nil wr
        go_wp2_with fail
        go_ret
        exact ⟨by rw [HR.out]; rfl, hB⟩
      · have hb := run_bytes_own (P := Tryz.prog) hW.2.1
        rw [← run_convert_bytes_string wr 105 9 5 _ _ _ Tryz.underlying105 Tryz.underlying5 Tryz.underlying9] at hb
        clear hrest
        go_wp2_with fail
        go_ret
        exact ⟨by rw [HR.out]; rfl, hB⟩
end Go.Proofs.YtmikfmcgddmplaaGreatDoor

/- ref.Unhex: its contract. -/
namespace Go.Proofs.YtmikfmcgddmplaaGreatDoor
open Go.RowKit

theorem dig_run64 (n : Nat) (h : n < 16) (w : World) : (Instr.index 9 (.string { data := #[48, 49, 50, 51, 52, 53, 54, 55, 56, 57, 97, 98, 99, 100, 101, 102] }) (.int .i64 (n : Int))).run Tryz.prog w = .ok (.int .u8 ((hd n).toNat : Int)) w := by
  have h1 : (n : Int) < 16 := by omega
  rw [run_index_string w _ _ _ _ Tryz.underlying9]
  match n, h with
  | 0, _ => rfl
  | 1, _ => rfl
  | 2, _ => rfl
  | 3, _ => rfl
  | 4, _ => rfl
  | 5, _ => rfl
  | 6, _ => rfl
  | 7, _ => rfl
  | 8, _ => rfl
  | 9, _ => rfl
  | 10, _ => rfl
  | 11, _ => rfl
  | 12, _ => rfl
  | 13, _ => rfl
  | 14, _ => rfl
  | 15, _ => rfl

/-- the number and the count, behind the first k digits have been held against c -/
def inn (c : UInt8) (p : Nat × Nat) (k : Nat) : Nat × Nat := if 0 ≤ dv c ∧ dv c < (k : Int) then (16 * p.1 + (dv c).toNat, p.2 + 1) else p
theorem inn_zero (c : UInt8) (p : Nat × Nat) : inn c p 0 = p := by unfold inn; rw [if_neg (by omega)]
theorem inn_yes (c : UInt8) (p : Nat × Nat) (k : Nat) (h : k < 16) (e : hd k = c) : inn c p k = p ∧ inn c p (k + 1) = (16 * p.1 + k, p.2 + 1) := by
  have hd := dv_hd k h
  rw [e] at hd
  unfold inn
  rw [hd, if_neg (by omega), if_pos (by omega), Int.toNat_natCast]
  exact ⟨rfl, rfl⟩
theorem inn_no (c : UInt8) (p : Nat × Nat) (k : Nat) (e : hd k ≠ c) : inn c p (k + 1) = inn c p k := by
  rcases dv_cases c with h | ⟨n, hn, h, h2⟩
  · unfold inn; rw [h, if_neg (by omega), if_neg (by omega)]
  · have hne : n ≠ k := by intro q; subst q; exact e h2
    unfold inn
    rw [h]
    by_cases hl : n < k
    · rw [if_pos (by omega), if_pos (by omega)]
    · rw [if_neg (by omega), if_neg (by omega)]
theorem inn_all (c : UInt8) (p : Nat × Nat) : inn c p 16 = if dv c < 0 then p else (16 * p.1 + (dv c).toNat, p.2 + 1) := by
  rcases dv_cases c with h | ⟨n, hn, h, h2⟩
  · unfold inn; rw [h, if_neg (by omega), if_pos (by omega)]
  · unfold inn; rw [h, if_pos (by omega), if_neg (by omega)]
theorem inn_le (c : UInt8) (p : Nat × Nat) (k : Nat) : (inn c p k).1 ≤ 16 * p.1 + 15 ∧ (inn c p k).2 ≤ p.2 + 1 := by
  rcases dv_cases c with h | ⟨n, hn, h, h2⟩
  · unfold inn; rw [h, if_neg (by omega)]; exact ⟨by omega, by omega⟩
  · unfold inn; rw [h]; split
    · simp; omega
    · exact ⟨by omega, by omega⟩
/-- behind j bytes -/
def mid (c0 c1 : UInt8) : Nat → Nat × Nat
  | 0 => (0, 0)
  | 1 => inn c0 (0, 0) 16
  | _ => inn c1 (inn c0 (0, 0) 16) 16

def InRel (c : UInt8) (p : Nat × Nat) (W : World) (n m k : Value) (wr : World) : Prop :=
  ∃ q : Nat, q ≤ 16 ∧ k = .int .i64 (q : Int) ∧ n = .int .i64 ((inn c p q).1 : Int) ∧ m = .int .i64 ((inn c p q).2 : Int) ∧ W = wr
def MidRel (c0 c1 : UInt8) (W : World) (n m j : Value) (wr : World) : Prop :=
  ∃ q : Nat, q ≤ 2 ∧ j = .int .i64 (q : Int) ∧ n = .int .i64 ((mid c0 c1 q).1 : Int) ∧ m = .int .i64 ((mid c0 c1 q).2 : Int) ∧ W = wr
def UOut (s : ByteArray) (w : World) (v i : Value) (wr : World) : Prop :=
  ∃ (k : Nat) (pre : List UInt8), 2 * k ≤ s.size ∧ i = .int .i64 (2 * (k : Int)) ∧ pre.length = k ∧ wr.ownsRow w.heap.size 5 1 v pre.length (pre.map bv) ∧
    unpair s.data.toList = (unpair (s.data.toList.drop (2 * k))).map (pre ++ ·) ∧ Below w.heap.size w wr
theorem own_below {w w' : World} {base : Nat} {e : TypeId} {size n : Nat} {v : Value} {xs : List Value} (h : w.ownsRow base e size v n xs) (hb : Below w.heap.size w w') : w'.ownsRow base e size v n xs := by
  refine ⟨h.1, ?_⟩
  rcases h.2 with hn | ⟨g, cap, cur, hv, hbs, hg, rest⟩
  · exact .inl hn
  · exact .inr ⟨g, cap, cur, hv, hbs, (hb.block g (Array.getElem?_eq_some_iff.1 hg).1).trans hg, rest⟩

set_option maxRecDepth 100000 in
set_option maxHeartbeats 1000000 in
theorem RefUnhex_any (s : ByteArray) (hs : s.size ≤ 1048576) (w : World) :
    Calls Tryz.prog 36 #[.string s] w fun e w' => UR (unpair s.data.toList) e ∧ Below w.heap.size w w' := by
  obtain ⟨i, hi, hz0, hz1, hz2⟩ := info_parts info_u8
  have Hi := Lib.hid hi
  have Hz0 := Lib.hid hz0
  have Hz1 := Lib.hid hz1
  have Hz2 := Lib.hid hz2
  clear hi hz0 hz1 hz2
  go_enter Tryz.func36, Tryz.ntmps36
  go_wp2_with fail
  go_loopw [4, 5] (fun v i wr => UOut s w v i wr) (fun _ i _ => (s.size - intOf i).toNat)
  case atStart => exact ⟨0, [], by omega, rfl, rfl, ⟨rfl, .inl ⟨rfl, rfl⟩⟩, by simp, Below.refl _ _⟩
  case round =>
    obtain ⟨k, pre, hk, rfl, hpl, hO, hU, hB⟩ := hrel
    have Hpl := Lib.hid hpl
    have HU := Lib.hid hU
    clear hpl hU
    by_cases hlt : 2 * k + 1 < s.size
    · have i2 : (2 * (k : Int) + 1) < (s.size : Int) := by omega
      have HD := Lib.hid (drop_two s k hlt)
      have hxs : (s.extract (2 * k) (2 * k + 2)).size = 2 := by simp; omega
      have hxl : (s.extract (2 * k) (2 * k + 2)).data.toList = [s[2 * k], s[2 * k + 1]] := by
        rw [extract_list, List.drop_take, HD.out]
        simp
      obtain ⟨W1, cap, hcv, hF, hB1⟩ := conv_own (s.extract (2 * k) (2 * k + 2)) wr
      rw [hxs] at hcv
      rw [hxl] at hF
      clear hxs hxl
      go_wp2_with fail
      clear hcv
      have hO1 := own_below hO hB1
      have hB2 := hB.trans (hB1.mono hB.size)
      have k0 := hF.cell 0 (by simp)
      have k1 := hF.cell 1 (by simp)
      have hgb : w.heap.size ≤ wr.heap.size := hB.size
      generalize hg : wr.heap.size = gb at *
      clear hg hO hB hB1 hF wr
      have HE : Hid (unpair s.data.toList = (if dv s[2 * k] < 0 ∨ dv s[2 * k + 1] < 0 then none else (unpair (s.data.toList.drop (2 * (k + 1)))).map (byte2 s[2 * k] s[2 * k + 1] :: ·)).map (pre ++ ·)) := by
        show _ = _
        rw [HU.out, HD.out, unpair]
      clear HU HD
      rw [show [s[2 * k], s[2 * k + 1]].getD 0 0 = s[2 * k] from rfl] at k0
      rw [show [s[2 * k], s[2 * k + 1]].getD 1 0 = s[2 * k + 1] from rfl] at k1
      generalize s[2 * k] = a0 at *
      generalize s[2 * k + 1] = a1 at *
      go_loopw [6, 7, 25] (fun n m j wr => MidRel a0 a1 W1 n m j wr) (fun _ _ j _ => 2 - (intOf j).toNat)
      case atStart => exact ⟨0, by omega, rfl, rfl, rfl, rfl⟩
      case round =>
        obtain ⟨q, hq, rfl, rfl, rfl, rfl⟩ := hrel
        by_cases hq2 : q < 2
        · obtain ⟨c, hc, hm, hp⟩ : ∃ c : UInt8, W1.cell? ⟨gb, q, none⟩ = some (.int .u8 (c.toNat : Int)) ∧ mid a0 a1 (q + 1) = inn c (mid a0 a1 q) 16 ∧ (mid a0 a1 q).1 ≤ 15 ∧ (mid a0 a1 q).2 ≤ 1 := by
            have hcase : q = 0 ∨ q = 1 := by omega
            rcases hcase with rfl | rfl
            · exact ⟨a0, k0, rfl, (by show 0 ≤ 15; omega), (by show 0 ≤ 1; omega)⟩
            · exact ⟨a1, k1, rfl, inn_le a0 (0, 0) 16⟩
          have HM := Lib.hid hm
          clear hm
          have hqi : (q : Int) < 2 := by omega
          generalize mid a0 a1 q = p at *
          go_wp2_with fail
          go_loopw [6, 7, 29] (fun n m j wr => InRel c p W1 n m j wr) (fun _ _ j _ => 16 - (intOf j).toNat)
          case atStart => exact ⟨0, by omega, rfl, by rw [inn_zero], by rw [inn_zero], rfl⟩
          case round =>
            obtain ⟨z, hz, rfl, rfl, rfl, rfl⟩ := hrel
            by_cases hz2 : z < 16
            · have hzi : (z : Int) < 16 := by omega
              have dg := dig_run64 z hz2
              by_cases he : hd z = c
              · obtain ⟨e1, e2⟩ := inn_yes c p z hz2 he
                have E2 := Lib.hid e2
                have hb : (((hd z).toNat : Int) == (c.toNat : Int)) = true := by rw [he]; simp
                rw [e1] at *
                clear e1 e2 he
                go_wp2_with fail
                exact ⟨⟨z + 1, hz2, by go_num, by rw [E2.out]; go_num, by rw [E2.out]; go_num, rfl⟩, by simp [intOf]; omega⟩
              · have e2 := Lib.hid (inn_no c p z he)
                have hb : (((hd z).toNat : Int) == (c.toNat : Int)) = false := by
                  rw [beq_eq_false_iff_ne]
                  intro q
                  exact he (UInt8.toNat_inj.1 (by omega))
                clear he
                go_wp2_with fail
                exact ⟨⟨z + 1, hz2, by go_num, by rw [e2.out], by rw [e2.out], rfl⟩, by simp [intOf]; omega⟩
            · obtain rfl : z = 16 := by omega
              rw [← HM.out]
              go_wp2_with fail
              exact ⟨⟨q + 1, hq2, by go_num, rfl, rfl, rfl⟩, by simp [intOf]; omega⟩
        · obtain rfl : q = 2 := by omega
          have hmid : mid a0 a1 2 = inn a1 (inn a0 (0, 0) 16) 16 := rfl
          rw [inn_all, inn_all] at hmid
          clear k0 k1 hq hq2
          rcases dv_cases a0 with ha | ⟨x, hx, ha, -⟩
          · have hm2 : ((mid a0 a1 2).2 : Int) ≤ 1 := by
              rw [hmid, if_pos (show dv a0 < 0 by omega)]
              split
              · show ((0 : Nat) : Int) ≤ 1; omega
              · show ((0 + 1 : Nat) : Int) ≤ 1; omega
            have hbn : ((((mid a0 a1 2).2 : Nat) : Int) != 2) = true := by rw [bne_iff_ne]; omega
            have HE2 : Hid (unpair s.data.toList = none) := by show _ = _; rw [HE.out, if_pos (by omega)]; rfl
            clear HE hm2 hmid ha
            generalize mid a0 a1 2 = P at *
            go_wp2_with fail
            go_ret2
            rw [HE2.out]
            exact ⟨rfl, hB2⟩
          · rcases dv_cases a1 with hb | ⟨y, hy, hb, -⟩
            · have hm2 : ((mid a0 a1 2).2 : Int) ≤ 1 := by
                rw [hmid, if_pos (show dv a1 < 0 by omega), if_neg (show ¬ dv a0 < 0 by omega)]
                show ((0 + 1 : Nat) : Int) ≤ 1; omega
              have hbn : ((((mid a0 a1 2).2 : Nat) : Int) != 2) = true := by rw [bne_iff_ne]; omega
              have HE2 : Hid (unpair s.data.toList = none) := by show _ = _; rw [HE.out, if_pos (by omega)]; rfl
              clear HE hm2 hmid ha hb
              generalize mid a0 a1 2 = P at *
              go_wp2_with fail
              go_ret2
              rw [HE2.out]
              exact ⟨rfl, hB2⟩
            · have e : mid a0 a1 2 = (x * 16 + y, 2) := by
                rw [hmid, if_neg (show ¬ dv a1 < 0 by omega), if_neg (show ¬ dv a0 < 0 by omega), ha, hb, Int.toNat_natCast, Int.toNat_natCast]
                show (16 * (16 * 0 + x) + y, 0 + 1 + 1) = _
                rw [show 16 * (16 * 0 + x) + y = x * 16 + y from by omega]
              have hb2 : byte2 a0 a1 = UInt8.ofNat (x * 16 + y) := by unfold byte2; rw [ha, hb, Int.toNat_natCast, Int.toNat_natCast]
              have HE2 : Hid (unpair s.data.toList = (unpair (s.data.toList.drop (2 * (k + 1)))).map ((pre ++ [byte2 a0 a1]) ++ ·)) := by
                show _ = _
                rw [HE.out, if_neg (by omega), Option.map_map]
                congr 1
                funext q
                simp
              rw [hb2] at HE2
              have e1 : (((mid a0 a1 2).1 : Nat) : Int) = ((x * 16 + y : Nat) : Int) := by rw [e]
              have e2 : (((mid a0 a1 2).2 : Nat) : Int) = 2 := by rw [e]; rfl
              rw [e1, e2]
              have hN : x * 16 + y ≤ 255 := by omega
              have hcv2 : IntKind.u8.wrap ((x * 16 + y : Nat) : Int) = ((UInt8.ofNat (x * 16 + y)).toNat : Int) := by rw [IntKind.wrap_u8', UInt8.toNat_ofNat']; omega
              clear HE hmid ha hb e e1 e2 hb2
              generalize x * 16 + y = M at *
              generalize UInt8.ofNat M = bb at *
              go_wp2_with (at_builtin; refine wpList_append_lies _ rfl _ _ 105 rfl w.heap.size 5 i _ 1 1 Tryz.underlying105 Hi.out Hz0.out Hz1.out Hz2.out rfl (by decide) _ _ _ rfl (World.ownsRow.alloc hO1 _) ⟨W1.heap.size, 0, none⟩ 1 1 [.int .u8 (bb.toNat : Int)] rfl rfl (new_cells W1 [.int .u8 (bb.toNat : Int)] 5) (bytes_one [bb]) (by decide) (by have := Hpl.out; unfold maxLen; omega) (by have := Hpl.out; omega) (by have := hB2.size; simp; omega) _ rfl ?_)
              intro g1 cap1 w2 hown hgrow hat hg1
              go_wp2_with fail
              refine ⟨⟨k + 1, pre ++ [bb], by omega, by go_num, by simp [Hpl.out], ?_, HE2.out, ?_⟩, by simp [intOf]; omega⟩
              · simpa [bv] using hown
              · exact (hB2.alloc hB2.size _).grown hgrow (by have := hB2.size; simp; omega) (fun q e => own_ge hO1 _ e)
    · by_cases hodd : s.size = 2 * k
      · have hd : s.data.toList.drop (2 * k) = [] := List.drop_eq_nil_of_le (by rw [← hodd]; exact Nat.le_of_eq rfl)
        have hE2 : unpair s.data.toList = some pre := by rw [HU.out, hd]; simp [unpair]
        have HE := Lib.hid hE2
        have h1 : ((s.size : Int) % 2 == 1) = false := by rw [beq_eq_false_iff_ne]; omega
        have i2 : ¬ (2 * (k : Int) + 1) < (s.size : Int) := by omega
        clear hd hE2 HU hodd hlt
        rcases hO.2 with ⟨rfl, hp0⟩ | ⟨g, cp, cur, rfl, hrest⟩
        · obtain rfl : pre = [] := List.eq_nil_of_length_eq_zero hp0
          have hb := conv_nil wr
          go_wp2_with fail
          go_ret2
          rw [HE.out]
          exact ⟨rfl, hB⟩
        · have hb := run_bytes_own (P := Tryz.prog) hO
          rw [← run_convert_bytes_string wr 105 9 5 _ _ _ Tryz.underlying105 Tryz.underlying5 Tryz.underlying9] at hb
          clear hrest
          go_wp2_with fail
          go_ret2
          rw [HE.out]
          exact ⟨rfl, hB⟩
      · have HE := Lib.hid (unpair_odd_n s.size s.data.toList (Nat.le_of_eq rfl) (by show s.size % 2 = 1; omega))
        have h1 : ((s.size : Int) % 2 == 1) = true := by rw [beq_iff_eq]; omega
        have i2 : ¬ (2 * (k : Int) + 1) < (s.size : Int) := by omega
        clear HU hodd hlt
        go_wp2_with fail
        go_ret2
        rw [HE.out]
        exact ⟨rfl, hB⟩
end Go.Proofs.YtmikfmcgddmplaaGreatDoor
