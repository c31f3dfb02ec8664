/- ref.Hex: its contract. -/
import Derived.Test.YtngfgmcnpbjefaaDoorRefSeal
import Derived.Deep.AppendLies
namespace Go.Proofs.YtngfgmcnpbjefaaDoor
open Go.RowKit

theorem own_ge {w : World} {base : Nat} {e : TypeId} {size n : Nat} {v : Value} {xs : List Value} (h : w.ownsRow base e size v n xs) (k : Nat) (hk : v.ownBlock = some k) : base ≤ k := by
  rcases h.2 with ⟨rfl, _⟩ | ⟨g, cap, cur, rfl, hb, _⟩
  · cases hk
  · cases hk; exact hb
theorem own_lt {w : World} {base : Nat} {e : TypeId} {size n : Nat} {v : Value} {xs : List Value} (h : w.ownsRow base e size v n xs) (k : Nat) (hk : v.ownBlock = some k) : k < w.heap.size := by
  rcases h.2 with ⟨rfl, _⟩ | ⟨g, cap, cur, rfl, hb, hg, _⟩
  · cases hk
  · cases hk; exact (Array.getElem?_eq_some_iff.1 hg).1
theorem FB.lt {w : World} {g : Nat} {l : List UInt8} (h : FB w g l) : g < w.heap.size := by
  obtain ⟨cs, t, fz, h1, _⟩ := h
  exact (Array.getElem?_eq_some_iff.1 h1).1
theorem FB.alloc {w : World} {g : Nat} {l : List UInt8} (h : FB w g l) (o : Obj) : FB (w.alloc o) g l := by
  have hlt := h.lt
  obtain ⟨cs, t, fz, h1, h2⟩ := h
  exact ⟨cs, t, fz, (Below.heap_alloc w o g hlt).trans h1, h2⟩
theorem FB.kept {w w' : World} {g : Nat} {l : List UInt8} {row : Option Nat} (h : FB w g l) (hg : w.grownBy w' row) (hne : some g ≠ row) : FB w' g l := by
  have hlt := h.lt
  obtain ⟨cs, t, fz, h1, h2⟩ := h
  exact ⟨cs, t, fz, (hg.block g hlt hne).trans h1, h2⟩

theorem conv_nil (w : World) : (convert 49 9 (.slice none 0 0)).run Tryd.prog w = .ok (.string (bs [])) w := by
  rw [run_convert_bytes_string w 49 9 5 _ _ _ Tryd.underlying49 Tryd.underlying5 Tryd.underlying9]
  rfl
/-- the bytes that are read, the digits that are written -/
def HxW (l done : List UInt8) (v : Value) (w W : World) : Prop :=
  FB W w.heap.size l ∧ W.ownsRow (w.heap.size + 1) 5 1 v done.length (done.map bv) ∧ Below w.heap.size w W ∧ w.heap.size + 1 ≤ W.heap.size
def HxIn (l done : List UInt8) (a b gd : Nat) (w : World) (v j : Value) (wr : World) : Prop :=
  ∃ n : Nat, n ≤ 2 ∧ j = .int .i64 (n : Int) ∧ HxW l (done ++ [hd a, hd b].take n) v w wr ∧ wr.cell? ⟨gd, 0, none⟩ = some (.int .u8 (a : Int)) ∧ wr.cell? ⟨gd, 1, none⟩ = some (.int .u8 (b : Int)) ∧
    v.ownBlock ≠ some gd ∧ gd < wr.heap.size ∧ w.heap.size + 1 ≤ gd
def HxOut (l : List UInt8) (w : World) (v i : Value) (wr : World) : Prop :=
  ∃ k : Nat, k ≤ l.length ∧ i = .int .i64 (k : Int) ∧ HxW l (hexOf (l.take k)) v w wr

set_option maxRecDepth 100000 in
set_option maxHeartbeats 1000000 in
theorem RefHex_any (s : ByteArray) (hs : s.size ≤ 1048576) (w : World) :
    Calls Tryd.prog 27 #[.string s] w
      fun e w' => e = .returned (.string (bs (hexOf s.data.toList))) ∧ Below w.heap.size w w' := by
  obtain ⟨i, hi, hz0, hz1, hz2⟩ := info_parts info_u8
  have Hi := Lib.hid hi
  have Hz0 := Lib.hid hz0
  have Hz1 := Lib.hid hz1
  have Hz2 := Lib.hid hz2
  clear hi hz0 hz1 hz2
  obtain ⟨W1, cap, hcv, hF, hB0⟩ := conv_own s w
  have hW0 : HxW s.data.toList [] (.slice none 0 0) w W1 := ⟨hF, ⟨rfl, .inl ⟨rfl, rfl⟩⟩, hB0, hF.lt⟩
  clear hF hB0
  have hl : s.data.toList.length = s.size := rfl
  go_enter Tryd.func27, Tryd.ntmps27
  go_wp2_with fail
  clear hcv
  generalize hL : s.data.toList = l at *
  have HL := Lib.hid hL
  clear hL
  generalize s.size = N at *
  go_loopw [3, 11] (fun v i wr => HxOut l w v i wr) (fun _ i _ => N - (intOf i).toNat)
  case atStart => exact ⟨0, Nat.zero_le _, rfl, hW0⟩
  case round =>
    clear hW0 W1
    obtain ⟨k, hk, rfl, hW⟩ := hrel
    by_cases hlt : k < N
    · have hc := hW.1.cell k (by omega)
      have hkl : (k : Int) < N := by omega
      have hcl : (l.getD k 0).toNat ≤ 255 := by have := (l.getD k 0).toNat_lt; omega
      have HS : Hid (hexOf (l.take (k + 1)) = hexOf (l.take k) ++ [hd ((l.getD k 0).toNat / 16), hd ((l.getD k 0).toNat % 16)]) := by
        show _ = _
        rw [List.take_add_one, hexOf_append, List.getD_eq_getElem?_getD, List.getElem?_eq_getElem (by omega)]
        simp [hexOf]
      generalize (l.getD k 0).toNat = c at *
      go_wp2_with fail
      rw [show (c : Int) / 16 = ((c / 16 : Nat) : Int) from by omega, show (c : Int) % 16 = ((c % 16 : Nat) : Int) from by omega]
      have hxa : c / 16 < 16 := by omega
      have hxb : c % 16 < 16 := by omega
      have da := dig_run (c / 16) hxa
      have db := dig_run (c % 16) hxb
      generalize c / 16 = xa at *
      generalize c % 16 = xb at *
      have hA := Arr.new wr 5 #[.int .u8 (xa : Int), .int .u8 (xb : Int)]
      have hlt2 : ∀ q, Value.ownBlock u3 = some q → q < wr.heap.size := own_lt hW.2.1
      refine wp_forget (fun W => HxIn l (hexOf (l.take k)) xa xb wr.heap.size w u3 (.int .i64 ((0 : Nat) : Int)) W)
        ⟨0, by omega, rfl, ⟨hW.1.alloc _, ?_, hW.2.2.1.alloc hW.2.2.1.size _, by have := hW.2.2.2; simp; omega⟩, hA.cell 0, hA.cell 1, fun e => by have := hlt2 _ e; omega, hA.lt, hW.2.2.2⟩ ?_
      · have q := World.ownsRow.alloc hW.2.1 (.cells #[.int .u8 (xa : Int), .int .u8 (xb : Int)] 5)
        rw [List.take_zero, List.append_nil]
        exact q
      generalize wr.heap.size = gd
      have hlen : (hexOf (l.take k)).length = 2 * k := by rw [hexOf_length, List.length_take]; omega
      have HLn := Lib.hid hlen
      clear hA hlt2 hW hc hlen wr
      generalize hexOf (l.take k) = done at *
      intro W hI0
      go_loopw [3, 21] (fun v j wr => HxIn l done xa xb gd w v j wr) (fun _ j _ => 2 - (intOf j).toNat)
      case atStart => exact hI0
      case round =>
        clear hI0 W
        obtain ⟨n, hn, rfl, hI, h0, h1, hno, hgl, hgd⟩ := hrel
        by_cases hn2 : n < 2
        · obtain ⟨dn, hdn, hcn, htk⟩ : ∃ dn : Nat, dn < 16 ∧ wr.cell? ⟨gd, n, none⟩ = some (.int .u8 (dn : Int)) ∧ [hd xa, hd xb].take (n + 1) = [hd xa, hd xb].take n ++ [hd dn] := by
            have hcase : n = 0 ∨ n = 1 := by omega
            rcases hcase with rfl | rfl
            · exact ⟨xa, hxa, h0, rfl⟩
            · exact ⟨xb, hxb, h1, rfl⟩
          have hni : (n : Int) < 2 := by omega
          have dg := dig_run dn hdn
          have Htk := Lib.hid htk
          have HD : Hid ((done ++ [hd xa, hd xb].take n).length ≤ 2097154) := by
            have h2 : ([hd xa, hd xb].take n).length ≤ 2 := by rw [List.length_take]; exact Nat.min_le_right _ _
            have h3 := HLn.out
            show (done ++ [hd xa, hd xb].take n).length ≤ 2097154
            rw [List.length_append]; omega
          clear htk
          generalize hd dn = x at *
          have Htk2 : Hid (done ++ [hd xa, hd xb].take (n + 1) = (done ++ [hd xa, hd xb].take n) ++ [x]) := by show _ = _; rw [Htk.out, List.append_assoc]
          clear Htk
          generalize done ++ [hd xa, hd xb].take n = D at *
          go_wp2_with (at_builtin; refine wpList_append_lies _ rfl _ _ 49 rfl (w.heap.size + 1) 5 i _ 1 1 Tryd.underlying49 Hi.out Hz0.out Hz1.out Hz2.out rfl (by decide) _ _ _ rfl (World.ownsRow.alloc hI.2.1 _) ⟨wr.heap.size, 0, none⟩ 1 1 [.int .u8 (x.toNat : Int)] rfl rfl (new_cells wr [.int .u8 (x.toNat : Int)] 5) (bytes_one [x]) (by decide) (by have := HD.out; unfold maxLen; omega) (by have := HD.out; omega) (by have := hI.2.2.2; simp; omega) _ rfl ?_)
          intro g1 cap1 w2 hown hgrow hat hg1
          go_wp2_with fail
          have hne : some w.heap.size ≠ Value.ownBlock u3 := fun e => by have := own_ge hI.2.1 _ e.symm; omega
          have hal : ∀ j, (wr.alloc (.cells #[.int .u8 (x.toNat : Int)] 5)).cell? ⟨gd, j, none⟩ = wr.cell? ⟨gd, j, none⟩ := fun j => World.cell?_of_block (Below.heap_alloc wr _ gd hgl)
          have hsz := hgrow.size
          rw [show (wr.alloc (.cells #[.int .u8 (x.toNat : Int)] 5)).heap.size = wr.heap.size + 1 from by simp] at hsz
          have hwz := hI.2.2.2
          refine ⟨⟨n + 1, hn2, by go_num, ?_, hgrow.cell ((hal 0).trans h0) (Ne.symm hno), hgrow.cell ((hal 1).trans h1) (Ne.symm hno), ?_, by omega, hgd⟩, by simp [intOf]; omega⟩
          · rw [Htk2.out]
            exact ⟨(hI.1.alloc _).kept hgrow hne, by simpa [bv] using hown, (hI.2.2.1.alloc hI.2.2.1.size _).grown hgrow (by simp; omega) (fun q e => by have := own_ge hI.2.1 _ e; omega), by omega⟩
          · intro e
            have e1 : g1 = gd := by simpa [Value.ownBlock] using e
            rcases hat with h | h
            · rw [e1] at h; exact hno h
            · omega
        · obtain rfl : n = 2 := by omega
          go_wp2_with fail
          exact ⟨⟨k + 1, by omega, by go_num, by rw [HS.out]; exact hI⟩, by simp [intOf]; omega⟩
    · obtain rfl : k = N := by omega
      rw [show l.take k = l from List.take_of_length_le (by omega)] at hW
      have HR : Hid (bs (hexOf s.data.toList) = bs (hexOf l)) := by show _ = _; rw [HL.out]
      generalize hexOf l = p at *
      have hB := hW.2.2.1
      rcases hW.2.1.2 with ⟨rfl, hp0⟩ | ⟨g, cp, cur, rfl, hrest⟩
      · obtain rfl : p = [] := List.eq_nil_of_length_eq_zero hp0
        have hb := conv_nil wr
        go_wp2_with fail
        go_ret
        exact ⟨by rw [HR.out]; rfl, hB⟩
      · have hb := run_bytes_own (P := Tryd.prog) hW.2.1
        rw [← run_convert_bytes_string wr 49 9 5 _ _ _ Tryd.underlying49 Tryd.underlying5 Tryd.underlying9] at hb
        clear hrest
        go_wp2_with fail
        go_ret
        exact ⟨by rw [HR.out]; rfl, hB⟩
end Go.Proofs.YtngfgmcnpbjefaaDoor
