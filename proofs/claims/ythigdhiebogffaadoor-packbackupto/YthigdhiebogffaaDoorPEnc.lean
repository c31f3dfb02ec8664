/- (representation).encode: its contract. -/
import Derived.Test.YthigdhiebogffaaDoorIMap
import Derived.Test.YthigdhiebogffaaDoorPKp
import Derived.Test.YthigdhiebogffaaDoorODec
namespace Go.Proofs.YthigdhiebogffaaDoor
open Go.RowKit

def rep0 (s : ByteArray) : List UInt8 := num 0 ++ (num s.size ++ s.data.toList)
def rep1 (k : Nat) (d : ByteArray) : List UInt8 := num 1 ++ (num k ++ txt d)
/-- what encode answers -/
def encP (p : Rp) : ByteArray × Int :=
  if p.way = 0 then (bs (rep0 p.bytes), 0) else if 4096 < p.bytes.size then (⟨#[]⟩, 1) else (bs (rep1 p.index p.bytes), 0)
theorem wl_put (g : Nat) (l : List UInt8) (s : ByteArray) (hs : s.size ≤ 281474976710656) (hl : l.length ≤ 281474976710656) (w : World) (h : WL w g l) :
    Calls Tryd.prog 33 #[.pointer (some ⟨g, 0, none⟩), .string s] w (Wrote w g (l ++ s.data.toList)) := by
  obtain ⟨ps, h1, rfl⟩ := h
  exact (WBytes_ok g ps s hs hl w h1).mono fun x w' ⟨e, h2, h3⟩ => ⟨e, ⟨_, h2, rfl⟩, h3⟩
theorem wl_long (g : Nat) (l : List UInt8) (s : ByteArray) (hs : 4096 < s.size) (w : World) (h : WL w g l) :
    Calls Tryd.prog 77 #[.pointer (some ⟨g, 0, none⟩), .string s] w (Failed w g 1) := by
  obtain ⟨ps, h1, rfl⟩ := h
  exact WText_err g ps s _ 1 (by decide) (putTextIs_no _ s hs) w h1
theorem wl_done (g : Nat) (l : List UInt8) (hl : l.length ≤ 281474976710656) (w : World) (h : WL w g l) :
    Calls Tryd.prog 40 #[.pointer (some ⟨g, 0, none⟩)] w fun x w' => x = .returned (.tuple #[.string (bs l), .int .i64 0]) ∧ Below w.heap.size w w' := by
  obtain ⟨ps, h1, rfl⟩ := h
  exact Done_ok g ps hl w h1
theorem wl_zero (w : World) {g : Nat} (h : Arr w g 65 #[.pointer none, .int .i64 0, .int .i64 0]) : WL w g [] := ⟨[], ⟨_, h, by simp [Chain]⟩, rfl⟩
/-- where encode stands -/
structure Eb (w : World) (p : Rp) (l : List UInt8) (W : World) : Prop where
  box : Arr W w.heap.size 111 (rpArr p)
  wr : WL W (w.heap.size + 1) l
  bel : Below w.heap.size w W
theorem Eb.put {w W W' : World} {p : Rp} {l l' : List UInt8} (h : Eb w p l W) (k : W.grownBy W' (some (w.heap.size + 1))) (h' : WL W' (w.heap.size + 1) l') : Eb w p l' W' :=
  ⟨h.box.kept k (fun e => by have := Option.some.inj e; omega), h', below_gb h.bel k (by omega) h.bel.size⟩
theorem eb_start (w : World) (p : Rp) : Eb w p [] ((w.alloc (.cells (rpArr p) 111)).alloc (.cells #[.pointer none, .int .i64 0, .int .i64 0] 65)) :=
  ⟨(Arr.new _ _ _).alloc _, wl_zero _ (Arr.new_at _ _ _ (by simp)), ((Below.refl _ _).alloc (Nat.le_refl _) _).alloc (by simp) _⟩

set_option maxRecDepth 100000 in
set_option maxHeartbeats 1000000 in
theorem encode_any (p : Rp) (hw : p.way ≤ 1) (h0 : p.way = 0 → p.bytes.size ≤ 100000) (hk : p.index < 4611686018427387904) (w : World) :
    Calls Tryd.prog 59 #[.agg (rpArr p)] w fun x w' => x = .returned (.tuple #[.string (encP p).1, .int .i64 (encP p).2]) ∧ Below w.heap.size w w' := by
  obtain ⟨R, hR⟩ : ∃ R, R = encP p := ⟨_, rfl⟩
  rw [← hR]
  unfold encP at hR
  have HR0 := Lib.hid hR
  clear hR
  have e0 := Lib.hid (eb_start w p)
  generalize hA : rpArr p = arr at *
  have HA := Lib.hid hA
  clear hA
  go_enter Tryd.func59, Tryd.ntmps59
  go_upto_region 2 with fail
  refine wp_forget (Eb w p []) (by exact e0.out) ?_
  clear e0 HA
  intro W E0
  have c0 : W.cell? ⟨w.heap.size, 0, none⟩ = some (.int .i64 p.way) := E0.box.cell 0
  have q := Lib.hid (wl_number (w.heap.size + 1) [] p.way (by omega) (by simp) W E0.wr)
  go_wp2_with fail
  (with_reducible refine q.out.mono ?_)
  clear q
  rintro _ W1 ⟨rfl, w1, k1⟩
  have E1 := E0.put k1 w1
  rw [List.nil_append] at E1
  clear E0 k1 w1 c0
  clear W
  have c0 : W1.cell? ⟨w.heap.size, 0, none⟩ = some (.int .i64 p.way) := E1.box.cell 0
  have c1 : W1.cell? ⟨w.heap.size, 1, none⟩ = some (.int .i64 p.index) := E1.box.cell 1
  have c2 : W1.cell? ⟨w.heap.size, 2, none⟩ = some (.string p.id) := E1.box.cell 2
  have c3 : W1.cell? ⟨w.heap.size, 3, none⟩ = some (.string p.bytes) := E1.box.cell 3
  have hl0 := num_len9 p.way (by omega)
  by_cases w0 : p.way = 0
  · have hR := HR0.out
    rw [if_pos w0] at hR
    have HR := Lib.hid hR
    clear HR0 hR
    have hs := h0 w0
    rw [w0] at c0 E1
    have hl1 := num_len9 p.bytes.size (by omega)
    have q := Lib.hid (wl_number (w.heap.size + 1) (num 0) p.bytes.size (by omega) (by rw [w0] at hl0; omega) W1 E1.wr)
    go_wp2_with fail
    (with_reducible refine q.out.mono ?_)
    clear q
    rintro _ W2 ⟨rfl, w2, k2⟩
    have E2 := E1.put k2 w2
    clear E1 k2 w2 c0 c1 c2 c3
    have c3 : W2.cell? ⟨w.heap.size, 3, none⟩ = some (.string p.bytes) := E2.box.cell 3
    have q := Lib.hid (wl_put (w.heap.size + 1) (num 0 ++ num p.bytes.size) p.bytes (by omega) (by rw [w0] at hl0; rw [List.length_append]; omega) W2 E2.wr)
    go_wp2_with fail
    (with_reducible refine q.out.mono ?_)
    clear q
    rintro _ W3 ⟨rfl, w3, k3⟩
    have E3 := E2.put k3 w3
    clear E2 k3 w3 c3
    have hz : p.bytes.data.toList.length = p.bytes.size := rfl
    have q := Lib.hid (wl_done (w.heap.size + 1) (num 0 ++ num p.bytes.size ++ p.bytes.data.toList) (by rw [w0] at hl0; simp only [List.length_append]; omega) W3 E3.wr)
    go_wp2_with fail
    (with_reducible refine q.out.mono ?_)
    clear q
    rintro _ W4 ⟨rfl, b4⟩
    go_wp2_with fail
    go_ret2
    refine ⟨?_, E3.bel.trans (b4.mono E3.bel.size)⟩
    rw [HR.out]; rfl
  have hR := HR0.out
  rw [if_neg w0] at hR
  clear HR0 h0
  have i0 : ((p.way : Int) == 0) = false := by rw [beq_eq_false_iff_ne]; omega
  have w1 : p.way = 1 := by omega
  rw [w1] at c0 E1
  have hl1 := num_len9 p.index (by omega)
  have q := Lib.hid (wl_number (w.heap.size + 1) (num 1) p.index (by omega) (by rw [w1] at hl0; omega) W1 E1.wr)
  have HR0 := Lib.hid hR
  clear hR i0
  go_wp2_with fail
  (with_reducible refine q.out.mono ?_)
  clear q
  rintro _ W2 ⟨rfl, w2, k2⟩
  have E2 := E1.put k2 w2
  clear E1 k2 w2 c0 c1 c2 c3
  have c3 : W2.cell? ⟨w.heap.size, 3, none⟩ = some (.string p.bytes) := E2.box.cell 3
  have hR := HR0.out
  clear HR0
  by_cases hlong : 4096 < p.bytes.size
  · rw [if_pos hlong] at hR
    have HR := Lib.hid hR
    clear hR
    have q := Lib.hid (wl_long (w.heap.size + 1) (num 1 ++ num p.index) p.bytes hlong W2 E2.wr)
    go_wp2_with fail
    (with_reducible refine q.out.mono ?_)
    clear q
    rintro _ W3 ⟨rfl, w3, k3⟩
    go_wp2_with fail
    (with_reducible refine (Done_bad (w.heap.size + 1) 1 (by decide) W3 w3).mono ?_)
    rintro _ W4 ⟨rfl, b4⟩
    go_wp2_with fail
    go_ret2
    have b3 := below_gb E2.bel k3 (by omega) E2.bel.size
    refine ⟨by rw [HR.out]; rfl, ?_⟩
    first | exact b4 ▸ b3 | exact b3.trans (b4.mono b3.size)
  · rw [if_neg hlong] at hR
    have HR := Lib.hid hR
    clear hR
    have q := Lib.hid (wl_text (w.heap.size + 1) (num 1 ++ num p.index) p.bytes (by omega) (by rw [w1] at hl0; rw [List.length_append]; omega) W2 E2.wr)
    go_wp2_with fail
    (with_reducible refine q.out.mono ?_)
    clear q
    rintro _ W3 ⟨rfl, w3, k3⟩
    have E3 := E2.put k3 w3
    clear E2 k3 w3 c3
    have hz := txt_len p.bytes (by omega)
    have q := Lib.hid (wl_done (w.heap.size + 1) (num 1 ++ num p.index ++ txt p.bytes) (by rw [w1] at hl0; simp only [List.length_append]; omega) W3 E3.wr)
    go_wp2_with fail
    (with_reducible refine q.out.mono ?_)
    clear q
    rintro _ W4 ⟨rfl, b4⟩
    go_wp2_with fail
    go_ret2
    refine ⟨?_, E3.bel.trans (b4.mono E3.bel.size)⟩
    rw [HR.out]; rfl
end Go.Proofs.YthigdhiebogffaaDoor
