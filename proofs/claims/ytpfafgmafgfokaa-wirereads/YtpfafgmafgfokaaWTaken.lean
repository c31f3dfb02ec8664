/- ref.Taken: its contract. -/
import Derived.Test.YtpfafgmafgfokaaWStep
import Derived.Deep.AppendLies
import Derived.BigQuiet
import Derived.Deep.QuietTactic
namespace Go.Proofs.Ytpfafgmafgfokaa
open Go.RowKit

/-- a take of a reader: its kind, its number -/
abbrev TakeT := Int × Int
/-- the takes that a slice holds -/
def TakesIn (w : World) (B : Nat) (A : Option Addr) (L : List TakeT) : Prop :=
  ∀ k x, L[k]? = some x → ∃ ad, A = some ad ∧ (ad.add (k * 2)).block < B ∧ w.cell? (ad.add (k * 2)) = some (.int .i64 x.1) ∧ w.cell? ⟨(ad.add (k * 2)).block, (ad.add (k * 2)).off + 1, none⟩ = some (.int .i64 x.2)

/-- the numbers, the texts, what is left, what went wrong -/
abbrev RunT := List Int × List ByteArray × ByteArray × Int
def stepR (st : RunT) (x : TakeT) : RunT :=
  if x.1 = 0 then (st.1 ++ [(stN st.2.2.1 st.2.2.2).1], st.2.1, (stN st.2.2.1 st.2.2.2).2.1, (stN st.2.2.1 st.2.2.2).2.2)
  else if x.1 = 1 then (st.1, st.2.1 ++ [(stT st.2.2.1 st.2.2.2).1], (stT st.2.2.1 st.2.2.2).2.1, (stT st.2.2.1 st.2.2.2).2.2)
  else (st.1, st.2.1 ++ [(stB st.2.2.1 st.2.2.2 x.2).1], (stB st.2.2.1 st.2.2.2 x.2).2.1, (stB st.2.2.1 st.2.2.2 x.2).2.2)
def runR (s : ByteArray) (L : List TakeT) : RunT := L.foldl stepR ([], [], s, 0)
theorem run_take (s : ByteArray) (L : List TakeT) (k : Nat) (h : k < L.length) : runR s (L.take (k + 1)) = stepR (runR s (L.take k)) L[k] := by
  unfold runR
  rw [List.take_succ_eq_append_getElem h, List.foldl_append]
  rfl
theorem run_small (s : ByteArray) (hs : s.size ≤ 281474976710656) (L : List TakeT) : ∀ k, k ≤ L.length → (runR s (L.take k)).2.2.1.size ≤ s.size ∧ (runR s (L.take k)).1.length + (runR s (L.take k)).2.1.length = k
  | 0, _ => by simp [runR]
  | k + 1, h => by
    have hk : k < L.length := h
    rw [run_take s L k hk]
    generalize L[k]'hk = x
    obtain ⟨i1, i2⟩ := run_small s hs L k (by omega)
    generalize runR s (L.take k) = st at *
    have a1 := (both_num st.2.2.1 st.2.2.2 (by omega)).1
    have a2 := (both_text st.2.2.1 st.2.2.2 (by omega)).1
    have a3 := (both_bytes st.2.2.1 st.2.2.2 x.2).1
    unfold stepR
    split
    · exact ⟨by simp only; omega, by simp; omega⟩
    · split
      · exact ⟨by simp only; omega, by simp; omega⟩
      · exact ⟨by simp only; omega, by simp; omega⟩

def iv (n : Int) : Value := .int .i64 n
def sv (t : ByteArray) : Value := .string t
theorem info_int : (Try.prog.info? 3).map (fun i => (i.zero, i.size, i.bytes)) = some (some (.int .i64 0), 1, 8) := by kernel_rfl
theorem info_str : (Try.prog.info? 9).map (fun i => (i.zero, i.size, i.bytes)) = some (some (.string ⟨#[]⟩), 1, 16) := by kernel_rfl
/-- two lists of the call's own: numbers, texts -/
def Two (w : World) (base : Nat) (vn vt : Value) (ns : List Int) (ts : List ByteArray) : Prop :=
  w.ownsRow base 3 1 vn ns.length (ns.map iv) ∧ w.ownsRow base 9 1 vt ts.length (ts.map sv)
section
variable {w w' : World} {base : Nat} {vn vt : Value} {ns : List Int} {ts : List ByteArray}
theorem own_apart {e e' : TypeId} {v v' : Value} {n n' size size' base' : Nat} {xs xs' : List Value} (h : w.ownsRow base e size v n xs) (h' : w.ownsRow base' e' size' v' n' xs') (hne : e ≠ e') : v.ownBlock = none ∨ v.ownBlock ≠ v'.ownBlock := by
  rcases h.2 with ⟨rfl, _⟩ | ⟨g, cap, cur, rfl, _, hg, _⟩
  · exact .inl rfl
  · refine .inr fun e1 => ?_
    rcases h'.2 with ⟨rfl, _⟩ | ⟨g', cap', cur', rfl, _, hg', _⟩
    · cases e1
    · have e2 : g = g' := by simpa [Value.ownBlock] using e1
      subst e2
      rw [hg] at hg'
      simp only [Option.some.injEq, Obj.cells.injEq] at hg'
      exact hne hg'.2.1
theorem own_far {e : TypeId} {v : Value} {n size g : Nat} {xs : List Value} (h : w.ownsRow base e size v n xs) (hg : g < base) : v.ownBlock = none ∨ v.ownBlock ≠ some g := by
  rcases h.2 with ⟨rfl, _⟩ | ⟨g', cap, cur, rfl, hb, _, _⟩
  · exact .inl rfl
  · refine .inr fun e1 => ?_
    have e2 : g' = g := by simpa [Value.ownBlock] using e1
    omega
theorem own_row_ge {e : TypeId} {v : Value} {n size : Nat} {xs : List Value} (h : w.ownsRow base e size v n xs) (k : Nat) (hk : v.ownBlock = some k) : base ≤ k := by
  rcases h.2 with ⟨rfl, _⟩ | ⟨g, cap, cur, rfl, hb, _⟩
  · cases hk
  · cases hk; exact hb
theorem Two.step {g : Nat} (h : Two w base vn vt ns ts) (k : w.grownBy w' (some g)) (hg : g < base) : Two w' base vn vt ns ts := ⟨h.1.kept k (own_far h.1 hg), h.2.kept k (own_far h.2 hg)⟩
theorem Two.alloc (h : Two w base vn vt ns ts) (o : Obj) : Two (w.alloc o) base vn vt ns ts := ⟨h.1.alloc _, h.2.alloc _⟩
end
theorem new_one (w : World) (u : Value) (t : TypeId) : ∀ (j : Nat) (x : Value), [u][j]? = some x → (w.alloc (.cells #[u] t)).cell? ((⟨w.heap.size, 0, none⟩ : Addr).add j) = some x := new_cells w [u] t

def TkRel (L : List TakeT) (s : ByteArray) (w : World) (vn vt i : Value) (wr : World) : Prop :=
  ∃ k : Nat, k ≤ L.length ∧ i = .int .i64 (k : Int) ∧ Cu wr w.heap.size (runR s (L.take k)).2.2.1 (runR s (L.take k)).2.2.2 ∧
    Two wr (w.heap.size + 1) vn vt (runR s (L.take k)).1 (runR s (L.take k)).2.1 ∧ Below w.heap.size w wr ∧ w.heap.size + 1 ≤ wr.heap.size
/-- what Taken answers -/
def TkEnd (L : List TakeT) (s : ByteArray) (w : World) (e : Ending) (w' : World) : Prop :=
  ∃ vn vt, e = .returned (.tuple #[vn, vt, .int .i64 ((runR s L).2.2.1.size : Int), .int .i64 (runR s L).2.2.2]) ∧ Two w' (w.heap.size + 1) vn vt (runR s L).1 (runR s L).2.1 ∧ Below w.heap.size w w'

set_option maxRecDepth 100000 in
set_option maxHeartbeats 4000000 in
theorem Taken_any (s : ByteArray) (hs : s.size ≤ 281474976710656) (L : List TakeT) (hl : L.length ≤ 8796093022207) (A : Option Addr) (c : Nat) (w : World) (hP : TakesIn w w.heap.size A L) :
    Calls Try.prog 20 #[.string s, .slice A L.length c] w (TkEnd L s w) := by
  obtain ⟨ii, hii, iz0, iz1, iz2⟩ := info_parts info_int
  obtain ⟨si, hsi, sz0, sz1, sz2⟩ := info_parts info_str
  have Hii := Lib.hid hii
  have Iz0 := Lib.hid iz0
  have Iz1 := Lib.hid iz1
  have Iz2 := Lib.hid iz2
  have Hsi := Lib.hid hsi
  have Sz0 := Lib.hid sz0
  have Sz1 := Lib.hid sz1
  have Sz2 := Lib.hid sz2
  clear hii iz0 iz1 iz2 hsi sz0 sz1 sz2
  go_enter Try.func20, Try.ntmps20
  go_wp2_with fail
  go_loopw [9, 10, 18] (fun vn vt i wr => TkRel L s w vn vt i wr) (fun _ _ i _ => L.length - (intOf i).toNat)
  case atStart => exact ⟨0, Nat.zero_le _, rfl, Arr.new _ _ _, ⟨⟨rfl, .inl ⟨rfl, rfl⟩⟩, ⟨rfl, .inl ⟨rfl, rfl⟩⟩⟩, (Below.refl _ _).alloc (Nat.le_refl _) _, by simp⟩
  case round =>
    obtain ⟨k, hk, rfl, hC, h2, hB, hz⟩ := hrel
    obtain ⟨hsm, hlen⟩ := run_small s hs L k hk
    by_cases hlt : k < L.length
    · obtain ⟨ad, rfl, hbl, h0, h1⟩ := hP k L[k] (List.getElem?_eq_getElem hlt)
      have HRun := Lib.hid (run_take s L k hlt)
      generalize L[k] = x at *
      obtain ⟨kd, n⟩ := x
      simp only at h0 h1
      have g0 := (hB.cell hbl).trans h0
      have g1 := (hB.cell (p := ⟨(ad.add (k * 2)).block, (ad.add (k * 2)).off + 1, none⟩) hbl).trans h1
      clear h0 h1 hP
      generalize hst : runR s (L.take k) = st at *
      obtain ⟨ns, ts, r, e⟩ := st
      simp only at hC h2 hsm hlen
      clear hst
      have hi : (k : Int) < L.length := by omega
      have hne : w.heap.size ≠ wr.heap.size := by omega
      have hX := Arr.new wr 43 #[.int .i64 kd, .int .i64 n]
      have b1 : Below wr.heap.size wr (wr.alloc (.cells #[.int .i64 kd, .int .i64 n] 43)) := (Below.refl _ _).alloc (Nat.le_refl _) _
      have hC1 : Cu (wr.alloc (.cells #[.int .i64 kd, .int .i64 n] 43)) w.heap.size r e := Arr.alloc hC _
      have h21 := h2.alloc (.cells #[.int .i64 kd, .int .i64 n] 43)
      have hB1 := hB.trans (b1.mono hB.size)
      clear b1 hC h2
      by_cases hk0 : kd = 0
      · subst hk0
        have q0 := (both_num r e (by omega)).2.2
        have HS : Hid (runR s (L.take (k + 1)) = (ns ++ [(stN r e).1], ts, (stN r e).2.1, (stN r e).2.2)) := by show _ = _; rw [HRun.out]; rfl
        generalize (stN r e).1 = rn at *
        generalize (stN r e).2.1 = r2 at *
        generalize (stN r e).2.2 = e2 at *
        clear HRun
        go_wp2_with fail
        have q := q0 _ _ hC1
        (with_reducible refine q.mono ?_)
        clear q q0
        rintro _ w2 ⟨rfl, hC2, k2⟩
        have h22 := h21.step k2 (Nat.lt_succ_self _)
        have hB2 := below_gb hB1 k2 (Nat.le_refl _) hB1.size
        have hz2 : w.heap.size + 1 ≤ w2.heap.size := by have := k2.size; simp at this; omega
        clear hX hC1 h21 k2 hB1
        go_wp2_with (at_builtin; refine wpList_append_lies _ rfl _ _ 36 rfl (w.heap.size + 1) 3 ii _ 1 8 Try.underlying36 Hii.out Iz0.out Iz1.out Iz2.out rfl (by decide) _ _ _ rfl (h22.1.alloc _) ⟨w2.heap.size, 0, none⟩ 1 1 [.int .i64 rn] rfl rfl (new_one w2 (.int .i64 rn) 3) (by intro u hu; simp at hu; subst hu; rfl) (by decide) (by unfold maxLen; omega) (by omega) (by simp; omega) _ rfl ?_)
        intro g3 cap3 w3 hown hgrow hat hg3
        go_wp2_with fail
        have hC3 : Cu w3 w.heap.size r2 e2 := Arr.kept (Arr.alloc hC2 _) hgrow (fun e1 => by have := own_row_ge h22.1 _ e1.symm; omega)
        have h23 := (h22.2.alloc (.cells #[.int .i64 rn] 3)).kept hgrow (own_apart h22.2 h22.1 (by decide))
        refine ⟨⟨k + 1, hlt, by go_num, ?_, ?_, ?_, ?_⟩, by simp [intOf]; omega⟩
        · rw [HS.out]; exact hC3
        · rw [HS.out]
          refine ⟨?_, h23⟩
          simp only [List.length_append, List.map_append]
          exact hown
        · exact (hB2.alloc hB2.size _).grown hgrow (by simp; have := hB2.size; omega) (fun q e1 => by have := own_row_ge h22.1 _ e1; omega)
        · have := hgrow.size; simp at this; omega
      · have hk0' : (kd == 0) = false := by rw [beq_eq_false_iff_ne]; exact hk0
        by_cases hk1 : kd = 1
        · subst hk1
          have q0 := (both_text r e (by omega)).2.2
          have HS : Hid (runR s (L.take (k + 1)) = (ns, ts ++ [(stT r e).1], (stT r e).2.1, (stT r e).2.2)) := by show _ = _; rw [HRun.out]; unfold stepR; rw [if_neg (by simp), if_pos rfl]
          generalize (stT r e).1 = rn at *
          generalize (stT r e).2.1 = r2 at *
          generalize (stT r e).2.2 = e2 at *
          clear HRun
          go_wp2_with fail
          have q := q0 _ _ hC1
          (with_reducible refine q.mono ?_)
          clear q q0
          rintro _ w2 ⟨rfl, hC2, k2⟩
          have h22 := h21.step k2 (Nat.lt_succ_self _)
          have hB2 := below_gb hB1 k2 (Nat.le_refl _) hB1.size
          have hz2 : w.heap.size + 1 ≤ w2.heap.size := by have := k2.size; simp at this; omega
          clear hX hC1 h21 k2 hB1
          go_wp2_with (at_builtin; refine wpList_append_lies _ rfl _ _ 37 rfl (w.heap.size + 1) 9 si _ 1 16 Try.underlying37 Hsi.out Sz0.out Sz1.out Sz2.out rfl (by decide) _ _ _ rfl (h22.2.alloc _) ⟨w2.heap.size, 0, none⟩ 1 1 [.string rn] rfl rfl (new_one w2 (.string rn) 9) (by intro u hu; simp at hu; subst hu; rfl) (by decide) (by unfold maxLen; omega) (by omega) (by simp; omega) _ rfl ?_)
          intro g3 cap3 w3 hown hgrow hat hg3
          go_wp2_with fail
          have hC3 : Cu w3 w.heap.size r2 e2 := Arr.kept (Arr.alloc hC2 _) hgrow (fun e1 => by have := own_row_ge h22.2 _ e1.symm; omega)
          have h23 := (h22.1.alloc (.cells #[.string rn] 9)).kept hgrow (own_apart h22.1 h22.2 (by decide))
          refine ⟨⟨k + 1, hlt, by go_num, ?_, ?_, ?_, ?_⟩, by simp [intOf]; omega⟩
          · rw [HS.out]; exact hC3
          · rw [HS.out]
            refine ⟨h23, ?_⟩
            simp only [List.length_append, List.map_append]
            exact hown
          · exact (hB2.alloc hB2.size _).grown hgrow (by simp; have := hB2.size; omega) (fun q e1 => by have := own_row_ge h22.2 _ e1; omega)
          · have := hgrow.size; simp at this; omega
        · have hk1' : (kd == 1) = false := by rw [beq_eq_false_iff_ne]; exact hk1
          have q0 := (both_bytes r e n).2.2
          have HS : Hid (runR s (L.take (k + 1)) = (ns, ts ++ [(stB r e n).1], (stB r e n).2.1, (stB r e n).2.2)) := by show _ = _; rw [HRun.out]; unfold stepR; rw [if_neg hk0, if_neg hk1]
          generalize (stB r e n).1 = rn at *
          generalize (stB r e n).2.1 = r2 at *
          generalize (stB r e n).2.2 = e2 at *
          clear HRun
          go_wp2_with fail
          have q := q0 _ _ hC1
          (with_reducible refine q.mono ?_)
          clear q q0
          rintro _ w2 ⟨rfl, hC2, k2⟩
          have h22 := h21.step k2 (Nat.lt_succ_self _)
          have hB2 := below_gb hB1 k2 (Nat.le_refl _) hB1.size
          have hz2 : w.heap.size + 1 ≤ w2.heap.size := by have := k2.size; simp at this; omega
          clear hX hC1 h21 k2 hB1
          go_wp2_with (at_builtin; refine wpList_append_lies _ rfl _ _ 37 rfl (w.heap.size + 1) 9 si _ 1 16 Try.underlying37 Hsi.out Sz0.out Sz1.out Sz2.out rfl (by decide) _ _ _ rfl (h22.2.alloc _) ⟨w2.heap.size, 0, none⟩ 1 1 [.string rn] rfl rfl (new_one w2 (.string rn) 9) (by intro u hu; simp at hu; subst hu; rfl) (by decide) (by unfold maxLen; omega) (by omega) (by simp; omega) _ rfl ?_)
          intro g3 cap3 w3 hown hgrow hat hg3
          go_wp2_with fail
          have hC3 : Cu w3 w.heap.size r2 e2 := Arr.kept (Arr.alloc hC2 _) hgrow (fun e1 => by have := own_row_ge h22.2 _ e1.symm; omega)
          have h23 := (h22.1.alloc (.cells #[.string rn] 9)).kept hgrow (own_apart h22.1 h22.2 (by decide))
          refine ⟨⟨k + 1, hlt, by go_num, ?_, ?_, ?_, ?_⟩, by simp [intOf]; omega⟩
          · rw [HS.out]; exact hC3
          · rw [HS.out]
            refine ⟨h23, ?_⟩
            simp only [List.length_append, List.map_append]
            exact hown
          · exact (hB2.alloc hB2.size _).grown hgrow (by simp; have := hB2.size; omega) (fun q e1 => by have := own_row_ge h22.2 _ e1; omega)
          · have := hgrow.size; simp at this; omega
    · obtain rfl : k = L.length := by omega
      rw [List.take_length] at *
      have c0 := hC.c0
      have c1 := hC.c1
      have hi : ¬ (L.length : Int) < L.length := by omega
      clear hP
      go_wp2_with fail
      go_quiet (fail)
      go_wp2_with fail
      exact bodyPost_ret (v := .tuple #[u9, u10, .int .i64 ((runR s L).2.2.1.size : Int), .int .i64 (runR s L).2.2.2]) (by simp [results, Try.results20, go_sem]) rfl ⟨u9, u10, rfl, h2, below_drewN hB _⟩
end Go.Proofs.Ytpfafgmafgfokaa
