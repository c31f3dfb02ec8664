/- Texts in one: MkClash, MkClashB, OPick. -/
import Derived.Test.YtlokfeoihnlkkaaDoorOSame
import Derived.Test.YtlokfeoihnlkkaaDoorProg
import Derived.Test.YtlokfeoihnlkkaaDoorMem
/- slices.Equal at []string, merkle.clash, Clash: their contracts. -/
namespace Go.Proofs.YtlokfeoihnlkkaaDoor
open Go.RowKit

/-- what clash leaves: two unlike texts with one sum -/
def XEnd (w : World) (e : Ending) (w' : World) : Prop := ∃ x y, e = .returned (.tuple #[.string x, .string y]) ∧ x ≠ y ∧ dg x = dg y ∧ x.size ≤ 281474976710656 ∧ y.size ≤ 281474976710656 ∧ Below w.heap.size w w'
theorem app_inj {a b c d : ByteArray} (h : a ++ b = c ++ d) (hl : a.size = c.size) : a = c ∧ b = d := by
  have h1 : (a ++ b).data.toList = (c ++ d).data.toList := by rw [h]
  rw [append_list, append_list] at h1
  have h2 := List.append_inj h1 (by simpa using hl)
  exact ⟨bytes_eq h2.1, bytes_eq h2.2⟩
theorem leafT_inj {a b : ByteArray} (h : leafT a = leafT b) : a = b := (app_inj h rfl).2
theorem nodeT_inj {a b c d : ByteArray} (h : nodeT a b = nodeT c d) (hl : a.size = c.size) : a = c ∧ b = d := by
  unfold nodeT at h
  have h1 := app_inj h (by rw [ByteArray.size_append, ByteArray.size_append, hl])
  exact ⟨(app_inj h1.1 rfl).2, h1.2⟩
theorem leafT_big (a : ByteArray) (h : a.size ≤ 140737488355328) : (leafT a).size ≤ 281474976710656 := by
  unfold leafT; rw [ByteArray.size_append, show (⟨#[0]⟩ : ByteArray).size = 1 from rfl]; omega
theorem nodeT_big (a b : ByteArray) (ha : a.size = 32) (hb : b.size = 32) : (nodeT a b).size ≤ 281474976710656 := by
  unfold nodeT; rw [ByteArray.size_append, ByteArray.size_append, show (⟨#[1]⟩ : ByteArray).size = 1 from rfl]; omega
theorem leafText_q (s : ByteArray) (hs : s.size ≤ 281474976710656) (w : World) :
    Calls Tryd.prog 30 #[.string s] w fun e w' => e = .returned (.string (leafT s)) ∧ w' = w := (leafText_any s hs w).mono fun _ _ ⟨a, b⟩ => ⟨a, b.symm⟩
end Go.Proofs.YtlokfeoihnlkkaaDoor

/- merkle.Clash: its contract; keep.clash, keep.half, ref.parting. -/
namespace Go.Proofs.YtlokfeoihnlkkaaDoor
open Go.RowKit

/-- what Clash leaves where there is none -/
def NEnd (w : World) (e : Ending) (w' : World) : Prop := e = .returned (.tuple #[.string ⟨#[]⟩, .string ⟨#[]⟩]) ∧ Below w.heap.size w w'
/-- do two unlike texts have one sum -/
def clashB (a b : ByteArray) : Bool := decide (a ≠ b ∧ dg a = dg b)
/-- where the search for the parting stands -/
def PtRel (n : Nat) (w : World) (a : Value) (wr : World) : Prop := ∃ j : Nat, a = .int .i64 ((2 ^ j : Nat) : Int) ∧ 2 ^ j < n ∧ wr = w
set_option maxRecDepth 100000 in
theorem parting_any (n : Nat) (h2 : 2 ≤ n) (hn : n ≤ 4611686018427387904) (w : World) :
    Calls Tryd.prog 20 #[.int .i64 (n : Int)] w fun e w' => e = .returned (.int .i64 ((spl n : Nat) : Int)) ∧ w' = w := by
  have h1 : Hid (PtRel n w (.int .i64 1) w) := ⟨0, rfl, by omega, rfl⟩
  go_enter Tryd.func20, Tryd.ntmps20
  go_wp2_with fail
  go_loopw [3] (fun a wr => PtRel n w a wr) (fun a _ => n - (intOf a).toNat)
  case atStart => exact h1.out
  case round =>
    clear h1
    obtain ⟨j, rfl, hj, rfl⟩ := hrel
    have hp := Nat.two_pow_pos j
    have HJ := Lib.hid (spl_of (n := n) hj)
    have HP : Hid (2 ^ (j + 1) = 2 ^ j * 2) := Nat.pow_succ 2 j
    by_cases hlt : 2 ^ j * 2 < n
    · generalize hx : 2 ^ j = x at *
      clear hx
      have hlt2 : (x : Int) + x < n := by omega
      go_wp2_with fail
      refine ⟨⟨j + 1, ?_, by rw [HP.out]; exact hlt, rfl⟩, by simp [intOf]; omega⟩
      rw [HP.out]
      congr 1
      omega
    · have he : Hid (spl n = 2 ^ j) := HJ.out (by rw [HP.out]; omega)
      generalize hx : 2 ^ j = x at *
      clear hx HJ HP
      have hlt2 : ¬ ((x : Int) + x < n) := by omega
      go_wp2_with fail
      go_ret
      exact ⟨by rw [he.out]; rfl, rfl⟩
end Go.Proofs.YtlokfeoihnlkkaaDoor

/- keep.pick: its contract. -/
namespace Go.Proofs.YtlokfeoihnlkkaaDoor
open Go.RowKit

def pk (k n : Int) : Int := if k.tmod n < 0 then k.tmod n + n else k.tmod n
theorem pk_in (k : Int) (n : Nat) (hn : 0 < n) : 0 ≤ pk k n ∧ pk k n < n := by
  have h1 := Int.tmod_lt_of_pos k (b := (n : Int)) (by omega)
  have h2 := Int.lt_tmod_of_pos k (b := (n : Int)) (by omega)
  unfold pk
  split <;> omega
end Go.Proofs.YtlokfeoihnlkkaaDoor
