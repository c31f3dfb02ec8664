/- hasStrayField: its contract, kind by kind. -/
import Derived.Test.YtgffbdkngnpfpaaDoorOMath
import Derived.Test.YtgffbdkngnpfpaaDoorWDone
namespace Go.Proofs.YtgffbdkngnpfpaaDoor
open Go.RowKit

theorem nil_list : (⟨#[]⟩ : ByteArray).toList = [] := by rw [toList_data]
theorem nilB_of {s : ByteArray} (h : s.toList = []) : nilB s = true := by unfold nilB; rw [h, nil_list]; rfl
theorem nilB_not {s : ByteArray} (h : ¬ s.toList = []) : nilB s = false := by unfold nilB; rw [nil_list, beq_eq_false_iff_ne]; exact h

set_option maxRecDepth 100000 in
set_option maxHeartbeats 2000000 in
theorem stray1 (d t wh no ta : ByteArray) (el pl ec pc : Nat) (EA PA : Option Addr) (tm : Int) (B : Bool) (hB : B = (decide (0 < el) || !nilB t || decide (0 < pl) || tm != 0 || !nilB ta || !nilB wh || !nilB no)) (w : World) :
    Calls Tryd.prog 44 #[.agg #[.int .i64 1, .string d, .slice EA el ec, .string t, .slice PA pl pc, .string wh, .string no, .int .i64 tm, .string ta]] w
      fun e w' => e = .returned (.bool B) ∧ Below w.heap.size w w' := by
  rcases Nat.eq_zero_or_pos el with rfl | pel
  case inr =>
    have qel : (0 : Int) < el := by omega
    obtain rfl : B = true := by rw [hB]; simp [*]
    clear hB
    go_enter Tryd.func44, Tryd.ntmps44
    simp only [List.append_eq, List.cons_append, List.nil_append]
    go_wp2_with fail
    go_quiet (fail)
    go_wp2_with fail
    go_ret
    exact ⟨rfl, below_drewN ((Below.refl _ _).alloc (Nat.le_refl _) _) _⟩
  by_cases ht : t.toList = []
  case neg =>
    rw [nilB_not ht] at hB
    obtain rfl : B = true := by rw [hB]; simp [*]
    clear hB
    go_enter Tryd.func44, Tryd.ntmps44
    simp only [List.append_eq, List.cons_append, List.nil_append]
    go_wp2_with fail
    go_quiet (fail)
    go_wp2_with fail
    go_ret
    exact ⟨rfl, below_drewN ((Below.refl _ _).alloc (Nat.le_refl _) _) _⟩
  rw [nilB_of ht] at hB
  rcases Nat.eq_zero_or_pos pl with rfl | ppl
  case inr =>
    have qpl : (0 : Int) < pl := by omega
    obtain rfl : B = true := by rw [hB]; simp [*]
    clear hB
    go_enter Tryd.func44, Tryd.ntmps44
    simp only [List.append_eq, List.cons_append, List.nil_append]
    go_wp2_with fail
    go_quiet (fail)
    go_wp2_with fail
    go_ret
    exact ⟨rfl, below_drewN ((Below.refl _ _).alloc (Nat.le_refl _) _) _⟩
  by_cases htm : tm = 0
  case neg =>
    have qtm : (tm != 0) = true := by rw [bne_iff_ne]; exact htm
    clear htm
    obtain rfl : B = true := by rw [hB]; simp [*]
    clear hB
    go_enter Tryd.func44, Tryd.ntmps44
    simp only [List.append_eq, List.cons_append, List.nil_append]
    go_wp2_with fail
    go_quiet (fail)
    go_wp2_with fail
    go_ret
    exact ⟨rfl, below_drewN ((Below.refl _ _).alloc (Nat.le_refl _) _) _⟩
  subst htm
  by_cases hta : ta.toList = []
  case neg =>
    rw [nilB_not hta] at hB
    obtain rfl : B = true := by rw [hB]; simp [*]
    clear hB
    go_enter Tryd.func44, Tryd.ntmps44
    simp only [List.append_eq, List.cons_append, List.nil_append]
    go_wp2_with fail
    go_quiet (fail)
    go_wp2_with fail
    go_ret
    exact ⟨rfl, below_drewN ((Below.refl _ _).alloc (Nat.le_refl _) _) _⟩
  rw [nilB_of hta] at hB
  by_cases hwh : wh.toList = []
  case neg =>
    rw [nilB_not hwh] at hB
    obtain rfl : B = true := by rw [hB]; simp [*]
    clear hB
    go_enter Tryd.func44, Tryd.ntmps44
    simp only [List.append_eq, List.cons_append, List.nil_append]
    go_wp2_with fail
    go_quiet (fail)
    go_wp2_with fail
    go_ret
    exact ⟨rfl, below_drewN ((Below.refl _ _).alloc (Nat.le_refl _) _) _⟩
  rw [nilB_of hwh] at hB
  by_cases hno : no.toList = []
  case neg =>
    rw [nilB_not hno] at hB
    have eno : no.toList.isEmpty = false := by simpa using hno
    obtain rfl : B = true := by rw [hB]; simp [*]
    clear hB
    go_enter Tryd.func44, Tryd.ntmps44
    simp only [List.append_eq, List.cons_append, List.nil_append]
    go_wp2_with fail
    go_quiet (fail)
    go_wp2_with fail
    go_ret
    exact ⟨rfl, below_drewN ((Below.refl _ _).alloc (Nat.le_refl _) _) _⟩
  rw [nilB_of hno] at hB
  obtain rfl : B = false := by rw [hB]; simp [*]
  clear hB
  go_enter Tryd.func44, Tryd.ntmps44
  simp only [List.append_eq, List.cons_append, List.nil_append]
  go_wp2_with fail
  go_quiet (fail)
  go_wp2_with fail
  go_ret
  exact ⟨rfl, below_drewN ((Below.refl _ _).alloc (Nat.le_refl _) _) _⟩
set_option maxRecDepth 100000 in
set_option maxHeartbeats 2000000 in
theorem stray2 (d t wh no ta : ByteArray) (el pl ec pc : Nat) (EA PA : Option Addr) (tm : Int) (B : Bool) (hB : B = (!nilB d || !nilB t || decide (0 < pl) || tm != 0 || !nilB ta || !nilB wh || !nilB no)) (w : World) :
    Calls Tryd.prog 44 #[.agg #[.int .i64 2, .string d, .slice EA el ec, .string t, .slice PA pl pc, .string wh, .string no, .int .i64 tm, .string ta]] w
      fun e w' => e = .returned (.bool B) ∧ Below w.heap.size w w' := by
  by_cases hd : d.toList = []
  case neg =>
    rw [nilB_not hd] at hB
    obtain rfl : B = true := by rw [hB]; simp [*]
    clear hB
    go_enter Tryd.func44, Tryd.ntmps44
    simp only [List.append_eq, List.cons_append, List.nil_append]
    go_wp2_with fail
    go_quiet (fail)
    go_wp2_with fail
    go_ret
    exact ⟨rfl, below_drewN ((Below.refl _ _).alloc (Nat.le_refl _) _) _⟩
  rw [nilB_of hd] at hB
  by_cases ht : t.toList = []
  case neg =>
    rw [nilB_not ht] at hB
    obtain rfl : B = true := by rw [hB]; simp [*]
    clear hB
    go_enter Tryd.func44, Tryd.ntmps44
    simp only [List.append_eq, List.cons_append, List.nil_append]
    go_wp2_with fail
    go_quiet (fail)
    go_wp2_with fail
    go_ret
    exact ⟨rfl, below_drewN ((Below.refl _ _).alloc (Nat.le_refl _) _) _⟩
  rw [nilB_of ht] at hB
  rcases Nat.eq_zero_or_pos pl with rfl | ppl
  case inr =>
    have qpl : (0 : Int) < pl := by omega
    obtain rfl : B = true := by rw [hB]; simp [*]
    clear hB
    go_enter Tryd.func44, Tryd.ntmps44
    simp only [List.append_eq, List.cons_append, List.nil_append]
    go_wp2_with fail
    go_quiet (fail)
    go_wp2_with fail
    go_ret
    exact ⟨rfl, below_drewN ((Below.refl _ _).alloc (Nat.le_refl _) _) _⟩
  by_cases htm : tm = 0
  case neg =>
    have qtm : (tm != 0) = true := by rw [bne_iff_ne]; exact htm
    clear htm
    obtain rfl : B = true := by rw [hB]; simp [*]
    clear hB
    go_enter Tryd.func44, Tryd.ntmps44
    simp only [List.append_eq, List.cons_append, List.nil_append]
    go_wp2_with fail
    go_quiet (fail)
    go_wp2_with fail
    go_ret
    exact ⟨rfl, below_drewN ((Below.refl _ _).alloc (Nat.le_refl _) _) _⟩
  subst htm
  by_cases hta : ta.toList = []
  case neg =>
    rw [nilB_not hta] at hB
    obtain rfl : B = true := by rw [hB]; simp [*]
    clear hB
    go_enter Tryd.func44, Tryd.ntmps44
    simp only [List.append_eq, List.cons_append, List.nil_append]
    go_wp2_with fail
    go_quiet (fail)
    go_wp2_with fail
    go_ret
    exact ⟨rfl, below_drewN ((Below.refl _ _).alloc (Nat.le_refl _) _) _⟩
  rw [nilB_of hta] at hB
  by_cases hwh : wh.toList = []
  case neg =>
    rw [nilB_not hwh] at hB
    obtain rfl : B = true := by rw [hB]; simp [*]
    clear hB
    go_enter Tryd.func44, Tryd.ntmps44
    simp only [List.append_eq, List.cons_append, List.nil_append]
    go_wp2_with fail
    go_quiet (fail)
    go_wp2_with fail
    go_ret
    exact ⟨rfl, below_drewN ((Below.refl _ _).alloc (Nat.le_refl _) _) _⟩
  rw [nilB_of hwh] at hB
  by_cases hno : no.toList = []
  case neg =>
    rw [nilB_not hno] at hB
    have eno : no.toList.isEmpty = false := by simpa using hno
    obtain rfl : B = true := by rw [hB]; simp [*]
    clear hB
    go_enter Tryd.func44, Tryd.ntmps44
    simp only [List.append_eq, List.cons_append, List.nil_append]
    go_wp2_with fail
    go_quiet (fail)
    go_wp2_with fail
    go_ret
    exact ⟨rfl, below_drewN ((Below.refl _ _).alloc (Nat.le_refl _) _) _⟩
  rw [nilB_of hno] at hB
  obtain rfl : B = false := by rw [hB]; simp [*]
  clear hB
  go_enter Tryd.func44, Tryd.ntmps44
  simp only [List.append_eq, List.cons_append, List.nil_append]
  go_wp2_with fail
  go_quiet (fail)
  go_wp2_with fail
  go_ret
  exact ⟨rfl, below_drewN ((Below.refl _ _).alloc (Nat.le_refl _) _) _⟩
set_option maxRecDepth 100000 in
set_option maxHeartbeats 2000000 in
theorem stray3 (d t wh no ta : ByteArray) (el pl ec pc : Nat) (EA PA : Option Addr) (tm : Int) (B : Bool) (hB : B = (!nilB d || decide (0 < el) || !nilB ta)) (w : World) :
    Calls Tryd.prog 44 #[.agg #[.int .i64 3, .string d, .slice EA el ec, .string t, .slice PA pl pc, .string wh, .string no, .int .i64 tm, .string ta]] w
      fun e w' => e = .returned (.bool B) ∧ Below w.heap.size w w' := by
  by_cases hd : d.toList = []
  case neg =>
    rw [nilB_not hd] at hB
    obtain rfl : B = true := by rw [hB]; simp [*]
    clear hB
    go_enter Tryd.func44, Tryd.ntmps44
    simp only [List.append_eq, List.cons_append, List.nil_append]
    go_wp2_with fail
    go_quiet (fail)
    go_wp2_with fail
    go_ret
    exact ⟨rfl, below_drewN ((Below.refl _ _).alloc (Nat.le_refl _) _) _⟩
  rw [nilB_of hd] at hB
  rcases Nat.eq_zero_or_pos el with rfl | pel
  case inr =>
    have qel : (0 : Int) < el := by omega
    obtain rfl : B = true := by rw [hB]; simp [*]
    clear hB
    go_enter Tryd.func44, Tryd.ntmps44
    simp only [List.append_eq, List.cons_append, List.nil_append]
    go_wp2_with fail
    go_quiet (fail)
    go_wp2_with fail
    go_ret
    exact ⟨rfl, below_drewN ((Below.refl _ _).alloc (Nat.le_refl _) _) _⟩
  by_cases hta : ta.toList = []
  case neg =>
    rw [nilB_not hta] at hB
    obtain rfl : B = true := by rw [hB]; simp [*]
    clear hB
    go_enter Tryd.func44, Tryd.ntmps44
    simp only [List.append_eq, List.cons_append, List.nil_append]
    go_wp2_with fail
    go_quiet (fail)
    go_wp2_with fail
    go_ret
    exact ⟨rfl, below_drewN ((Below.refl _ _).alloc (Nat.le_refl _) _) _⟩
  rw [nilB_of hta] at hB
  obtain rfl : B = false := by rw [hB]; simp [*]
  clear hB
  go_enter Tryd.func44, Tryd.ntmps44
  simp only [List.append_eq, List.cons_append, List.nil_append]
  go_wp2_with fail
  go_quiet (fail)
  go_wp2_with fail
  go_ret
  exact ⟨rfl, below_drewN ((Below.refl _ _).alloc (Nat.le_refl _) _) _⟩
set_option maxRecDepth 100000 in
set_option maxHeartbeats 2000000 in
theorem stray4 (d t wh no ta : ByteArray) (el pl ec pc : Nat) (EA PA : Option Addr) (tm : Int) (B : Bool) (hB : B = (!nilB d || decide (0 < el) || !nilB t || decide (0 < pl) || tm != 0)) (w : World) :
    Calls Tryd.prog 44 #[.agg #[.int .i64 4, .string d, .slice EA el ec, .string t, .slice PA pl pc, .string wh, .string no, .int .i64 tm, .string ta]] w
      fun e w' => e = .returned (.bool B) ∧ Below w.heap.size w w' := by
  by_cases hd : d.toList = []
  case neg =>
    rw [nilB_not hd] at hB
    obtain rfl : B = true := by rw [hB]; simp [*]
    clear hB
    go_enter Tryd.func44, Tryd.ntmps44
    simp only [List.append_eq, List.cons_append, List.nil_append]
    go_wp2_with fail
    go_quiet (fail)
    go_wp2_with fail
    go_ret
    exact ⟨rfl, below_drewN ((Below.refl _ _).alloc (Nat.le_refl _) _) _⟩
  rw [nilB_of hd] at hB
  rcases Nat.eq_zero_or_pos el with rfl | pel
  case inr =>
    have qel : (0 : Int) < el := by omega
    obtain rfl : B = true := by rw [hB]; simp [*]
    clear hB
    go_enter Tryd.func44, Tryd.ntmps44
    simp only [List.append_eq, List.cons_append, List.nil_append]
    go_wp2_with fail
    go_quiet (fail)
    go_wp2_with fail
    go_ret
    exact ⟨rfl, below_drewN ((Below.refl _ _).alloc (Nat.le_refl _) _) _⟩
  by_cases ht : t.toList = []
  case neg =>
    rw [nilB_not ht] at hB
    obtain rfl : B = true := by rw [hB]; simp [*]
    clear hB
    go_enter Tryd.func44, Tryd.ntmps44
    simp only [List.append_eq, List.cons_append, List.nil_append]
    go_wp2_with fail
    go_quiet (fail)
    go_wp2_with fail
    go_ret
    exact ⟨rfl, below_drewN ((Below.refl _ _).alloc (Nat.le_refl _) _) _⟩
  rw [nilB_of ht] at hB
  rcases Nat.eq_zero_or_pos pl with rfl | ppl
  case inr =>
    have qpl : (0 : Int) < pl := by omega
    obtain rfl : B = true := by rw [hB]; simp [*]
    clear hB
    go_enter Tryd.func44, Tryd.ntmps44
    simp only [List.append_eq, List.cons_append, List.nil_append]
    go_wp2_with fail
    go_quiet (fail)
    go_wp2_with fail
    go_ret
    exact ⟨rfl, below_drewN ((Below.refl _ _).alloc (Nat.le_refl _) _) _⟩
  by_cases htm : tm = 0
  case neg =>
    have qtm : (tm != 0) = true := by rw [bne_iff_ne]; exact htm
    clear htm
    obtain rfl : B = true := by rw [hB]; simp [*]
    clear hB
    go_enter Tryd.func44, Tryd.ntmps44
    simp only [List.append_eq, List.cons_append, List.nil_append]
    go_wp2_with fail
    go_quiet (fail)
    go_wp2_with fail
    go_ret
    exact ⟨rfl, below_drewN ((Below.refl _ _).alloc (Nat.le_refl _) _) _⟩
  subst htm
  obtain rfl : B = false := by rw [hB]; simp [*]
  clear hB
  go_enter Tryd.func44, Tryd.ntmps44
  simp only [List.append_eq, List.cons_append, List.nil_append]
  go_wp2_with fail
  go_quiet (fail)
  go_wp2_with fail
  go_ret
  exact ⟨rfl, below_drewN ((Below.refl _ _).alloc (Nat.le_refl _) _) _⟩
end Go.Proofs.YtgffbdkngnpfpaaDoor
