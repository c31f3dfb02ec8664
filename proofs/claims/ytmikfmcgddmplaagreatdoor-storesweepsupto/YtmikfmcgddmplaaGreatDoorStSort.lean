/- slices.Sort at []string: its contract, laid at this program. -/
import Derived.Test.YtmikfmcgddmplaaGreatDoorStReachP
import Derived.Shelf.Sort.Plain
import Derived.Shelf.Small.Bits
import Derived.Sort.OwnSorted
namespace Go.Proofs.YtmikfmcgddmplaaGreatDoor
open Go.RowKit

def sortRen : Go.Shelf.Ren := ⟨fun
  | 125 => 43
  | 128 => 85
  | 129 => 86
  | 190 => 24
  | 258 => 42
  | 302 => 77
  | 303 => 78
  | 304 => 79
  | 305 => 80
  | 306 => 81
  | 307 => 82
  | 308 => 59
  | 309 => 83
  | 310 => 84
  | 329 => 121
  | 330 => 122
  | 333 => 120
  | 334 => 123
  | 335 => 124
  | 336 => 102
  | 344 => 146
  | n => n, fun
  | 0 => 0
  | 3 => 3
  | 4 => 4
  | 5 => 5
  | 9 => 9
  | 31 => 22
  | 46 => 82
  | 51 => 84
  | 53 => 124
  | 131 => 70
  | 182 => 116
  | 183 => 117
  | 218 => 152
  | 222 => 156
  | 228 => 172
  | 229 => 173
  | n => n, fun n => n⟩
set_option maxRecDepth 100000 in
theorem sortLays : Go.Proofs.Lays.n190 Tryz.prog sortRen := {
  mixed := by kernel_rfl
  f125 := by kernel_rfl
  f128 := by kernel_rfl
  f129 := by kernel_rfl
  f190 := by kernel_rfl
  f258 := by kernel_rfl
  f302 := by kernel_rfl
  f303 := by kernel_rfl
  f304 := by kernel_rfl
  f305 := by kernel_rfl
  f306 := by kernel_rfl
  f307 := by kernel_rfl
  f308 := by kernel_rfl
  f309 := by kernel_rfl
  f310 := by kernel_rfl
  f329 := by kernel_rfl
  f330 := by kernel_rfl
  f333 := by kernel_rfl
  f334 := by kernel_rfl
  f335 := by kernel_rfl
  f336 := by kernel_rfl
  f344 := by kernel_rfl
  t0 := by kernel_rfl
  a0 := fun w => by kernel_rfl
  z0 := fun w => by kernel_rfl
  v0 := fun w => by kernel_rfl
  t3 := by kernel_rfl
  a3 := fun w => by kernel_rfl
  z3 := fun w => by kernel_rfl
  v3 := fun w => by kernel_rfl
  t4 := by kernel_rfl
  a4 := fun w => by kernel_rfl
  z4 := fun w => by kernel_rfl
  v4 := fun w => by kernel_rfl
  t5 := by kernel_rfl
  a5 := fun w => by kernel_rfl
  z5 := fun w => by kernel_rfl
  v5 := fun w => by kernel_rfl
  t9 := by kernel_rfl
  a9 := fun w => by kernel_rfl
  z9 := fun w => by kernel_rfl
  v9 := fun w => by kernel_rfl
  t31 := by kernel_rfl
  a31 := fun w => by kernel_rfl
  z31 := fun w => by kernel_rfl
  v31 := fun w => by kernel_rfl
  t46 := by kernel_rfl
  a46 := fun w => by kernel_rfl
  z46 := fun w => by kernel_rfl
  v46 := fun w => by kernel_rfl
  t51 := by kernel_rfl
  a51 := fun w => by kernel_rfl
  z51 := fun w => by kernel_rfl
  v51 := fun w => by kernel_rfl
  t53 := by kernel_rfl
  a53 := fun w => by kernel_rfl
  z53 := fun w => by kernel_rfl
  v53 := fun w => by kernel_rfl
  t131 := by kernel_rfl
  a131 := fun w => by kernel_rfl
  z131 := fun w => by kernel_rfl
  v131 := fun w => by kernel_rfl
  t182 := by kernel_rfl
  a182 := fun w => by kernel_rfl
  z182 := fun w => by kernel_rfl
  v182 := fun w => by kernel_rfl
  t183 := by kernel_rfl
  a183 := fun w => by kernel_rfl
  z183 := fun w => by kernel_rfl
  v183 := fun w => by kernel_rfl
  t218 := by kernel_rfl
  a218 := fun w => by kernel_rfl
  z218 := fun w => by kernel_rfl
  v218 := fun w => by kernel_rfl
  t222 := by kernel_rfl
  a222 := fun w => by kernel_rfl
  z222 := fun w => by kernel_rfl
  v222 := fun w => by kernel_rfl
  t228 := by kernel_rfl
  a228 := fun w => by kernel_rfl
  z228 := fun w => by kernel_rfl
  v228 := fun w => by kernel_rfl
  t229 := by kernel_rfl
  a229 := fun w => by kernel_rfl
  z229 := fun w => by kernel_rfl
  v229 := fun w => by kernel_rfl
}
theorem lenLays : Go.Proofs.Lays.n125 Tryz.prog sortRen := {
  mixed := sortLays.mixed
  f125 := sortLays.f125
  f128 := sortLays.f128
  f129 := sortLays.f129
  t3 := sortLays.t3
  a3 := sortLays.a3
  z3 := sortLays.z3
  v3 := sortLays.v3
  t4 := sortLays.t4
  a4 := sortLays.a4
  z4 := sortLays.z4
  v4 := sortLays.v4
  t5 := sortLays.t5
  a5 := sortLays.a5
  z5 := sortLays.z5
  v5 := sortLays.v5
  t9 := sortLays.t9
  a9 := sortLays.a9
  z9 := sortLays.z9
  v9 := sortLays.v9
  t46 := sortLays.t46
  a46 := sortLays.a46
  z46 := sortLays.z46
  v46 := sortLays.v46
  t51 := sortLays.t51
  a51 := sortLays.a51
  z51 := sortLays.z51
  v51 := sortLays.v51
  t53 := sortLays.t53
  a53 := sortLays.a53
  z53 := sortLays.z53
  v53 := sortLays.v53
}
theorem len_zero (w : World) : Calls Tryz.prog 43 #[.int .u64 0] w fun e w' => e = .returned (.int .i64 0) ∧ w' = w := by
  have q := Go.Proofs.Any.bits_Len lenLays 0 w (by omega) (by omega)
  exact q
theorem isort_none (w : World) : Calls Tryz.prog 77 #[.slice none 0 0, .int .i64 0, .int .i64 0] w fun e w' => e = .returned (.tuple #[]) ∧ w' = w := by
  go_enter Tryz.func77, Tryz.ntmps77
  go_wp2
  refine wp_loop_rounds 1 ?_
  rw [rounds_succ]
  go_wp2
  go_end0
  exact ⟨rfl, rfl⟩
set_option maxRecDepth 100000 in
theorem pdq_none (w : World) : Calls Tryz.prog 42 #[.slice none 0 0, .int .i64 0, .int .i64 0, .int .i64 0] w fun e w' => e = .returned (.tuple #[]) ∧ w' = w := by
  go_enter Tryz.func42, Tryz.ntmps42
  go_wp2
  refine wp_loop_rounds 1 ?_
  rw [rounds_succ]
  go_wp2_with (first | (go_at_call 77; refine (isort_none _).mono ?_; rintro e w' ⟨rfl, rfl⟩))
  refine bodyPost_ret (results_none rfl _ _ _) rfl ?_
  exact ⟨rfl, rfl⟩
set_option maxRecDepth 100000 in
theorem sort_none (w : World) : Calls Tryz.prog 24 #[.slice none 0 0] w fun e w' => e = .returned (.tuple #[]) ∧ w' = w := by
  go_enter Tryz.func24, Tryz.ntmps24
  go_wp2_with (first
    | (go_at_call 43; refine (len_zero _).mono ?_; rintro e w' ⟨rfl, rfl⟩)
    | (go_at_call 42; refine (pdq_none _).mono ?_; rintro e w' ⟨rfl, rfl⟩))
  go_end0
  exact ⟨rfl, rfl⟩
theorem enc_list (T : List ByteArray) : (T.map fun x => x.data.toList).map Go.Proofs.encStr = T.map sv := by
  rw [List.map_map]
  refine List.map_congr_left fun x _ => ?_
  rfl
theorem enc_back2 (L : List (List UInt8)) : (L.map bs).map sv = L.map Go.Proofs.encStr := by
  rw [List.map_map]
  refine List.map_congr_left fun x _ => ?_
  rfl
theorem sort_said : SortSaid := fun T v base W hrow hl => by
  rcases hrow.2 with ⟨rfl, hn⟩ | ⟨g, cap, cur, rfl, hb, hg, hnc, hcm, hcs, htake⟩
  · have e : T = [] := List.eq_nil_of_length_eq_zero hn
    subst e
    refine (sort_none W).mono fun x w' ⟨h1, h2⟩ => ⟨h1, ?_, ?_⟩
    · subst h2; exact ⟨by simp [sortB], .inl ⟨rfl, rfl⟩⟩
    · subst h2; exact World.grownBy.refl _ _
  · have hlm : (T.map fun x => x.data.toList).length = T.length := List.length_map _
    have hH := Go.holds_of_block (ss := T.map fun x => x.data.toList) hg (by rw [hlm, enc_list, ← htake, Nat.mul_one])
    have q := Go.Proofs.Any.slices_Sort_string sortLays g 0 cap (T.map fun x => x.data.toList) W hH (Array.getElem?_eq_some_iff.1 hg).1 (by rw [hlm]; omega)
    rw [hlm] at q
    refine Calls.mono (show Calls Tryz.prog 24 #[.slice (some ⟨g, 0, none⟩) T.length cap] W _ from q) ?_
    rintro x w' ⟨h1, n, os, rfl⟩
    refine ⟨h1, ?_, Go.grownBy_sorted _⟩
    have h3 := Go.ownsRow_sorted (n := n) (os := os) (ss := T.map fun x => x.data.toList) (ts := (T.map fun x => x.data.toList).mergeSort fun x y => decide (x ≤ y)) (by rw [List.length_mergeSort]) hb hg (by rw [hlm]; exact hnc) hcm hcs
    rw [hlm] at h3
    unfold sortB
    rw [enc_back2]
    exact h3
end Go.Proofs.YtmikfmcgddmplaaGreatDoor
