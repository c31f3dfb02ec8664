/- strings.CutPrefix, slices.BinarySearch at []string: their contracts, laid at this program; store.idOf. -/
import Derived.Test.YtmikfmcgddmplaaGreatDoorOApp
import Derived.Test.YtmikfmcgddmplaaGreatDoorUnhexW
import Derived.Shelf.Small.Wraps
import Derived.Shelf.Spec.SearchS
namespace Go.Proofs.YtmikfmcgddmplaaGreatDoor
open Go.RowKit

def cutRen : Go.Shelf.Ren := ⟨fun
  | 103 => 57
  | 206 => 139
  | 210 => 100
  | n => n, fun
  | 3 => 3
  | 4 => 4
  | 9 => 9
  | 24 => 60
  | n => n, fun n => n⟩
theorem cutLays : Go.Proofs.Lays.n103 Tryz.prog cutRen := {
  mixed := by kernel_rfl
  f103 := by kernel_rfl
  f206 := by kernel_rfl
  f210 := by kernel_rfl
  t3 := by kernel_rfl
  a3 := fun w => by kernel_rfl
  z3 := fun w => by kernel_rfl
  v3 := fun w => by kernel_rfl
  t4 := by kernel_rfl
  a4 := fun w => by kernel_rfl
  z4 := fun w => by kernel_rfl
  v4 := fun w => by kernel_rfl
  t9 := by kernel_rfl
  a9 := fun w => by kernel_rfl
  z9 := fun w => by kernel_rfl
  v9 := fun w => by kernel_rfl
  t24 := by kernel_rfl
  a24 := fun w => by kernel_rfl
  z24 := fun w => by kernel_rfl
  v24 := fun w => by kernel_rfl
}
def searchRen : Go.Shelf.Ren := ⟨fun
  | 26 => 33
  | 33 => 59
  | 34 => 60
  | 38 => 102
  | n => n, fun
  | 0 => 0
  | 3 => 3
  | 4 => 4
  | 9 => 9
  | 24 => 22
  | 40 => 82
  | n => n, fun n => n⟩
theorem searchLays : Go.Proofs.Lays2.n26 Tryz.prog searchRen := {
  mixed := by kernel_rfl
  f26 := by kernel_rfl
  f33 := by kernel_rfl
  f34 := by kernel_rfl
  f38 := by kernel_rfl
  t0 := by kernel_rfl
  a0 := fun w => by kernel_rfl
  z0 := fun w => by kernel_rfl
  v0 := fun w => by kernel_rfl
  t3 := by kernel_rfl
  a3 := fun w => by kernel_rfl
  z3 := fun w => by kernel_rfl
  v3 := fun w => by kernel_rfl
  t4 := by kernel_rfl
  a4 := fun w => by kernel_rfl
  z4 := fun w => by kernel_rfl
  v4 := fun w => by kernel_rfl
  t9 := by kernel_rfl
  a9 := fun w => by kernel_rfl
  z9 := fun w => by kernel_rfl
  v9 := fun w => by kernel_rfl
  t24 := by kernel_rfl
  a24 := fun w => by kernel_rfl
  z24 := fun w => by kernel_rfl
  v24 := fun w => by kernel_rfl
  t40 := by kernel_rfl
  a40 := fun w => by kernel_rfl
  z40 := fun w => by kernel_rfl
  v40 := fun w => by kernel_rfl
}
theorem cut_any (s p : ByteArray) (w : World) : Calls Tryz.prog 57 #[.string s, .string p] w fun e w' =>
    e = .returned (.tuple #[.string ⟨(Lib.trimPrefix s.data.toList p.data.toList).toArray⟩, .bool (Lib.hasPrefix s.data.toList p.data.toList)]) ∧ w' = w := Go.Proofs.Any.strings_CutPrefix cutLays s p w
/-- the id of which a file has its name -/
def idP (s : ByteArray) : ByteArray × Bool :=
  if Lib.hasPrefix s.data.toList [111] = true ∧ s.size = 65 then match unpair (s.data.toList.drop 1) with
    | some p => (bs p, true)
    | none => (⟨#[]⟩, false)
  else (⟨#[]⟩, false)
theorem idOf_any (s : ByteArray) (hs : s.size ≤ 140737488355328) (w : World) : Calls Tryz.prog 32 #[.string s] w fun e w' => e = .returned (.tuple #[.string (idP s).1, .bool (idP s).2]) ∧ Below w.heap.size w w' := by
  have HP : Hid (idP s = if Lib.hasPrefix s.data.toList [111] = true ∧ s.size = 65 then match unpair (s.data.toList.drop 1) with
    | some p => (bs p, true)
    | none => (⟨#[]⟩, false)
  else (⟨#[]⟩, false)) := rfl
  have C1 : Hid (Calls Tryz.prog 57 #[.string s, .string ⟨#[111]⟩] w fun e w' => e = .returned (.tuple #[.string ⟨(Lib.trimPrefix s.data.toList [111]).toArray⟩, .bool (Lib.hasPrefix s.data.toList [111])]) ∧ w' = w) := cut_any s ⟨#[111]⟩ w
  generalize idP s = Q at *
  have hsz : s.data.toList.length = s.size := rfl
  cases hp : Lib.hasPrefix s.data.toList [111] with
  | false =>
    rw [hp] at C1
    have HQ : Hid (Q = (⟨#[]⟩, false)) := by show _ = _; rw [HP.out, if_neg (by rw [hp]; simp)]
    clear HP hp
    go_enter Tryz.func32, Tryz.ntmps32
    go_wp2_with fail
    (with_reducible refine C1.out.mono ?_)
    rintro _ _ ⟨rfl, rfl⟩
    go_wp2_with fail
    go_ret2
    exact ⟨by rw [HQ.out]; rfl, Below.refl _ _⟩
  | true =>
    rw [hp] at C1
    have ht : Lib.trimPrefix s.data.toList [111] = s.data.toList.drop 1 := by unfold Lib.trimPrefix; rw [if_pos hp]; rfl
    rw [ht] at C1
    have hdl : (⟨(s.data.toList.drop 1).toArray⟩ : ByteArray).size = s.size - 1 := by
      show (s.data.toList.drop 1).toArray.size = _
      rw [List.size_toArray, List.length_drop, hsz]
    have hp1 : 1 ≤ s.size := by
      rw [← hsz]
      cases hl : s.data.toList with
      | nil => rw [hl] at hp; exact absurd hp (by decide)
      | cons a l => simp
    have HU : Hid (unpair (s.data.toList.drop 1) = unpair (⟨(s.data.toList.drop 1).toArray⟩ : ByteArray).data.toList) := rfl
    by_cases h65 : s.size = 65
    · have CU := Lib.hid (Unhex_any (⟨(s.data.toList.drop 1).toArray⟩ : ByteArray) (by rw [hdl]; omega) w)
      rw [← HU.out] at CU
      have hd64 : (⟨(s.data.toList.drop 1).toArray⟩ : ByteArray).size = 64 := by omega
      have HP2 : Hid (Q = match unpair (s.data.toList.drop 1) with | some p => (bs p, true) | none => (⟨#[]⟩, false)) := by show _ = _; rw [HP.out, if_pos ⟨hp, h65⟩]
      clear HP hp ht HU hdl
      generalize (⟨(s.data.toList.drop 1).toArray⟩ : ByteArray) = D at *
      have hne : ((D.size : Int) != 64) = false := by rw [hd64]; rfl
      cases hu : unpair (s.data.toList.drop 1) with
      | none =>
        rw [hu] at CU
        have HQ : Hid (Q = (⟨#[]⟩, false)) := by show _ = _; rw [HP2.out, hu]
        clear HP2 hu
        go_enter Tryz.func32, Tryz.ntmps32
        go_wp2_with fail
        (with_reducible refine C1.out.mono ?_)
        rintro _ _ ⟨rfl, rfl⟩
        go_wp2_with fail
        (with_reducible refine CU.out.mono ?_)
        rintro _ W2 ⟨hr, b2⟩
        obtain rfl := hr
        go_wp2_with fail
        go_ret2
        exact ⟨by rw [HQ.out]; rfl, b2⟩
      | some p =>
        rw [hu] at CU
        have HQ : Hid (Q = (bs p, true)) := by show _ = _; rw [HP2.out, hu]
        clear HP2 hu
        go_enter Tryz.func32, Tryz.ntmps32
        go_wp2_with fail
        (with_reducible refine C1.out.mono ?_)
        rintro _ _ ⟨rfl, rfl⟩
        go_wp2_with fail
        (with_reducible refine CU.out.mono ?_)
        rintro _ W2 ⟨hr, b2⟩
        obtain rfl := hr
        go_wp2_with fail
        go_ret2
        exact ⟨by rw [HQ.out]; rfl, b2⟩
    · have HQ : Hid (Q = (⟨#[]⟩, false)) := by show _ = _; rw [HP.out, if_neg (fun h => h65 h.2)]
      have hne : (((⟨(s.data.toList.drop 1).toArray⟩ : ByteArray).size : Int) != 64) = true := by rw [hdl, bne_iff_ne]; omega
      clear HP hp ht HU hdl h65
      generalize (⟨(s.data.toList.drop 1).toArray⟩ : ByteArray) = D at *
      go_enter Tryz.func32, Tryz.ntmps32
      go_wp2_with fail
      (with_reducible refine C1.out.mono ?_)
      rintro _ _ ⟨rfl, rfl⟩
      go_wp2_with fail
      go_ret2
      exact ⟨by rw [HQ.out]; rfl, Below.refl _ _⟩
end Go.Proofs.YtmikfmcgddmplaaGreatDoor
