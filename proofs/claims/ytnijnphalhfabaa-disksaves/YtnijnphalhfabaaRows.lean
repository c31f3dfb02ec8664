/-
  No cell of these rows narrows 'for every input' (looked for: loops, veiled, ifaces, maps, wideKeys, modest, calm, conditions, laid).
  DERIVED. THE GIVEN ROWS OF THIS SEAT. 7 by the template 'for every input the law returns true; each argument reads behind the call as it read before'; 0 by the template 'total and deterministic' (their statements: YtnijnphalhfabaaTotals.lean).
  GIVEN WITH THE SEED: the statements are not yours to turn. If you find one false, say at which input.
  Laid BY PROGRAM, IN A SANDBOX (cutbox-rows.mjs): the forced cells as the released guide's own fill.sh prints them over the translation d29aa3f59e7faf50… (all of the seat's roots in one cut). By AI agents, Wed Nov 11 2026. No macro, syntax, notation, axiom, sorry.
-/
import Derived.Test.YtnijnphalhfabaaChecked
import GoSem.Claim
import GoSem.ClaimJoined
import GoSem.ClaimMapViews
import Derived.JoinedTies
import Derived.KernelRfl
namespace Go.Proofs.Ytnijnphalhfabaa
/- THE CELL 'sum', in the pinned program and in every row, IS THE sha256 OF THE DUMP (.gsa) THAT YtnijnphalhfabaaProg.lean LOADS. Nothing in Lean hashes anything: it is a label: what it is worth is what the hold of that sum in a sandbox is worth. -/
noncomputable def Try.pinned : Pinned := { name := "ytnijnphalhfabaa", sum := "d29aa3f59e7faf5042e65bbe66fa7a73954027bd1bedd9b5f83dec3df7f6e9d5", checked := Try.checked }
namespace Rows
def none {H : Type} : Left H := { results := [], args := [] }

/-- 'cartularylaw.DiskSteps': WHATEVER THE INPUT: true; the input reads as it did. -/
def diskStepsSpec : ChangeSpec := { name := "diskSteps", fn := fun _ => fun
  | [d1, d2, d3, d4] => { results := [.lit (.bool true)], args := [d1, d2, d3, d4] }
  | _ => none }
def diskStepsRow : OpenClaim := { program := "ytnijnphalhfabaa", sum := "d29aa3f59e7faf5042e65bbe66fa7a73954027bd1bedd9b5f83dec3df7f6e9d5", func := "cartulary/cartularylaw.DiskSteps", spec := "diskSteps", inPlace := ["internal/bytealg.abigen_runtime_cmpstring", "slices.overlaps[cartulary/api.File]"], unfollowed := true, recurses := true, apart := false }
def DiskStepsSaid : Prop := diskStepsRow.holds Try.pinned (OpenSpec.ofChange diskStepsSpec)

/-- ITS FALSE NEIGHBOUR: 'it returns false'. Refute it at one input. -/
def diskStepsWrong : ChangeSpec := { name := "diskSteps", fn := fun _ => fun
  | [d1, d2, d3, d4] => { results := [.lit (.bool false)], args := [d1, d2, d3, d4] }
  | _ => none }
def DiskStepsWrongFalsely : Prop := diskStepsRow.holds Try.pinned (OpenSpec.ofChange diskStepsWrong)

/-- 'cartularylaw.DiskReads': WHATEVER THE INPUT: true; the input reads as it did. -/
def diskReadsSpec : ChangeSpec := { name := "diskReads", fn := fun _ => fun
  | [d1, d2, d3] => { results := [.lit (.bool true)], args := [d1, d2, d3] }
  | _ => none }
def diskReadsRow : OpenClaim := { program := "ytnijnphalhfabaa", sum := "d29aa3f59e7faf5042e65bbe66fa7a73954027bd1bedd9b5f83dec3df7f6e9d5", func := "cartulary/cartularylaw.DiskReads", spec := "diskReads", inPlace := ["internal/bytealg.abigen_runtime_cmpstring", "slices.overlaps[cartulary/api.File]"], unfollowed := true, recurses := true, apart := false }
def DiskReadsSaid : Prop := diskReadsRow.holds Try.pinned (OpenSpec.ofChange diskReadsSpec)

/-- ITS FALSE NEIGHBOUR: 'it returns false'. Refute it at one input. -/
def diskReadsWrong : ChangeSpec := { name := "diskReads", fn := fun _ => fun
  | [d1, d2, d3] => { results := [.lit (.bool false)], args := [d1, d2, d3] }
  | _ => none }
def DiskReadsWrongFalsely : Prop := diskReadsRow.holds Try.pinned (OpenSpec.ofChange diskReadsWrong)

/-- 'cartularylaw.DiskSaves': WHATEVER THE INPUT: true; the input reads as it did. -/
def diskSavesSpec : ChangeSpec := { name := "diskSaves", fn := fun _ => fun
  | [d1, d2, d3] => { results := [.lit (.bool true)], args := [d1, d2, d3] }
  | _ => none }
def diskSavesRow : OpenClaim := { program := "ytnijnphalhfabaa", sum := "d29aa3f59e7faf5042e65bbe66fa7a73954027bd1bedd9b5f83dec3df7f6e9d5", func := "cartulary/cartularylaw.DiskSaves", spec := "diskSaves", inPlace := ["internal/bytealg.abigen_runtime_cmpstring", "slices.overlaps[cartulary/api.File]"], unfollowed := true, recurses := true, apart := false }
def DiskSavesSaid : Prop := diskSavesRow.holds Try.pinned (OpenSpec.ofChange diskSavesSpec)

/-- ITS FALSE NEIGHBOUR: 'it returns false'. Refute it at one input. -/
def diskSavesWrong : ChangeSpec := { name := "diskSaves", fn := fun _ => fun
  | [d1, d2, d3] => { results := [.lit (.bool false)], args := [d1, d2, d3] }
  | _ => none }
def DiskSavesWrongFalsely : Prop := diskSavesRow.holds Try.pinned (OpenSpec.ofChange diskSavesWrong)

/-- 'cartularykeep.DiskAtomic': WHATEVER THE INPUT: true; the input reads as it did. -/
def diskAtomicSpec : ChangeSpec := { name := "diskAtomic", fn := fun _ => fun
  | [d1, d2, d3, d4, d5] => { results := [.lit (.bool true)], args := [d1, d2, d3, d4, d5] }
  | _ => none }
def diskAtomicRow : OpenClaim := { program := "ytnijnphalhfabaa", sum := "d29aa3f59e7faf5042e65bbe66fa7a73954027bd1bedd9b5f83dec3df7f6e9d5", func := "cartulary/cartularykeep.DiskAtomic", spec := "diskAtomic", inPlace := ["internal/bytealg.abigen_runtime_cmpstring", "slices.overlaps[cartulary/api.File]"], unfollowed := true, recurses := true, apart := false }
def DiskAtomicSaid : Prop := diskAtomicRow.holds Try.pinned (OpenSpec.ofChange diskAtomicSpec)

/-- ITS FALSE NEIGHBOUR: 'it returns false'. Refute it at one input. -/
def diskAtomicWrong : ChangeSpec := { name := "diskAtomic", fn := fun _ => fun
  | [d1, d2, d3, d4, d5] => { results := [.lit (.bool false)], args := [d1, d2, d3, d4, d5] }
  | _ => none }
def DiskAtomicWrongFalsely : Prop := diskAtomicRow.holds Try.pinned (OpenSpec.ofChange diskAtomicWrong)

/-- 'cartularykeep.DiskOthers': WHATEVER THE INPUT: true; the input reads as it did. -/
def diskOthersSpec : ChangeSpec := { name := "diskOthers", fn := fun _ => fun
  | [d1, d2, d3, d4, d5] => { results := [.lit (.bool true)], args := [d1, d2, d3, d4, d5] }
  | _ => none }
def diskOthersRow : OpenClaim := { program := "ytnijnphalhfabaa", sum := "d29aa3f59e7faf5042e65bbe66fa7a73954027bd1bedd9b5f83dec3df7f6e9d5", func := "cartulary/cartularykeep.DiskOthers", spec := "diskOthers", inPlace := ["internal/bytealg.abigen_runtime_cmpstring", "slices.overlaps[cartulary/api.File]"], unfollowed := true, recurses := true, apart := false }
def DiskOthersSaid : Prop := diskOthersRow.holds Try.pinned (OpenSpec.ofChange diskOthersSpec)

/-- ITS FALSE NEIGHBOUR: 'it returns false'. Refute it at one input. -/
def diskOthersWrong : ChangeSpec := { name := "diskOthers", fn := fun _ => fun
  | [d1, d2, d3, d4, d5] => { results := [.lit (.bool false)], args := [d1, d2, d3, d4, d5] }
  | _ => none }
def DiskOthersWrongFalsely : Prop := diskOthersRow.holds Try.pinned (OpenSpec.ofChange diskOthersWrong)

/-- 'cartularykeep.DiskFuse': WHATEVER THE INPUT: true; the input reads as it did. -/
def diskFuseSpec : ChangeSpec := { name := "diskFuse", fn := fun _ => fun
  | [d1, d2, d3, d4] => { results := [.lit (.bool true)], args := [d1, d2, d3, d4] }
  | _ => none }
def diskFuseRow : OpenClaim := { program := "ytnijnphalhfabaa", sum := "d29aa3f59e7faf5042e65bbe66fa7a73954027bd1bedd9b5f83dec3df7f6e9d5", func := "cartulary/cartularykeep.DiskFuse", spec := "diskFuse", inPlace := ["internal/bytealg.abigen_runtime_cmpstring", "slices.overlaps[cartulary/api.File]"], unfollowed := true, recurses := true, apart := false }
def DiskFuseSaid : Prop := diskFuseRow.holds Try.pinned (OpenSpec.ofChange diskFuseSpec)

/-- ITS FALSE NEIGHBOUR: 'it returns false'. Refute it at one input. -/
def diskFuseWrong : ChangeSpec := { name := "diskFuse", fn := fun _ => fun
  | [d1, d2, d3, d4] => { results := [.lit (.bool false)], args := [d1, d2, d3, d4] }
  | _ => none }
def DiskFuseWrongFalsely : Prop := diskFuseRow.holds Try.pinned (OpenSpec.ofChange diskFuseWrong)

/-- 'cartularykeep.DiskMoved': WHATEVER THE INPUT: true; the input reads as it did. -/
def diskMovedSpec : ChangeSpec := { name := "diskMoved", fn := fun _ => fun
  | [d1, d2, d3] => { results := [.lit (.bool true)], args := [d1, d2, d3] }
  | _ => none }
def diskMovedRow : OpenClaim := { program := "ytnijnphalhfabaa", sum := "d29aa3f59e7faf5042e65bbe66fa7a73954027bd1bedd9b5f83dec3df7f6e9d5", func := "cartulary/cartularykeep.DiskMoved", spec := "diskMoved", inPlace := ["internal/bytealg.abigen_runtime_cmpstring", "slices.overlaps[cartulary/api.File]"], unfollowed := true, recurses := true, apart := false }
def DiskMovedSaid : Prop := diskMovedRow.holds Try.pinned (OpenSpec.ofChange diskMovedSpec)

/-- ITS FALSE NEIGHBOUR: 'it returns false'. Refute it at one input. -/
def diskMovedWrong : ChangeSpec := { name := "diskMoved", fn := fun _ => fun
  | [d1, d2, d3] => { results := [.lit (.bool false)], args := [d1, d2, d3] }
  | _ => none }
def DiskMovedWrongFalsely : Prop := diskMovedRow.holds Try.pinned (OpenSpec.ofChange diskMovedWrong)

/- THE SECOND FORM. 'bulk': how many values and letters a reading holds, each counted each time it is reached (what is shared counts as often as it is met; a slice's spare places count too). A statement '..UptoSaid' is the law's where the arguments, and the package variables that the reading takes, are together of bulk at most 1048576: NARROWER than '..Said'. Prove '..Said' where nothing that the law and all that it calls make is longer than what came in: it says more and counts as full. Else prove '..UptoSaid'. A law counts once. -/
mutual
def uptoBulk {H : Type} : DataW H → Nat
  | .lit (.string bytes) => bytes.length + 1
  | .lit _ => 1
  | .nil => 1
  | .ptr d => uptoBulk d + 1
  | .slice elems spare => uptoBulkAll elems + uptoBulkAll spare + 1
  | .agg parts => uptoBulkAll parts + 1
  | .iface _ d => uptoBulk d + 1
  | .map entries => uptoBulkEntries entries + 1
  | .held _ => 1
def uptoBulkAll {H : Type} : List (DataW H) → Nat
  | [] => 0
  | d :: r => uptoBulk d + uptoBulkAll r
def uptoBulkEntries {H : Type} : List (Lit × DataW H) → Nat
  | [] => 0
  | x :: r => uptoBulkEntry x + uptoBulkEntries r
def uptoBulkEntry {H : Type} : Lit × DataW H → Nat
  | (.string bytes, d) => bytes.length + uptoBulk d + 1
  | (_, d) => uptoBulk d + 1
 end
def uptoSmall : (H : Type) → List (DataW H) → Bool := fun _ ds => decide (uptoBulkAll ds ≤ 1048576)
def OpenSpec.upto (s : _root_.Go.ChangeSpec) : _root_.Go.OpenSpec := { _root_.Go.OpenSpec.ofChange s with cond := some uptoSmall }

/-- 'cartularylaw.DiskSteps', WHERE WHAT IT READS IS OF BULK AT MOST 1048576: true; the input reads as it did. -/
def diskStepsUptoRow : OpenClaim := { program := "ytnijnphalhfabaa", sum := "d29aa3f59e7faf5042e65bbe66fa7a73954027bd1bedd9b5f83dec3df7f6e9d5", func := "cartulary/cartularylaw.DiskSteps", spec := "diskSteps", inPlace := ["internal/bytealg.abigen_runtime_cmpstring", "slices.overlaps[cartulary/api.File]"], unfollowed := true, recurses := true, apart := false, narrowed := true }
def DiskStepsUptoSaid : Prop := diskStepsUptoRow.holds Try.pinned (OpenSpec.upto diskStepsSpec)

/-- 'cartularylaw.DiskReads', WHERE WHAT IT READS IS OF BULK AT MOST 1048576: true; the input reads as it did. -/
def diskReadsUptoRow : OpenClaim := { program := "ytnijnphalhfabaa", sum := "d29aa3f59e7faf5042e65bbe66fa7a73954027bd1bedd9b5f83dec3df7f6e9d5", func := "cartulary/cartularylaw.DiskReads", spec := "diskReads", inPlace := ["internal/bytealg.abigen_runtime_cmpstring", "slices.overlaps[cartulary/api.File]"], unfollowed := true, recurses := true, apart := false, narrowed := true }
def DiskReadsUptoSaid : Prop := diskReadsUptoRow.holds Try.pinned (OpenSpec.upto diskReadsSpec)

/-- 'cartularylaw.DiskSaves', WHERE WHAT IT READS IS OF BULK AT MOST 1048576: true; the input reads as it did. -/
def diskSavesUptoRow : OpenClaim := { program := "ytnijnphalhfabaa", sum := "d29aa3f59e7faf5042e65bbe66fa7a73954027bd1bedd9b5f83dec3df7f6e9d5", func := "cartulary/cartularylaw.DiskSaves", spec := "diskSaves", inPlace := ["internal/bytealg.abigen_runtime_cmpstring", "slices.overlaps[cartulary/api.File]"], unfollowed := true, recurses := true, apart := false, narrowed := true }
def DiskSavesUptoSaid : Prop := diskSavesUptoRow.holds Try.pinned (OpenSpec.upto diskSavesSpec)

/-- 'cartularykeep.DiskAtomic', WHERE WHAT IT READS IS OF BULK AT MOST 1048576: true; the input reads as it did. -/
def diskAtomicUptoRow : OpenClaim := { program := "ytnijnphalhfabaa", sum := "d29aa3f59e7faf5042e65bbe66fa7a73954027bd1bedd9b5f83dec3df7f6e9d5", func := "cartulary/cartularykeep.DiskAtomic", spec := "diskAtomic", inPlace := ["internal/bytealg.abigen_runtime_cmpstring", "slices.overlaps[cartulary/api.File]"], unfollowed := true, recurses := true, apart := false, narrowed := true }
def DiskAtomicUptoSaid : Prop := diskAtomicUptoRow.holds Try.pinned (OpenSpec.upto diskAtomicSpec)

/-- 'cartularykeep.DiskOthers', WHERE WHAT IT READS IS OF BULK AT MOST 1048576: true; the input reads as it did. -/
def diskOthersUptoRow : OpenClaim := { program := "ytnijnphalhfabaa", sum := "d29aa3f59e7faf5042e65bbe66fa7a73954027bd1bedd9b5f83dec3df7f6e9d5", func := "cartulary/cartularykeep.DiskOthers", spec := "diskOthers", inPlace := ["internal/bytealg.abigen_runtime_cmpstring", "slices.overlaps[cartulary/api.File]"], unfollowed := true, recurses := true, apart := false, narrowed := true }
def DiskOthersUptoSaid : Prop := diskOthersUptoRow.holds Try.pinned (OpenSpec.upto diskOthersSpec)

/-- 'cartularykeep.DiskFuse', WHERE WHAT IT READS IS OF BULK AT MOST 1048576: true; the input reads as it did. -/
def diskFuseUptoRow : OpenClaim := { program := "ytnijnphalhfabaa", sum := "d29aa3f59e7faf5042e65bbe66fa7a73954027bd1bedd9b5f83dec3df7f6e9d5", func := "cartulary/cartularykeep.DiskFuse", spec := "diskFuse", inPlace := ["internal/bytealg.abigen_runtime_cmpstring", "slices.overlaps[cartulary/api.File]"], unfollowed := true, recurses := true, apart := false, narrowed := true }
def DiskFuseUptoSaid : Prop := diskFuseUptoRow.holds Try.pinned (OpenSpec.upto diskFuseSpec)

/-- 'cartularykeep.DiskMoved', WHERE WHAT IT READS IS OF BULK AT MOST 1048576: true; the input reads as it did. -/
def diskMovedUptoRow : OpenClaim := { program := "ytnijnphalhfabaa", sum := "d29aa3f59e7faf5042e65bbe66fa7a73954027bd1bedd9b5f83dec3df7f6e9d5", func := "cartulary/cartularykeep.DiskMoved", spec := "diskMoved", inPlace := ["internal/bytealg.abigen_runtime_cmpstring", "slices.overlaps[cartulary/api.File]"], unfollowed := true, recurses := true, apart := false, narrowed := true }
def DiskMovedUptoSaid : Prop := diskMovedUptoRow.holds Try.pinned (OpenSpec.upto diskMovedSpec)

end Rows
end Go.Proofs.Ytnijnphalhfabaa
