/-
  NARROWER THAN 'FOR EVERY INPUT', by the rows' own cells (each row's printed sentence says how): MerkleRoots: laid · MerkleChecks: laid · MerkleExtends: laid · MerklePaths: laid · MerkleBinds: laid · MerkleGrows: laid · MerkleSteps: laid · MerkleClash: laid.
  DERIVED. THE GIVEN ROWS OF THIS SEAT. 8 by the template 'for every input the law returns true; each argument reads behind the call as it read before'; 0 by the template 'total and deterministic' (their statements: YtejapjmlofekfaaDoorTotals.lean).
  GIVEN WITH THE SEED: the statements are not yours to turn. If you find one false, say at which input.
  Laid BY PROGRAM, IN A SANDBOX (cutbox-rows.mjs): the forced cells as the released guide's own fill.sh prints them over the translation d70a500cf7606c47… (all of the seat's roots in one cut). By AI agents, Wed Nov 11 2026. No macro, syntax, notation, axiom, sorry.
-/
import Derived.Test.YtejapjmlofekfaaDoorChecked
import GoSem.Claim
import GoSem.ClaimJoined
import GoSem.ClaimMapViews
import Derived.JoinedTies
import Derived.KernelRfl
namespace Go.Proofs.YtejapjmlofekfaaDoor
/- THE CELL 'sum', in the pinned program and in every row, IS THE sha256 OF THE DUMP (.gsa) THAT YtejapjmlofekfaaDoorProg.lean LOADS. Nothing in Lean hashes anything: it is a label: what it is worth is what the hold of that sum in a sandbox is worth. -/
noncomputable def Tryd.pinned : Pinned := { name := "ytejapjmlofekfaadoor", sum := "d70a500cf7606c476112ada2811807daac88c2543b9391eb5f7cbee28d21f9c4", checked := Tryd.checked }
namespace Rows
def none {H : Type} : Left H := { results := [], args := [] }

/- WHAT THE LISTED PACKAGE-LEVEL VARIABLES READ AS WHEN THE CALL BEGINS. Each datum BY PROGRAM (the guide's laid-datum.mjs) off the statement by which the dump's own 'gosem.cut.vars' lays the variable. In a bare row this is a premise. The card (YtejapjmlofekfaaDoorCards.lean) ties it to the program's text. -/
def laid_cartulary_sum_roundConstants {H : Type} : DataW H := .agg [.lit (.int .u32 1116352408), .lit (.int .u32 1899447441), .lit (.int .u32 3049323471), .lit (.int .u32 3921009573), .lit (.int .u32 961987163), .lit (.int .u32 1508970993), .lit (.int .u32 2453635748), .lit (.int .u32 2870763221), .lit (.int .u32 3624381080), .lit (.int .u32 310598401), .lit (.int .u32 607225278), .lit (.int .u32 1426881987), .lit (.int .u32 1925078388), .lit (.int .u32 2162078206), .lit (.int .u32 2614888103), .lit (.int .u32 3248222580), .lit (.int .u32 3835390401), .lit (.int .u32 4022224774), .lit (.int .u32 264347078), .lit (.int .u32 604807628), .lit (.int .u32 770255983), .lit (.int .u32 1249150122), .lit (.int .u32 1555081692), .lit (.int .u32 1996064986), .lit (.int .u32 2554220882), .lit (.int .u32 2821834349), .lit (.int .u32 2952996808), .lit (.int .u32 3210313671), .lit (.int .u32 3336571891), .lit (.int .u32 3584528711), .lit (.int .u32 113926993), .lit (.int .u32 338241895), .lit (.int .u32 666307205), .lit (.int .u32 773529912), .lit (.int .u32 1294757372), .lit (.int .u32 1396182291), .lit (.int .u32 1695183700), .lit (.int .u32 1986661051), .lit (.int .u32 2177026350), .lit (.int .u32 2456956037), .lit (.int .u32 2730485921), .lit (.int .u32 2820302411), .lit (.int .u32 3259730800), .lit (.int .u32 3345764771), .lit (.int .u32 3516065817), .lit (.int .u32 3600352804), .lit (.int .u32 4094571909), .lit (.int .u32 275423344), .lit (.int .u32 430227734), .lit (.int .u32 506948616), .lit (.int .u32 659060556), .lit (.int .u32 883997877), .lit (.int .u32 958139571), .lit (.int .u32 1322822218), .lit (.int .u32 1537002063), .lit (.int .u32 1747873779), .lit (.int .u32 1955562222), .lit (.int .u32 2024104815), .lit (.int .u32 2227730452), .lit (.int .u32 2361852424), .lit (.int .u32 2428436474), .lit (.int .u32 2756734187), .lit (.int .u32 3204031479), .lit (.int .u32 3329325298)]

/-- 'cartularylaw.MerkleRoots': WHATEVER THE INPUT: true; the input reads as it did. -/
def merkleRootsSpec : ChangeSpec := { name := "merkleRoots", fn := fun _ => fun
  | [d1, d2, d3] => { results := [.lit (.bool true)], args := [d1, d2, d3] }
  | _ => none }
def merkleRootsRow : OpenClaim := { program := "ytejapjmlofekfaadoor", sum := "d70a500cf7606c476112ada2811807daac88c2543b9391eb5f7cbee28d21f9c4", func := "cartulary/cartularylaw.MerkleRoots", spec := "merkleRoots", unfollowed := true, recurses := true, named := ["cartulary/sum.roundConstants"], apart := false, laid := [("cartulary/sum.roundConstants", laid_cartulary_sum_roundConstants)] }
def MerkleRootsSaid : Prop := merkleRootsRow.holds Tryd.pinned (OpenSpec.ofChange merkleRootsSpec)

/-- ITS FALSE NEIGHBOUR: 'it returns false'. Refute it at one input. -/
def merkleRootsWrong : ChangeSpec := { name := "merkleRoots", fn := fun _ => fun
  | [d1, d2, d3] => { results := [.lit (.bool false)], args := [d1, d2, d3] }
  | _ => none }
def MerkleRootsWrongFalsely : Prop := merkleRootsRow.holds Tryd.pinned (OpenSpec.ofChange merkleRootsWrong)

/-- 'cartularylaw.MerkleChecks': WHATEVER THE INPUT: true; the input reads as it did. -/
def merkleChecksSpec : ChangeSpec := { name := "merkleChecks", fn := fun _ => fun
  | [d1, d2, d3, d4, d5] => { results := [.lit (.bool true)], args := [d1, d2, d3, d4, d5] }
  | _ => none }
def merkleChecksRow : OpenClaim := { program := "ytejapjmlofekfaadoor", sum := "d70a500cf7606c476112ada2811807daac88c2543b9391eb5f7cbee28d21f9c4", func := "cartulary/cartularylaw.MerkleChecks", spec := "merkleChecks", unfollowed := true, recurses := true, named := ["cartulary/sum.roundConstants"], apart := false, laid := [("cartulary/sum.roundConstants", laid_cartulary_sum_roundConstants)] }
def MerkleChecksSaid : Prop := merkleChecksRow.holds Tryd.pinned (OpenSpec.ofChange merkleChecksSpec)

/-- ITS FALSE NEIGHBOUR: 'it returns false'. Refute it at one input. -/
def merkleChecksWrong : ChangeSpec := { name := "merkleChecks", fn := fun _ => fun
  | [d1, d2, d3, d4, d5] => { results := [.lit (.bool false)], args := [d1, d2, d3, d4, d5] }
  | _ => none }
def MerkleChecksWrongFalsely : Prop := merkleChecksRow.holds Tryd.pinned (OpenSpec.ofChange merkleChecksWrong)

/-- 'cartularylaw.MerkleExtends': WHATEVER THE INPUT: true; the input reads as it did. -/
def merkleExtendsSpec : ChangeSpec := { name := "merkleExtends", fn := fun _ => fun
  | [d1, d2, d3, d4, d5] => { results := [.lit (.bool true)], args := [d1, d2, d3, d4, d5] }
  | _ => none }
def merkleExtendsRow : OpenClaim := { program := "ytejapjmlofekfaadoor", sum := "d70a500cf7606c476112ada2811807daac88c2543b9391eb5f7cbee28d21f9c4", func := "cartulary/cartularylaw.MerkleExtends", spec := "merkleExtends", unfollowed := true, recurses := true, named := ["cartulary/sum.roundConstants"], apart := false, laid := [("cartulary/sum.roundConstants", laid_cartulary_sum_roundConstants)] }
def MerkleExtendsSaid : Prop := merkleExtendsRow.holds Tryd.pinned (OpenSpec.ofChange merkleExtendsSpec)

/-- ITS FALSE NEIGHBOUR: 'it returns false'. Refute it at one input. -/
def merkleExtendsWrong : ChangeSpec := { name := "merkleExtends", fn := fun _ => fun
  | [d1, d2, d3, d4, d5] => { results := [.lit (.bool false)], args := [d1, d2, d3, d4, d5] }
  | _ => none }
def MerkleExtendsWrongFalsely : Prop := merkleExtendsRow.holds Tryd.pinned (OpenSpec.ofChange merkleExtendsWrong)

/-- 'cartularykeep.MerklePaths': WHATEVER THE INPUT: true; the input reads as it did. -/
def merklePathsSpec : ChangeSpec := { name := "merklePaths", fn := fun _ => fun
  | [d1, d2] => { results := [.lit (.bool true)], args := [d1, d2] }
  | _ => none }
def merklePathsRow : OpenClaim := { program := "ytejapjmlofekfaadoor", sum := "d70a500cf7606c476112ada2811807daac88c2543b9391eb5f7cbee28d21f9c4", func := "cartulary/cartularykeep.MerklePaths", spec := "merklePaths", recurses := true, named := ["cartulary/sum.roundConstants"], apart := false, laid := [("cartulary/sum.roundConstants", laid_cartulary_sum_roundConstants)] }
def MerklePathsSaid : Prop := merklePathsRow.holds Tryd.pinned (OpenSpec.ofChange merklePathsSpec)

/-- ITS FALSE NEIGHBOUR: 'it returns false'. Refute it at one input. -/
def merklePathsWrong : ChangeSpec := { name := "merklePaths", fn := fun _ => fun
  | [d1, d2] => { results := [.lit (.bool false)], args := [d1, d2] }
  | _ => none }
def MerklePathsWrongFalsely : Prop := merklePathsRow.holds Tryd.pinned (OpenSpec.ofChange merklePathsWrong)

/-- 'cartularykeep.MerkleBinds': WHATEVER THE INPUT: true; the input reads as it did. -/
def merkleBindsSpec : ChangeSpec := { name := "merkleBinds", fn := fun _ => fun
  | [d1, d2, d3, d4] => { results := [.lit (.bool true)], args := [d1, d2, d3, d4] }
  | _ => none }
def merkleBindsRow : OpenClaim := { program := "ytejapjmlofekfaadoor", sum := "d70a500cf7606c476112ada2811807daac88c2543b9391eb5f7cbee28d21f9c4", func := "cartulary/cartularykeep.MerkleBinds", spec := "merkleBinds", recurses := true, named := ["cartulary/sum.roundConstants"], apart := false, laid := [("cartulary/sum.roundConstants", laid_cartulary_sum_roundConstants)] }
def MerkleBindsSaid : Prop := merkleBindsRow.holds Tryd.pinned (OpenSpec.ofChange merkleBindsSpec)

/-- ITS FALSE NEIGHBOUR: 'it returns false'. Refute it at one input. -/
def merkleBindsWrong : ChangeSpec := { name := "merkleBinds", fn := fun _ => fun
  | [d1, d2, d3, d4] => { results := [.lit (.bool false)], args := [d1, d2, d3, d4] }
  | _ => none }
def MerkleBindsWrongFalsely : Prop := merkleBindsRow.holds Tryd.pinned (OpenSpec.ofChange merkleBindsWrong)

/-- 'cartularykeep.MerkleGrows': WHATEVER THE INPUT: true; the input reads as it did. -/
def merkleGrowsSpec : ChangeSpec := { name := "merkleGrows", fn := fun _ => fun
  | [d1, d2] => { results := [.lit (.bool true)], args := [d1, d2] }
  | _ => none }
def merkleGrowsRow : OpenClaim := { program := "ytejapjmlofekfaadoor", sum := "d70a500cf7606c476112ada2811807daac88c2543b9391eb5f7cbee28d21f9c4", func := "cartulary/cartularykeep.MerkleGrows", spec := "merkleGrows", recurses := true, named := ["cartulary/sum.roundConstants"], apart := false, laid := [("cartulary/sum.roundConstants", laid_cartulary_sum_roundConstants)] }
def MerkleGrowsSaid : Prop := merkleGrowsRow.holds Tryd.pinned (OpenSpec.ofChange merkleGrowsSpec)

/-- ITS FALSE NEIGHBOUR: 'it returns false'. Refute it at one input. -/
def merkleGrowsWrong : ChangeSpec := { name := "merkleGrows", fn := fun _ => fun
  | [d1, d2] => { results := [.lit (.bool false)], args := [d1, d2] }
  | _ => none }
def MerkleGrowsWrongFalsely : Prop := merkleGrowsRow.holds Tryd.pinned (OpenSpec.ofChange merkleGrowsWrong)

/-- 'cartularykeep.MerkleSteps': WHATEVER THE INPUT: true; the input reads as it did. -/
def merkleStepsSpec : ChangeSpec := { name := "merkleSteps", fn := fun _ => fun
  | [d1, d2, d3] => { results := [.lit (.bool true)], args := [d1, d2, d3] }
  | _ => none }
def merkleStepsRow : OpenClaim := { program := "ytejapjmlofekfaadoor", sum := "d70a500cf7606c476112ada2811807daac88c2543b9391eb5f7cbee28d21f9c4", func := "cartulary/cartularykeep.MerkleSteps", spec := "merkleSteps", recurses := true, named := ["cartulary/sum.roundConstants"], apart := false, laid := [("cartulary/sum.roundConstants", laid_cartulary_sum_roundConstants)] }
def MerkleStepsSaid : Prop := merkleStepsRow.holds Tryd.pinned (OpenSpec.ofChange merkleStepsSpec)

/-- ITS FALSE NEIGHBOUR: 'it returns false'. Refute it at one input. -/
def merkleStepsWrong : ChangeSpec := { name := "merkleSteps", fn := fun _ => fun
  | [d1, d2, d3] => { results := [.lit (.bool false)], args := [d1, d2, d3] }
  | _ => none }
def MerkleStepsWrongFalsely : Prop := merkleStepsRow.holds Tryd.pinned (OpenSpec.ofChange merkleStepsWrong)

/-- 'cartularykeep.MerkleClash': WHATEVER THE INPUT: true; the input reads as it did. -/
def merkleClashSpec : ChangeSpec := { name := "merkleClash", fn := fun _ => fun
  | [d1, d2] => { results := [.lit (.bool true)], args := [d1, d2] }
  | _ => none }
def merkleClashRow : OpenClaim := { program := "ytejapjmlofekfaadoor", sum := "d70a500cf7606c476112ada2811807daac88c2543b9391eb5f7cbee28d21f9c4", func := "cartulary/cartularykeep.MerkleClash", spec := "merkleClash", recurses := true, named := ["cartulary/sum.roundConstants"], apart := false, laid := [("cartulary/sum.roundConstants", laid_cartulary_sum_roundConstants)] }
def MerkleClashSaid : Prop := merkleClashRow.holds Tryd.pinned (OpenSpec.ofChange merkleClashSpec)

/-- ITS FALSE NEIGHBOUR: 'it returns false'. Refute it at one input. -/
def merkleClashWrong : ChangeSpec := { name := "merkleClash", fn := fun _ => fun
  | [d1, d2] => { results := [.lit (.bool false)], args := [d1, d2] }
  | _ => none }
def MerkleClashWrongFalsely : Prop := merkleClashRow.holds Tryd.pinned (OpenSpec.ofChange merkleClashWrong)

/- THE SECOND FORM. 'bulk': how many values and letters a reading holds, each counted each time it is reached (what is shared counts as often as it is met; a slice's spare places count too). A statement '..UptoSaid' is the law's where the arguments, and the package variables that the reading takes, are together of bulk at most 1048576: NARROWER than '..Said'. Prove '..Said' where nothing that the law and all that it calls make is longer than what came in: it says more and counts as full. Else prove '..UptoSaid'. A law counts once. -/
mutual
def uptoBulk {H : Type} : DataW H → Nat
  | .lit (.string bytes) => bytes.length + 1
  | .lit _ => 1
  | .nil => 1
  | .ptr d => uptoBulk d + 1
  | .slice elems spare => uptoBulkAll elems + uptoBulkAll spare + 1
  | .agg parts => uptoBulkAll parts + 1
  | .iface _ d => uptoBulk d + 1
  | .map entries => uptoBulkEntries entries + 1
  | .held _ => 1
def uptoBulkAll {H : Type} : List (DataW H) → Nat
  | [] => 0
  | d :: r => uptoBulk d + uptoBulkAll r
def uptoBulkEntries {H : Type} : List (Lit × DataW H) → Nat
  | [] => 0
  | x :: r => uptoBulkEntry x + uptoBulkEntries r
def uptoBulkEntry {H : Type} : Lit × DataW H → Nat
  | (.string bytes, d) => bytes.length + uptoBulk d + 1
  | (_, d) => uptoBulk d + 1
 end
def uptoSmall : (H : Type) → List (DataW H) → Bool := fun _ ds => decide (uptoBulkAll ds ≤ 1048576)
def OpenSpec.upto (s : _root_.Go.ChangeSpec) : _root_.Go.OpenSpec := { _root_.Go.OpenSpec.ofChange s with cond := some uptoSmall }

/-- 'cartularylaw.MerkleRoots', WHERE WHAT IT READS IS OF BULK AT MOST 1048576: true; the input reads as it did. -/
def merkleRootsUptoRow : OpenClaim := { program := "ytejapjmlofekfaadoor", sum := "d70a500cf7606c476112ada2811807daac88c2543b9391eb5f7cbee28d21f9c4", func := "cartulary/cartularylaw.MerkleRoots", spec := "merkleRoots", unfollowed := true, recurses := true, named := ["cartulary/sum.roundConstants"], apart := false, laid := [("cartulary/sum.roundConstants", laid_cartulary_sum_roundConstants)], narrowed := true }
def MerkleRootsUptoSaid : Prop := merkleRootsUptoRow.holds Tryd.pinned (OpenSpec.upto merkleRootsSpec)

/-- 'cartularylaw.MerkleChecks', WHERE WHAT IT READS IS OF BULK AT MOST 1048576: true; the input reads as it did. -/
def merkleChecksUptoRow : OpenClaim := { program := "ytejapjmlofekfaadoor", sum := "d70a500cf7606c476112ada2811807daac88c2543b9391eb5f7cbee28d21f9c4", func := "cartulary/cartularylaw.MerkleChecks", spec := "merkleChecks", unfollowed := true, recurses := true, named := ["cartulary/sum.roundConstants"], apart := false, laid := [("cartulary/sum.roundConstants", laid_cartulary_sum_roundConstants)], narrowed := true }
def MerkleChecksUptoSaid : Prop := merkleChecksUptoRow.holds Tryd.pinned (OpenSpec.upto merkleChecksSpec)

/-- 'cartularylaw.MerkleExtends', WHERE WHAT IT READS IS OF BULK AT MOST 1048576: true; the input reads as it did. -/
def merkleExtendsUptoRow : OpenClaim := { program := "ytejapjmlofekfaadoor", sum := "d70a500cf7606c476112ada2811807daac88c2543b9391eb5f7cbee28d21f9c4", func := "cartulary/cartularylaw.MerkleExtends", spec := "merkleExtends", unfollowed := true, recurses := true, named := ["cartulary/sum.roundConstants"], apart := false, laid := [("cartulary/sum.roundConstants", laid_cartulary_sum_roundConstants)], narrowed := true }
def MerkleExtendsUptoSaid : Prop := merkleExtendsUptoRow.holds Tryd.pinned (OpenSpec.upto merkleExtendsSpec)

/-- 'cartularykeep.MerklePaths', WHERE WHAT IT READS IS OF BULK AT MOST 1048576: true; the input reads as it did. -/
def merklePathsUptoRow : OpenClaim := { program := "ytejapjmlofekfaadoor", sum := "d70a500cf7606c476112ada2811807daac88c2543b9391eb5f7cbee28d21f9c4", func := "cartulary/cartularykeep.MerklePaths", spec := "merklePaths", recurses := true, named := ["cartulary/sum.roundConstants"], apart := false, laid := [("cartulary/sum.roundConstants", laid_cartulary_sum_roundConstants)], narrowed := true }
def MerklePathsUptoSaid : Prop := merklePathsUptoRow.holds Tryd.pinned (OpenSpec.upto merklePathsSpec)

/-- 'cartularykeep.MerkleBinds', WHERE WHAT IT READS IS OF BULK AT MOST 1048576: true; the input reads as it did. -/
def merkleBindsUptoRow : OpenClaim := { program := "ytejapjmlofekfaadoor", sum := "d70a500cf7606c476112ada2811807daac88c2543b9391eb5f7cbee28d21f9c4", func := "cartulary/cartularykeep.MerkleBinds", spec := "merkleBinds", recurses := true, named := ["cartulary/sum.roundConstants"], apart := false, laid := [("cartulary/sum.roundConstants", laid_cartulary_sum_roundConstants)], narrowed := true }
def MerkleBindsUptoSaid : Prop := merkleBindsUptoRow.holds Tryd.pinned (OpenSpec.upto merkleBindsSpec)

/-- 'cartularykeep.MerkleGrows', WHERE WHAT IT READS IS OF BULK AT MOST 1048576: true; the input reads as it did. -/
def merkleGrowsUptoRow : OpenClaim := { program := "ytejapjmlofekfaadoor", sum := "d70a500cf7606c476112ada2811807daac88c2543b9391eb5f7cbee28d21f9c4", func := "cartulary/cartularykeep.MerkleGrows", spec := "merkleGrows", recurses := true, named := ["cartulary/sum.roundConstants"], apart := false, laid := [("cartulary/sum.roundConstants", laid_cartulary_sum_roundConstants)], narrowed := true }
def MerkleGrowsUptoSaid : Prop := merkleGrowsUptoRow.holds Tryd.pinned (OpenSpec.upto merkleGrowsSpec)

/-- 'cartularykeep.MerkleSteps', WHERE WHAT IT READS IS OF BULK AT MOST 1048576: true; the input reads as it did. -/
def merkleStepsUptoRow : OpenClaim := { program := "ytejapjmlofekfaadoor", sum := "d70a500cf7606c476112ada2811807daac88c2543b9391eb5f7cbee28d21f9c4", func := "cartulary/cartularykeep.MerkleSteps", spec := "merkleSteps", recurses := true, named := ["cartulary/sum.roundConstants"], apart := false, laid := [("cartulary/sum.roundConstants", laid_cartulary_sum_roundConstants)], narrowed := true }
def MerkleStepsUptoSaid : Prop := merkleStepsUptoRow.holds Tryd.pinned (OpenSpec.upto merkleStepsSpec)

/-- 'cartularykeep.MerkleClash', WHERE WHAT IT READS IS OF BULK AT MOST 1048576: true; the input reads as it did. -/
def merkleClashUptoRow : OpenClaim := { program := "ytejapjmlofekfaadoor", sum := "d70a500cf7606c476112ada2811807daac88c2543b9391eb5f7cbee28d21f9c4", func := "cartulary/cartularykeep.MerkleClash", spec := "merkleClash", recurses := true, named := ["cartulary/sum.roundConstants"], apart := false, laid := [("cartulary/sum.roundConstants", laid_cartulary_sum_roundConstants)], narrowed := true }
def MerkleClashUptoSaid : Prop := merkleClashUptoRow.holds Tryd.pinned (OpenSpec.upto merkleClashSpec)

end Rows
end Go.Proofs.YtejapjmlofekfaaDoor
