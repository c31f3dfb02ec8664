/-
  NARROWER THAN 'FOR EVERY INPUT', by the rows' own cells (each row's printed sentence says how): StepEncodes: laid · StepDecodes: laid · StepSigns: laid · StepChecks: laid · StepReplays: laid · StepBack: laid · StepOnly: laid · StepOrder: laid · StepSealed: laid · StepParts: laid.
  DERIVED. THE GIVEN ROWS OF THIS SEAT. 10 by the template 'for every input the law returns true; each argument reads behind the call as it read before'; 0 by the template 'total and deterministic' (their statements: YtbpmgpbmeganoaaDoorTotals.lean).
  GIVEN WITH THE SEED: the statements are not yours to turn. If you find one false, say at which input.
  Laid BY PROGRAM, IN A SANDBOX (cutbox-rows.mjs): the forced cells as the released guide's own fill.sh prints them over the translation b3a8ce1d181a4316… (all of the seat's roots in one cut). By AI agents, Wed Nov 11 2026. No macro, syntax, notation, axiom, sorry.
-/
import Derived.Test.YtbpmgpbmeganoaaDoorChecked
import GoSem.Claim
import GoSem.ClaimJoined
import GoSem.ClaimMapViews
import Derived.JoinedTies
import Derived.KernelRfl
namespace Go.Proofs.YtbpmgpbmeganoaaDoor
/- THE CELL 'sum', in the pinned program and in every row, IS THE sha256 OF THE DUMP (.gsa) THAT YtbpmgpbmeganoaaDoorProg.lean LOADS. Nothing in Lean hashes anything: it is a label: what it is worth is what the hold of that sum in a sandbox is worth. -/
noncomputable def Tryd.pinned : Pinned := { name := "ytbpmgpbmeganoaadoor", sum := "b3a8ce1d181a4316eb2cb7a8b83609a050a7cbcd8837a4addf4daf8396c06c9b", checked := Tryd.checked }
namespace Rows
def none {H : Type} : Left H := { results := [], args := [] }

/- WHAT THE LISTED PACKAGE-LEVEL VARIABLES READ AS WHEN THE CALL BEGINS. Each datum BY PROGRAM (the guide's laid-datum.mjs) off the statement by which the dump's own 'gosem.cut.vars' lays the variable. In a bare row this is a premise. The card (YtbpmgpbmeganoaaDoorCards.lean) ties it to the program's text. -/
def laid_cartulary_sum_roundConstants {H : Type} : DataW H := .agg [.lit (.int .u32 1116352408), .lit (.int .u32 1899447441), .lit (.int .u32 3049323471), .lit (.int .u32 3921009573), .lit (.int .u32 961987163), .lit (.int .u32 1508970993), .lit (.int .u32 2453635748), .lit (.int .u32 2870763221), .lit (.int .u32 3624381080), .lit (.int .u32 310598401), .lit (.int .u32 607225278), .lit (.int .u32 1426881987), .lit (.int .u32 1925078388), .lit (.int .u32 2162078206), .lit (.int .u32 2614888103), .lit (.int .u32 3248222580), .lit (.int .u32 3835390401), .lit (.int .u32 4022224774), .lit (.int .u32 264347078), .lit (.int .u32 604807628), .lit (.int .u32 770255983), .lit (.int .u32 1249150122), .lit (.int .u32 1555081692), .lit (.int .u32 1996064986), .lit (.int .u32 2554220882), .lit (.int .u32 2821834349), .lit (.int .u32 2952996808), .lit (.int .u32 3210313671), .lit (.int .u32 3336571891), .lit (.int .u32 3584528711), .lit (.int .u32 113926993), .lit (.int .u32 338241895), .lit (.int .u32 666307205), .lit (.int .u32 773529912), .lit (.int .u32 1294757372), .lit (.int .u32 1396182291), .lit (.int .u32 1695183700), .lit (.int .u32 1986661051), .lit (.int .u32 2177026350), .lit (.int .u32 2456956037), .lit (.int .u32 2730485921), .lit (.int .u32 2820302411), .lit (.int .u32 3259730800), .lit (.int .u32 3345764771), .lit (.int .u32 3516065817), .lit (.int .u32 3600352804), .lit (.int .u32 4094571909), .lit (.int .u32 275423344), .lit (.int .u32 430227734), .lit (.int .u32 506948616), .lit (.int .u32 659060556), .lit (.int .u32 883997877), .lit (.int .u32 958139571), .lit (.int .u32 1322822218), .lit (.int .u32 1537002063), .lit (.int .u32 1747873779), .lit (.int .u32 1955562222), .lit (.int .u32 2024104815), .lit (.int .u32 2227730452), .lit (.int .u32 2361852424), .lit (.int .u32 2428436474), .lit (.int .u32 2756734187), .lit (.int .u32 3204031479), .lit (.int .u32 3329325298)]

/-- 'cartularylaw.StepEncodes': WHATEVER THE INPUT: true; the input reads as it did. -/
def stepEncodesSpec : ChangeSpec := { name := "stepEncodes", fn := fun _ => fun
  | [d1, d2] => { results := [.lit (.bool true)], args := [d1, d2] }
  | _ => none }
def stepEncodesRow : OpenClaim := { program := "ytbpmgpbmeganoaadoor", sum := "b3a8ce1d181a4316eb2cb7a8b83609a050a7cbcd8837a4addf4daf8396c06c9b", func := "cartulary/cartularylaw.StepEncodes", spec := "stepEncodes", unfollowed := true, recurses := true, named := ["cartulary/sum.roundConstants"], apart := false, laid := [("cartulary/sum.roundConstants", laid_cartulary_sum_roundConstants)] }
def StepEncodesSaid : Prop := stepEncodesRow.holds Tryd.pinned (OpenSpec.ofChange stepEncodesSpec)

/-- ITS FALSE NEIGHBOUR: 'it returns false'. Refute it at one input. -/
def stepEncodesWrong : ChangeSpec := { name := "stepEncodes", fn := fun _ => fun
  | [d1, d2] => { results := [.lit (.bool false)], args := [d1, d2] }
  | _ => none }
def StepEncodesWrongFalsely : Prop := stepEncodesRow.holds Tryd.pinned (OpenSpec.ofChange stepEncodesWrong)

/-- 'cartularylaw.StepDecodes': WHATEVER THE INPUT: true; the input reads as it did. -/
def stepDecodesSpec : ChangeSpec := { name := "stepDecodes", fn := fun _ => fun
  | [d] => { results := [.lit (.bool true)], args := [d] }
  | _ => none }
def stepDecodesRow : OpenClaim := { program := "ytbpmgpbmeganoaadoor", sum := "b3a8ce1d181a4316eb2cb7a8b83609a050a7cbcd8837a4addf4daf8396c06c9b", func := "cartulary/cartularylaw.StepDecodes", spec := "stepDecodes", unfollowed := true, recurses := true, named := ["cartulary/sum.roundConstants"], apart := false, laid := [("cartulary/sum.roundConstants", laid_cartulary_sum_roundConstants)] }
def StepDecodesSaid : Prop := stepDecodesRow.holds Tryd.pinned (OpenSpec.ofChange stepDecodesSpec)

/-- ITS FALSE NEIGHBOUR: 'it returns false'. Refute it at one input. -/
def stepDecodesWrong : ChangeSpec := { name := "stepDecodes", fn := fun _ => fun
  | [d] => { results := [.lit (.bool false)], args := [d] }
  | _ => none }
def StepDecodesWrongFalsely : Prop := stepDecodesRow.holds Tryd.pinned (OpenSpec.ofChange stepDecodesWrong)

/-- 'cartularylaw.StepSigns': WHATEVER THE INPUT: true; the input reads as it did. -/
def stepSignsSpec : ChangeSpec := { name := "stepSigns", fn := fun _ => fun
  | [d1, d2, d3, d4] => { results := [.lit (.bool true)], args := [d1, d2, d3, d4] }
  | _ => none }
def stepSignsRow : OpenClaim := { program := "ytbpmgpbmeganoaadoor", sum := "b3a8ce1d181a4316eb2cb7a8b83609a050a7cbcd8837a4addf4daf8396c06c9b", func := "cartulary/cartularylaw.StepSigns", spec := "stepSigns", unfollowed := true, recurses := true, named := ["cartulary/sum.roundConstants"], apart := false, laid := [("cartulary/sum.roundConstants", laid_cartulary_sum_roundConstants)] }
def StepSignsSaid : Prop := stepSignsRow.holds Tryd.pinned (OpenSpec.ofChange stepSignsSpec)

/-- ITS FALSE NEIGHBOUR: 'it returns false'. Refute it at one input. -/
def stepSignsWrong : ChangeSpec := { name := "stepSigns", fn := fun _ => fun
  | [d1, d2, d3, d4] => { results := [.lit (.bool false)], args := [d1, d2, d3, d4] }
  | _ => none }
def StepSignsWrongFalsely : Prop := stepSignsRow.holds Tryd.pinned (OpenSpec.ofChange stepSignsWrong)

/-- 'cartularylaw.StepChecks': WHATEVER THE INPUT: true; the input reads as it did. -/
def stepChecksSpec : ChangeSpec := { name := "stepChecks", fn := fun _ => fun
  | [d1, d2, d3] => { results := [.lit (.bool true)], args := [d1, d2, d3] }
  | _ => none }
def stepChecksRow : OpenClaim := { program := "ytbpmgpbmeganoaadoor", sum := "b3a8ce1d181a4316eb2cb7a8b83609a050a7cbcd8837a4addf4daf8396c06c9b", func := "cartulary/cartularylaw.StepChecks", spec := "stepChecks", unfollowed := true, recurses := true, named := ["cartulary/sum.roundConstants"], apart := false, laid := [("cartulary/sum.roundConstants", laid_cartulary_sum_roundConstants)] }
def StepChecksSaid : Prop := stepChecksRow.holds Tryd.pinned (OpenSpec.ofChange stepChecksSpec)

/-- ITS FALSE NEIGHBOUR: 'it returns false'. Refute it at one input. -/
def stepChecksWrong : ChangeSpec := { name := "stepChecks", fn := fun _ => fun
  | [d1, d2, d3] => { results := [.lit (.bool false)], args := [d1, d2, d3] }
  | _ => none }
def StepChecksWrongFalsely : Prop := stepChecksRow.holds Tryd.pinned (OpenSpec.ofChange stepChecksWrong)

/-- 'cartularylaw.StepReplays': WHATEVER THE INPUT: true; the input reads as it did. -/
def stepReplaysSpec : ChangeSpec := { name := "stepReplays", fn := fun _ => fun
  | [d1, d2] => { results := [.lit (.bool true)], args := [d1, d2] }
  | _ => none }
def stepReplaysRow : OpenClaim := { program := "ytbpmgpbmeganoaadoor", sum := "b3a8ce1d181a4316eb2cb7a8b83609a050a7cbcd8837a4addf4daf8396c06c9b", func := "cartulary/cartularylaw.StepReplays", spec := "stepReplays", inPlace := ["internal/bytealg.abigen_runtime_cmpstring"], unfollowed := true, recurses := true, named := ["cartulary/sum.roundConstants"], apart := false, laid := [("cartulary/sum.roundConstants", laid_cartulary_sum_roundConstants)] }
def StepReplaysSaid : Prop := stepReplaysRow.holds Tryd.pinned (OpenSpec.ofChange stepReplaysSpec)

/-- ITS FALSE NEIGHBOUR: 'it returns false'. Refute it at one input. -/
def stepReplaysWrong : ChangeSpec := { name := "stepReplays", fn := fun _ => fun
  | [d1, d2] => { results := [.lit (.bool false)], args := [d1, d2] }
  | _ => none }
def StepReplaysWrongFalsely : Prop := stepReplaysRow.holds Tryd.pinned (OpenSpec.ofChange stepReplaysWrong)

/-- 'cartularykeep.StepBack': WHATEVER THE INPUT: true; the input reads as it did. -/
def stepBackSpec : ChangeSpec := { name := "stepBack", fn := fun _ => fun
  | [d] => { results := [.lit (.bool true)], args := [d] }
  | _ => none }
def stepBackRow : OpenClaim := { program := "ytbpmgpbmeganoaadoor", sum := "b3a8ce1d181a4316eb2cb7a8b83609a050a7cbcd8837a4addf4daf8396c06c9b", func := "cartulary/cartularykeep.StepBack", spec := "stepBack", unfollowed := true, recurses := true, named := ["cartulary/sum.roundConstants"], apart := false, laid := [("cartulary/sum.roundConstants", laid_cartulary_sum_roundConstants)] }
def StepBackSaid : Prop := stepBackRow.holds Tryd.pinned (OpenSpec.ofChange stepBackSpec)

/-- ITS FALSE NEIGHBOUR: 'it returns false'. Refute it at one input. -/
def stepBackWrong : ChangeSpec := { name := "stepBack", fn := fun _ => fun
  | [d] => { results := [.lit (.bool false)], args := [d] }
  | _ => none }
def StepBackWrongFalsely : Prop := stepBackRow.holds Tryd.pinned (OpenSpec.ofChange stepBackWrong)

/-- 'cartularykeep.StepOnly': WHATEVER THE INPUT: true; the input reads as it did. -/
def stepOnlySpec : ChangeSpec := { name := "stepOnly", fn := fun _ => fun
  | [d] => { results := [.lit (.bool true)], args := [d] }
  | _ => none }
def stepOnlyRow : OpenClaim := { program := "ytbpmgpbmeganoaadoor", sum := "b3a8ce1d181a4316eb2cb7a8b83609a050a7cbcd8837a4addf4daf8396c06c9b", func := "cartulary/cartularykeep.StepOnly", spec := "stepOnly", unfollowed := true, recurses := true, named := ["cartulary/sum.roundConstants"], apart := false, laid := [("cartulary/sum.roundConstants", laid_cartulary_sum_roundConstants)] }
def StepOnlySaid : Prop := stepOnlyRow.holds Tryd.pinned (OpenSpec.ofChange stepOnlySpec)

/-- ITS FALSE NEIGHBOUR: 'it returns false'. Refute it at one input. -/
def stepOnlyWrong : ChangeSpec := { name := "stepOnly", fn := fun _ => fun
  | [d] => { results := [.lit (.bool false)], args := [d] }
  | _ => none }
def StepOnlyWrongFalsely : Prop := stepOnlyRow.holds Tryd.pinned (OpenSpec.ofChange stepOnlyWrong)

/-- 'cartularykeep.StepOrder': WHATEVER THE INPUT: true; the input reads as it did. -/
def stepOrderSpec : ChangeSpec := { name := "stepOrder", fn := fun _ => fun
  | [d1, d2, d3, d4, d5, d6] => { results := [.lit (.bool true)], args := [d1, d2, d3, d4, d5, d6] }
  | _ => none }
def stepOrderRow : OpenClaim := { program := "ytbpmgpbmeganoaadoor", sum := "b3a8ce1d181a4316eb2cb7a8b83609a050a7cbcd8837a4addf4daf8396c06c9b", func := "cartulary/cartularykeep.StepOrder", spec := "stepOrder", unfollowed := true, recurses := true, named := ["cartulary/sum.roundConstants"], apart := false, laid := [("cartulary/sum.roundConstants", laid_cartulary_sum_roundConstants)] }
def StepOrderSaid : Prop := stepOrderRow.holds Tryd.pinned (OpenSpec.ofChange stepOrderSpec)

/-- ITS FALSE NEIGHBOUR: 'it returns false'. Refute it at one input. -/
def stepOrderWrong : ChangeSpec := { name := "stepOrder", fn := fun _ => fun
  | [d1, d2, d3, d4, d5, d6] => { results := [.lit (.bool false)], args := [d1, d2, d3, d4, d5, d6] }
  | _ => none }
def StepOrderWrongFalsely : Prop := stepOrderRow.holds Tryd.pinned (OpenSpec.ofChange stepOrderWrong)

/-- 'cartularykeep.StepSealed': WHATEVER THE INPUT: true; the input reads as it did. -/
def stepSealedSpec : ChangeSpec := { name := "stepSealed", fn := fun _ => fun
  | [d1, d2, d3, d4, d5] => { results := [.lit (.bool true)], args := [d1, d2, d3, d4, d5] }
  | _ => none }
def stepSealedRow : OpenClaim := { program := "ytbpmgpbmeganoaadoor", sum := "b3a8ce1d181a4316eb2cb7a8b83609a050a7cbcd8837a4addf4daf8396c06c9b", func := "cartulary/cartularykeep.StepSealed", spec := "stepSealed", unfollowed := true, recurses := true, named := ["cartulary/sum.roundConstants"], apart := false, laid := [("cartulary/sum.roundConstants", laid_cartulary_sum_roundConstants)] }
def StepSealedSaid : Prop := stepSealedRow.holds Tryd.pinned (OpenSpec.ofChange stepSealedSpec)

/-- ITS FALSE NEIGHBOUR: 'it returns false'. Refute it at one input. -/
def stepSealedWrong : ChangeSpec := { name := "stepSealed", fn := fun _ => fun
  | [d1, d2, d3, d4, d5] => { results := [.lit (.bool false)], args := [d1, d2, d3, d4, d5] }
  | _ => none }
def StepSealedWrongFalsely : Prop := stepSealedRow.holds Tryd.pinned (OpenSpec.ofChange stepSealedWrong)

/-- 'cartularykeep.StepParts': WHATEVER THE INPUT: true; the input reads as it did. -/
def stepPartsSpec : ChangeSpec := { name := "stepParts", fn := fun _ => fun
  | [d1, d2, d3] => { results := [.lit (.bool true)], args := [d1, d2, d3] }
  | _ => none }
def stepPartsRow : OpenClaim := { program := "ytbpmgpbmeganoaadoor", sum := "b3a8ce1d181a4316eb2cb7a8b83609a050a7cbcd8837a4addf4daf8396c06c9b", func := "cartulary/cartularykeep.StepParts", spec := "stepParts", inPlace := ["internal/bytealg.abigen_runtime_cmpstring"], unfollowed := true, recurses := true, named := ["cartulary/sum.roundConstants"], apart := false, laid := [("cartulary/sum.roundConstants", laid_cartulary_sum_roundConstants)] }
def StepPartsSaid : Prop := stepPartsRow.holds Tryd.pinned (OpenSpec.ofChange stepPartsSpec)

/-- ITS FALSE NEIGHBOUR: 'it returns false'. Refute it at one input. -/
def stepPartsWrong : ChangeSpec := { name := "stepParts", fn := fun _ => fun
  | [d1, d2, d3] => { results := [.lit (.bool false)], args := [d1, d2, d3] }
  | _ => none }
def StepPartsWrongFalsely : Prop := stepPartsRow.holds Tryd.pinned (OpenSpec.ofChange stepPartsWrong)

/- THE SECOND FORM. 'bulk': how many values and letters a reading holds, each counted each time it is reached (what is shared counts as often as it is met; a slice's spare places count too). A statement '..UptoSaid' is the law's where the arguments, and the package variables that the reading takes, are together of bulk at most 1048576: NARROWER than '..Said'. Prove '..Said' where nothing that the law and all that it calls make is longer than what came in: it says more and counts as full. Else prove '..UptoSaid'. A law counts once. -/
mutual
def uptoBulk {H : Type} : DataW H → Nat
  | .lit (.string bytes) => bytes.length + 1
  | .lit _ => 1
  | .nil => 1
  | .ptr d => uptoBulk d + 1
  | .slice elems spare => uptoBulkAll elems + uptoBulkAll spare + 1
  | .agg parts => uptoBulkAll parts + 1
  | .iface _ d => uptoBulk d + 1
  | .map entries => uptoBulkEntries entries + 1
  | .held _ => 1
def uptoBulkAll {H : Type} : List (DataW H) → Nat
  | [] => 0
  | d :: r => uptoBulk d + uptoBulkAll r
def uptoBulkEntries {H : Type} : List (Lit × DataW H) → Nat
  | [] => 0
  | x :: r => uptoBulkEntry x + uptoBulkEntries r
def uptoBulkEntry {H : Type} : Lit × DataW H → Nat
  | (.string bytes, d) => bytes.length + uptoBulk d + 1
  | (_, d) => uptoBulk d + 1
 end
def uptoSmall : (H : Type) → List (DataW H) → Bool := fun _ ds => decide (uptoBulkAll ds ≤ 1048576)
def OpenSpec.upto (s : _root_.Go.ChangeSpec) : _root_.Go.OpenSpec := { _root_.Go.OpenSpec.ofChange s with cond := some uptoSmall }

/-- 'cartularylaw.StepEncodes', WHERE WHAT IT READS IS OF BULK AT MOST 1048576: true; the input reads as it did. -/
def stepEncodesUptoRow : OpenClaim := { program := "ytbpmgpbmeganoaadoor", sum := "b3a8ce1d181a4316eb2cb7a8b83609a050a7cbcd8837a4addf4daf8396c06c9b", func := "cartulary/cartularylaw.StepEncodes", spec := "stepEncodes", unfollowed := true, recurses := true, named := ["cartulary/sum.roundConstants"], apart := false, laid := [("cartulary/sum.roundConstants", laid_cartulary_sum_roundConstants)], narrowed := true }
def StepEncodesUptoSaid : Prop := stepEncodesUptoRow.holds Tryd.pinned (OpenSpec.upto stepEncodesSpec)

/-- 'cartularylaw.StepDecodes', WHERE WHAT IT READS IS OF BULK AT MOST 1048576: true; the input reads as it did. -/
def stepDecodesUptoRow : OpenClaim := { program := "ytbpmgpbmeganoaadoor", sum := "b3a8ce1d181a4316eb2cb7a8b83609a050a7cbcd8837a4addf4daf8396c06c9b", func := "cartulary/cartularylaw.StepDecodes", spec := "stepDecodes", unfollowed := true, recurses := true, named := ["cartulary/sum.roundConstants"], apart := false, laid := [("cartulary/sum.roundConstants", laid_cartulary_sum_roundConstants)], narrowed := true }
def StepDecodesUptoSaid : Prop := stepDecodesUptoRow.holds Tryd.pinned (OpenSpec.upto stepDecodesSpec)

/-- 'cartularylaw.StepSigns', WHERE WHAT IT READS IS OF BULK AT MOST 1048576: true; the input reads as it did. -/
def stepSignsUptoRow : OpenClaim := { program := "ytbpmgpbmeganoaadoor", sum := "b3a8ce1d181a4316eb2cb7a8b83609a050a7cbcd8837a4addf4daf8396c06c9b", func := "cartulary/cartularylaw.StepSigns", spec := "stepSigns", unfollowed := true, recurses := true, named := ["cartulary/sum.roundConstants"], apart := false, laid := [("cartulary/sum.roundConstants", laid_cartulary_sum_roundConstants)], narrowed := true }
def StepSignsUptoSaid : Prop := stepSignsUptoRow.holds Tryd.pinned (OpenSpec.upto stepSignsSpec)

/-- 'cartularylaw.StepChecks', WHERE WHAT IT READS IS OF BULK AT MOST 1048576: true; the input reads as it did. -/
def stepChecksUptoRow : OpenClaim := { program := "ytbpmgpbmeganoaadoor", sum := "b3a8ce1d181a4316eb2cb7a8b83609a050a7cbcd8837a4addf4daf8396c06c9b", func := "cartulary/cartularylaw.StepChecks", spec := "stepChecks", unfollowed := true, recurses := true, named := ["cartulary/sum.roundConstants"], apart := false, laid := [("cartulary/sum.roundConstants", laid_cartulary_sum_roundConstants)], narrowed := true }
def StepChecksUptoSaid : Prop := stepChecksUptoRow.holds Tryd.pinned (OpenSpec.upto stepChecksSpec)

/-- 'cartularylaw.StepReplays', WHERE WHAT IT READS IS OF BULK AT MOST 1048576: true; the input reads as it did. -/
def stepReplaysUptoRow : OpenClaim := { program := "ytbpmgpbmeganoaadoor", sum := "b3a8ce1d181a4316eb2cb7a8b83609a050a7cbcd8837a4addf4daf8396c06c9b", func := "cartulary/cartularylaw.StepReplays", spec := "stepReplays", inPlace := ["internal/bytealg.abigen_runtime_cmpstring"], unfollowed := true, recurses := true, named := ["cartulary/sum.roundConstants"], apart := false, laid := [("cartulary/sum.roundConstants", laid_cartulary_sum_roundConstants)], narrowed := true }
def StepReplaysUptoSaid : Prop := stepReplaysUptoRow.holds Tryd.pinned (OpenSpec.upto stepReplaysSpec)

/-- 'cartularykeep.StepBack', WHERE WHAT IT READS IS OF BULK AT MOST 1048576: true; the input reads as it did. -/
def stepBackUptoRow : OpenClaim := { program := "ytbpmgpbmeganoaadoor", sum := "b3a8ce1d181a4316eb2cb7a8b83609a050a7cbcd8837a4addf4daf8396c06c9b", func := "cartulary/cartularykeep.StepBack", spec := "stepBack", unfollowed := true, recurses := true, named := ["cartulary/sum.roundConstants"], apart := false, laid := [("cartulary/sum.roundConstants", laid_cartulary_sum_roundConstants)], narrowed := true }
def StepBackUptoSaid : Prop := stepBackUptoRow.holds Tryd.pinned (OpenSpec.upto stepBackSpec)

/-- 'cartularykeep.StepOnly', WHERE WHAT IT READS IS OF BULK AT MOST 1048576: true; the input reads as it did. -/
def stepOnlyUptoRow : OpenClaim := { program := "ytbpmgpbmeganoaadoor", sum := "b3a8ce1d181a4316eb2cb7a8b83609a050a7cbcd8837a4addf4daf8396c06c9b", func := "cartulary/cartularykeep.StepOnly", spec := "stepOnly", unfollowed := true, recurses := true, named := ["cartulary/sum.roundConstants"], apart := false, laid := [("cartulary/sum.roundConstants", laid_cartulary_sum_roundConstants)], narrowed := true }
def StepOnlyUptoSaid : Prop := stepOnlyUptoRow.holds Tryd.pinned (OpenSpec.upto stepOnlySpec)

/-- 'cartularykeep.StepOrder', WHERE WHAT IT READS IS OF BULK AT MOST 1048576: true; the input reads as it did. -/
def stepOrderUptoRow : OpenClaim := { program := "ytbpmgpbmeganoaadoor", sum := "b3a8ce1d181a4316eb2cb7a8b83609a050a7cbcd8837a4addf4daf8396c06c9b", func := "cartulary/cartularykeep.StepOrder", spec := "stepOrder", unfollowed := true, recurses := true, named := ["cartulary/sum.roundConstants"], apart := false, laid := [("cartulary/sum.roundConstants", laid_cartulary_sum_roundConstants)], narrowed := true }
def StepOrderUptoSaid : Prop := stepOrderUptoRow.holds Tryd.pinned (OpenSpec.upto stepOrderSpec)

/-- 'cartularykeep.StepSealed', WHERE WHAT IT READS IS OF BULK AT MOST 1048576: true; the input reads as it did. -/
def stepSealedUptoRow : OpenClaim := { program := "ytbpmgpbmeganoaadoor", sum := "b3a8ce1d181a4316eb2cb7a8b83609a050a7cbcd8837a4addf4daf8396c06c9b", func := "cartulary/cartularykeep.StepSealed", spec := "stepSealed", unfollowed := true, recurses := true, named := ["cartulary/sum.roundConstants"], apart := false, laid := [("cartulary/sum.roundConstants", laid_cartulary_sum_roundConstants)], narrowed := true }
def StepSealedUptoSaid : Prop := stepSealedUptoRow.holds Tryd.pinned (OpenSpec.upto stepSealedSpec)

/-- 'cartularykeep.StepParts', WHERE WHAT IT READS IS OF BULK AT MOST 1048576: true; the input reads as it did. -/
def stepPartsUptoRow : OpenClaim := { program := "ytbpmgpbmeganoaadoor", sum := "b3a8ce1d181a4316eb2cb7a8b83609a050a7cbcd8837a4addf4daf8396c06c9b", func := "cartulary/cartularykeep.StepParts", spec := "stepParts", inPlace := ["internal/bytealg.abigen_runtime_cmpstring"], unfollowed := true, recurses := true, named := ["cartulary/sum.roundConstants"], apart := false, laid := [("cartulary/sum.roundConstants", laid_cartulary_sum_roundConstants)], narrowed := true }
def StepPartsUptoSaid : Prop := stepPartsUptoRow.holds Tryd.pinned (OpenSpec.upto stepPartsSpec)

end Rows
end Go.Proofs.YtbpmgpbmeganoaaDoor
