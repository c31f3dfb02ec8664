/-
  NARROWER THAN 'FOR EVERY INPUT', by the rows' own cells (each row's printed sentence says how): SumSums: laid · SumAdds: laid · SumSeals: laid · SumHexes: laid · SumParts: laid · SumStates: laid · SumSealed: laid · SumBack: laid.
  DERIVED. THE GIVEN ROWS OF THIS SEAT. 8 by the template 'for every input the law returns true; each argument reads behind the call as it read before'; 0 by the template 'total and deterministic' (their statements: YtngfgmcnpbjefaaDoorTotals.lean).
  GIVEN WITH THE SEED: the statements are not yours to turn. If you find one false, say at which input.
  Laid BY PROGRAM, IN A SANDBOX (cutbox-rows.mjs): the forced cells as the released guide's own fill.sh prints them over the translation 8bc9a4fd54572939… (all of the seat's roots in one cut). By AI agents, Wed Nov 11 2026. No macro, syntax, notation, axiom, sorry.
-/
import Derived.Test.YtngfgmcnpbjefaaDoorChecked
import GoSem.Claim
import GoSem.ClaimJoined
import GoSem.ClaimMapViews
import Derived.JoinedTies
import Derived.KernelRfl
namespace Go.Proofs.YtngfgmcnpbjefaaDoor
/- THE CELL 'sum', in the pinned program and in every row, IS THE sha256 OF THE DUMP (.gsa) THAT YtngfgmcnpbjefaaDoorProg.lean LOADS. Nothing in Lean hashes anything: it is a label: what it is worth is what the hold of that sum in a sandbox is worth. -/
noncomputable def Tryd.pinned : Pinned := { name := "ytngfgmcnpbjefaadoor", sum := "8bc9a4fd54572939922b476544e643d6563cb5758697da37ac7d9541bbfc67ee", checked := Tryd.checked }
namespace Rows
def none {H : Type} : Left H := { results := [], args := [] }

/- WHAT THE LISTED PACKAGE-LEVEL VARIABLES READ AS WHEN THE CALL BEGINS. Each datum BY PROGRAM (the guide's laid-datum.mjs) off the statement by which the dump's own 'gosem.cut.vars' lays the variable. In a bare row this is a premise. The card (YtngfgmcnpbjefaaDoorCards.lean) ties it to the program's text. -/
def laid_cartulary_sum_roundConstants {H : Type} : DataW H := .agg [.lit (.int .u32 1116352408), .lit (.int .u32 1899447441), .lit (.int .u32 3049323471), .lit (.int .u32 3921009573), .lit (.int .u32 961987163), .lit (.int .u32 1508970993), .lit (.int .u32 2453635748), .lit (.int .u32 2870763221), .lit (.int .u32 3624381080), .lit (.int .u32 310598401), .lit (.int .u32 607225278), .lit (.int .u32 1426881987), .lit (.int .u32 1925078388), .lit (.int .u32 2162078206), .lit (.int .u32 2614888103), .lit (.int .u32 3248222580), .lit (.int .u32 3835390401), .lit (.int .u32 4022224774), .lit (.int .u32 264347078), .lit (.int .u32 604807628), .lit (.int .u32 770255983), .lit (.int .u32 1249150122), .lit (.int .u32 1555081692), .lit (.int .u32 1996064986), .lit (.int .u32 2554220882), .lit (.int .u32 2821834349), .lit (.int .u32 2952996808), .lit (.int .u32 3210313671), .lit (.int .u32 3336571891), .lit (.int .u32 3584528711), .lit (.int .u32 113926993), .lit (.int .u32 338241895), .lit (.int .u32 666307205), .lit (.int .u32 773529912), .lit (.int .u32 1294757372), .lit (.int .u32 1396182291), .lit (.int .u32 1695183700), .lit (.int .u32 1986661051), .lit (.int .u32 2177026350), .lit (.int .u32 2456956037), .lit (.int .u32 2730485921), .lit (.int .u32 2820302411), .lit (.int .u32 3259730800), .lit (.int .u32 3345764771), .lit (.int .u32 3516065817), .lit (.int .u32 3600352804), .lit (.int .u32 4094571909), .lit (.int .u32 275423344), .lit (.int .u32 430227734), .lit (.int .u32 506948616), .lit (.int .u32 659060556), .lit (.int .u32 883997877), .lit (.int .u32 958139571), .lit (.int .u32 1322822218), .lit (.int .u32 1537002063), .lit (.int .u32 1747873779), .lit (.int .u32 1955562222), .lit (.int .u32 2024104815), .lit (.int .u32 2227730452), .lit (.int .u32 2361852424), .lit (.int .u32 2428436474), .lit (.int .u32 2756734187), .lit (.int .u32 3204031479), .lit (.int .u32 3329325298)]

/-- 'cartularylaw.SumSums': WHATEVER THE INPUT: true; the input reads as it did. -/
def sumSumsSpec : ChangeSpec := { name := "sumSums", fn := fun _ => fun
  | [d] => { results := [.lit (.bool true)], args := [d] }
  | _ => none }
def sumSumsRow : OpenClaim := { program := "ytngfgmcnpbjefaadoor", sum := "8bc9a4fd54572939922b476544e643d6563cb5758697da37ac7d9541bbfc67ee", func := "cartulary/cartularylaw.SumSums", spec := "sumSums", unfollowed := true, recurses := true, named := ["cartulary/sum.roundConstants"], apart := false, laid := [("cartulary/sum.roundConstants", laid_cartulary_sum_roundConstants)] }
def SumSumsSaid : Prop := sumSumsRow.holds Tryd.pinned (OpenSpec.ofChange sumSumsSpec)

/-- ITS FALSE NEIGHBOUR: 'it returns false'. Refute it at one input. -/
def sumSumsWrong : ChangeSpec := { name := "sumSums", fn := fun _ => fun
  | [d] => { results := [.lit (.bool false)], args := [d] }
  | _ => none }
def SumSumsWrongFalsely : Prop := sumSumsRow.holds Tryd.pinned (OpenSpec.ofChange sumSumsWrong)

/-- 'cartularylaw.SumAdds': WHATEVER THE INPUT: true; the input reads as it did. -/
def sumAddsSpec : ChangeSpec := { name := "sumAdds", fn := fun _ => fun
  | [d1, d2] => { results := [.lit (.bool true)], args := [d1, d2] }
  | _ => none }
def sumAddsRow : OpenClaim := { program := "ytngfgmcnpbjefaadoor", sum := "8bc9a4fd54572939922b476544e643d6563cb5758697da37ac7d9541bbfc67ee", func := "cartulary/cartularylaw.SumAdds", spec := "sumAdds", unfollowed := true, recurses := true, named := ["cartulary/sum.roundConstants"], apart := false, laid := [("cartulary/sum.roundConstants", laid_cartulary_sum_roundConstants)] }
def SumAddsSaid : Prop := sumAddsRow.holds Tryd.pinned (OpenSpec.ofChange sumAddsSpec)

/-- ITS FALSE NEIGHBOUR: 'it returns false'. Refute it at one input. -/
def sumAddsWrong : ChangeSpec := { name := "sumAdds", fn := fun _ => fun
  | [d1, d2] => { results := [.lit (.bool false)], args := [d1, d2] }
  | _ => none }
def SumAddsWrongFalsely : Prop := sumAddsRow.holds Tryd.pinned (OpenSpec.ofChange sumAddsWrong)

/-- 'cartularylaw.SumSeals': WHATEVER THE INPUT: true; the input reads as it did. -/
def sumSealsSpec : ChangeSpec := { name := "sumSeals", fn := fun _ => fun
  | [d1, d2] => { results := [.lit (.bool true)], args := [d1, d2] }
  | _ => none }
def sumSealsRow : OpenClaim := { program := "ytngfgmcnpbjefaadoor", sum := "8bc9a4fd54572939922b476544e643d6563cb5758697da37ac7d9541bbfc67ee", func := "cartulary/cartularylaw.SumSeals", spec := "sumSeals", unfollowed := true, recurses := true, named := ["cartulary/sum.roundConstants"], apart := false, laid := [("cartulary/sum.roundConstants", laid_cartulary_sum_roundConstants)] }
def SumSealsSaid : Prop := sumSealsRow.holds Tryd.pinned (OpenSpec.ofChange sumSealsSpec)

/-- ITS FALSE NEIGHBOUR: 'it returns false'. Refute it at one input. -/
def sumSealsWrong : ChangeSpec := { name := "sumSeals", fn := fun _ => fun
  | [d1, d2] => { results := [.lit (.bool false)], args := [d1, d2] }
  | _ => none }
def SumSealsWrongFalsely : Prop := sumSealsRow.holds Tryd.pinned (OpenSpec.ofChange sumSealsWrong)

/-- 'cartularylaw.SumHexes': WHATEVER THE INPUT: true; the input reads as it did. -/
def sumHexesSpec : ChangeSpec := { name := "sumHexes", fn := fun _ => fun
  | [d] => { results := [.lit (.bool true)], args := [d] }
  | _ => none }
def sumHexesRow : OpenClaim := { program := "ytngfgmcnpbjefaadoor", sum := "8bc9a4fd54572939922b476544e643d6563cb5758697da37ac7d9541bbfc67ee", func := "cartulary/cartularylaw.SumHexes", spec := "sumHexes", inPlace := ["internal/bytealg.IndexByteString"], named := ["cartulary/sum.roundConstants"], apart := false, laid := [("cartulary/sum.roundConstants", laid_cartulary_sum_roundConstants)] }
def SumHexesSaid : Prop := sumHexesRow.holds Tryd.pinned (OpenSpec.ofChange sumHexesSpec)

/-- ITS FALSE NEIGHBOUR: 'it returns false'. Refute it at one input. -/
def sumHexesWrong : ChangeSpec := { name := "sumHexes", fn := fun _ => fun
  | [d] => { results := [.lit (.bool false)], args := [d] }
  | _ => none }
def SumHexesWrongFalsely : Prop := sumHexesRow.holds Tryd.pinned (OpenSpec.ofChange sumHexesWrong)

/-- 'cartularykeep.SumParts': WHATEVER THE INPUT: true; the input reads as it did. -/
def sumPartsSpec : ChangeSpec := { name := "sumParts", fn := fun _ => fun
  | [d1, d2, d3] => { results := [.lit (.bool true)], args := [d1, d2, d3] }
  | _ => none }
def sumPartsRow : OpenClaim := { program := "ytngfgmcnpbjefaadoor", sum := "8bc9a4fd54572939922b476544e643d6563cb5758697da37ac7d9541bbfc67ee", func := "cartulary/cartularykeep.SumParts", spec := "sumParts", named := ["cartulary/sum.roundConstants"], apart := false, laid := [("cartulary/sum.roundConstants", laid_cartulary_sum_roundConstants)] }
def SumPartsSaid : Prop := sumPartsRow.holds Tryd.pinned (OpenSpec.ofChange sumPartsSpec)

/-- ITS FALSE NEIGHBOUR: 'it returns false'. Refute it at one input. -/
def sumPartsWrong : ChangeSpec := { name := "sumParts", fn := fun _ => fun
  | [d1, d2, d3] => { results := [.lit (.bool false)], args := [d1, d2, d3] }
  | _ => none }
def SumPartsWrongFalsely : Prop := sumPartsRow.holds Tryd.pinned (OpenSpec.ofChange sumPartsWrong)

/-- 'cartularykeep.SumStates': WHATEVER THE INPUT: true; the input reads as it did. -/
def sumStatesSpec : ChangeSpec := { name := "sumStates", fn := fun _ => fun
  | [d1, d2, d3] => { results := [.lit (.bool true)], args := [d1, d2, d3] }
  | _ => none }
def sumStatesRow : OpenClaim := { program := "ytngfgmcnpbjefaadoor", sum := "8bc9a4fd54572939922b476544e643d6563cb5758697da37ac7d9541bbfc67ee", func := "cartulary/cartularykeep.SumStates", spec := "sumStates", named := ["cartulary/sum.roundConstants"], apart := false, laid := [("cartulary/sum.roundConstants", laid_cartulary_sum_roundConstants)] }
def SumStatesSaid : Prop := sumStatesRow.holds Tryd.pinned (OpenSpec.ofChange sumStatesSpec)

/-- ITS FALSE NEIGHBOUR: 'it returns false'. Refute it at one input. -/
def sumStatesWrong : ChangeSpec := { name := "sumStates", fn := fun _ => fun
  | [d1, d2, d3] => { results := [.lit (.bool false)], args := [d1, d2, d3] }
  | _ => none }
def SumStatesWrongFalsely : Prop := sumStatesRow.holds Tryd.pinned (OpenSpec.ofChange sumStatesWrong)

/-- 'cartularykeep.SumSealed': WHATEVER THE INPUT: true; the input reads as it did. -/
def sumSealedSpec : ChangeSpec := { name := "sumSealed", fn := fun _ => fun
  | [d1, d2] => { results := [.lit (.bool true)], args := [d1, d2] }
  | _ => none }
def sumSealedRow : OpenClaim := { program := "ytngfgmcnpbjefaadoor", sum := "8bc9a4fd54572939922b476544e643d6563cb5758697da37ac7d9541bbfc67ee", func := "cartulary/cartularykeep.SumSealed", spec := "sumSealed", named := ["cartulary/sum.roundConstants"], apart := false, laid := [("cartulary/sum.roundConstants", laid_cartulary_sum_roundConstants)] }
def SumSealedSaid : Prop := sumSealedRow.holds Tryd.pinned (OpenSpec.ofChange sumSealedSpec)

/-- ITS FALSE NEIGHBOUR: 'it returns false'. Refute it at one input. -/
def sumSealedWrong : ChangeSpec := { name := "sumSealed", fn := fun _ => fun
  | [d1, d2] => { results := [.lit (.bool false)], args := [d1, d2] }
  | _ => none }
def SumSealedWrongFalsely : Prop := sumSealedRow.holds Tryd.pinned (OpenSpec.ofChange sumSealedWrong)

/-- 'cartularykeep.SumBack': WHATEVER THE INPUT: true; the input reads as it did. -/
def sumBackSpec : ChangeSpec := { name := "sumBack", fn := fun _ => fun
  | [d1, d2] => { results := [.lit (.bool true)], args := [d1, d2] }
  | _ => none }
def sumBackRow : OpenClaim := { program := "ytngfgmcnpbjefaadoor", sum := "8bc9a4fd54572939922b476544e643d6563cb5758697da37ac7d9541bbfc67ee", func := "cartulary/cartularykeep.SumBack", spec := "sumBack", inPlace := ["internal/bytealg.IndexByteString"], named := ["cartulary/sum.roundConstants"], apart := false, laid := [("cartulary/sum.roundConstants", laid_cartulary_sum_roundConstants)] }
def SumBackSaid : Prop := sumBackRow.holds Tryd.pinned (OpenSpec.ofChange sumBackSpec)

/-- ITS FALSE NEIGHBOUR: 'it returns false'. Refute it at one input. -/
def sumBackWrong : ChangeSpec := { name := "sumBack", fn := fun _ => fun
  | [d1, d2] => { results := [.lit (.bool false)], args := [d1, d2] }
  | _ => none }
def SumBackWrongFalsely : Prop := sumBackRow.holds Tryd.pinned (OpenSpec.ofChange sumBackWrong)

/- THE SECOND FORM. 'bulk': how many values and letters a reading holds, each counted each time it is reached (what is shared counts as often as it is met; a slice's spare places count too). A statement '..UptoSaid' is the law's where the arguments, and the package variables that the reading takes, are together of bulk at most 1048576: NARROWER than '..Said'. Prove '..Said' where nothing that the law and all that it calls make is longer than what came in: it says more and counts as full. Else prove '..UptoSaid'. A law counts once. -/
mutual
def uptoBulk {H : Type} : DataW H → Nat
  | .lit (.string bytes) => bytes.length + 1
  | .lit _ => 1
  | .nil => 1
  | .ptr d => uptoBulk d + 1
  | .slice elems spare => uptoBulkAll elems + uptoBulkAll spare + 1
  | .agg parts => uptoBulkAll parts + 1
  | .iface _ d => uptoBulk d + 1
  | .map entries => uptoBulkEntries entries + 1
  | .held _ => 1
def uptoBulkAll {H : Type} : List (DataW H) → Nat
  | [] => 0
  | d :: r => uptoBulk d + uptoBulkAll r
def uptoBulkEntries {H : Type} : List (Lit × DataW H) → Nat
  | [] => 0
  | x :: r => uptoBulkEntry x + uptoBulkEntries r
def uptoBulkEntry {H : Type} : Lit × DataW H → Nat
  | (.string bytes, d) => bytes.length + uptoBulk d + 1
  | (_, d) => uptoBulk d + 1
 end
def uptoSmall : (H : Type) → List (DataW H) → Bool := fun _ ds => decide (uptoBulkAll ds ≤ 1048576)
def OpenSpec.upto (s : _root_.Go.ChangeSpec) : _root_.Go.OpenSpec := { _root_.Go.OpenSpec.ofChange s with cond := some uptoSmall }

/-- 'cartularylaw.SumSums', WHERE WHAT IT READS IS OF BULK AT MOST 1048576: true; the input reads as it did. -/
def sumSumsUptoRow : OpenClaim := { program := "ytngfgmcnpbjefaadoor", sum := "8bc9a4fd54572939922b476544e643d6563cb5758697da37ac7d9541bbfc67ee", func := "cartulary/cartularylaw.SumSums", spec := "sumSums", unfollowed := true, recurses := true, named := ["cartulary/sum.roundConstants"], apart := false, laid := [("cartulary/sum.roundConstants", laid_cartulary_sum_roundConstants)], narrowed := true }
def SumSumsUptoSaid : Prop := sumSumsUptoRow.holds Tryd.pinned (OpenSpec.upto sumSumsSpec)

/-- 'cartularylaw.SumAdds', WHERE WHAT IT READS IS OF BULK AT MOST 1048576: true; the input reads as it did. -/
def sumAddsUptoRow : OpenClaim := { program := "ytngfgmcnpbjefaadoor", sum := "8bc9a4fd54572939922b476544e643d6563cb5758697da37ac7d9541bbfc67ee", func := "cartulary/cartularylaw.SumAdds", spec := "sumAdds", unfollowed := true, recurses := true, named := ["cartulary/sum.roundConstants"], apart := false, laid := [("cartulary/sum.roundConstants", laid_cartulary_sum_roundConstants)], narrowed := true }
def SumAddsUptoSaid : Prop := sumAddsUptoRow.holds Tryd.pinned (OpenSpec.upto sumAddsSpec)

/-- 'cartularylaw.SumSeals', WHERE WHAT IT READS IS OF BULK AT MOST 1048576: true; the input reads as it did. -/
def sumSealsUptoRow : OpenClaim := { program := "ytngfgmcnpbjefaadoor", sum := "8bc9a4fd54572939922b476544e643d6563cb5758697da37ac7d9541bbfc67ee", func := "cartulary/cartularylaw.SumSeals", spec := "sumSeals", unfollowed := true, recurses := true, named := ["cartulary/sum.roundConstants"], apart := false, laid := [("cartulary/sum.roundConstants", laid_cartulary_sum_roundConstants)], narrowed := true }
def SumSealsUptoSaid : Prop := sumSealsUptoRow.holds Tryd.pinned (OpenSpec.upto sumSealsSpec)

/-- 'cartularylaw.SumHexes', WHERE WHAT IT READS IS OF BULK AT MOST 1048576: true; the input reads as it did. -/
def sumHexesUptoRow : OpenClaim := { program := "ytngfgmcnpbjefaadoor", sum := "8bc9a4fd54572939922b476544e643d6563cb5758697da37ac7d9541bbfc67ee", func := "cartulary/cartularylaw.SumHexes", spec := "sumHexes", inPlace := ["internal/bytealg.IndexByteString"], named := ["cartulary/sum.roundConstants"], apart := false, laid := [("cartulary/sum.roundConstants", laid_cartulary_sum_roundConstants)], narrowed := true }
def SumHexesUptoSaid : Prop := sumHexesUptoRow.holds Tryd.pinned (OpenSpec.upto sumHexesSpec)

/-- 'cartularykeep.SumParts', WHERE WHAT IT READS IS OF BULK AT MOST 1048576: true; the input reads as it did. -/
def sumPartsUptoRow : OpenClaim := { program := "ytngfgmcnpbjefaadoor", sum := "8bc9a4fd54572939922b476544e643d6563cb5758697da37ac7d9541bbfc67ee", func := "cartulary/cartularykeep.SumParts", spec := "sumParts", named := ["cartulary/sum.roundConstants"], apart := false, laid := [("cartulary/sum.roundConstants", laid_cartulary_sum_roundConstants)], narrowed := true }
def SumPartsUptoSaid : Prop := sumPartsUptoRow.holds Tryd.pinned (OpenSpec.upto sumPartsSpec)

/-- 'cartularykeep.SumStates', WHERE WHAT IT READS IS OF BULK AT MOST 1048576: true; the input reads as it did. -/
def sumStatesUptoRow : OpenClaim := { program := "ytngfgmcnpbjefaadoor", sum := "8bc9a4fd54572939922b476544e643d6563cb5758697da37ac7d9541bbfc67ee", func := "cartulary/cartularykeep.SumStates", spec := "sumStates", named := ["cartulary/sum.roundConstants"], apart := false, laid := [("cartulary/sum.roundConstants", laid_cartulary_sum_roundConstants)], narrowed := true }
def SumStatesUptoSaid : Prop := sumStatesUptoRow.holds Tryd.pinned (OpenSpec.upto sumStatesSpec)

/-- 'cartularykeep.SumSealed', WHERE WHAT IT READS IS OF BULK AT MOST 1048576: true; the input reads as it did. -/
def sumSealedUptoRow : OpenClaim := { program := "ytngfgmcnpbjefaadoor", sum := "8bc9a4fd54572939922b476544e643d6563cb5758697da37ac7d9541bbfc67ee", func := "cartulary/cartularykeep.SumSealed", spec := "sumSealed", named := ["cartulary/sum.roundConstants"], apart := false, laid := [("cartulary/sum.roundConstants", laid_cartulary_sum_roundConstants)], narrowed := true }
def SumSealedUptoSaid : Prop := sumSealedUptoRow.holds Tryd.pinned (OpenSpec.upto sumSealedSpec)

/-- 'cartularykeep.SumBack', WHERE WHAT IT READS IS OF BULK AT MOST 1048576: true; the input reads as it did. -/
def sumBackUptoRow : OpenClaim := { program := "ytngfgmcnpbjefaadoor", sum := "8bc9a4fd54572939922b476544e643d6563cb5758697da37ac7d9541bbfc67ee", func := "cartulary/cartularykeep.SumBack", spec := "sumBack", inPlace := ["internal/bytealg.IndexByteString"], named := ["cartulary/sum.roundConstants"], apart := false, laid := [("cartulary/sum.roundConstants", laid_cartulary_sum_roundConstants)], narrowed := true }
def SumBackUptoSaid : Prop := sumBackUptoRow.holds Tryd.pinned (OpenSpec.upto sumBackSpec)

end Rows
end Go.Proofs.YtngfgmcnpbjefaaDoor
