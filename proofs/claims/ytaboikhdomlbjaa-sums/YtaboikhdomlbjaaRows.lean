/-
  No cell of these rows narrows 'for every input' (looked for: loops, veiled, ifaces, maps, wideKeys, modest, calm, conditions, laid).
  DERIVED. THE GIVEN ROWS OF THIS SEAT. 8 by the template 'for every input the law returns true; each argument reads behind the call as it read before'; 0 by the template 'total and deterministic' (their statements: YtaboikhdomlbjaaTotals.lean).
  GIVEN WITH THE SEED: the statements are not yours to turn. If you find one false, say at which input.
  Laid BY PROGRAM, IN A SANDBOX (cutbox-rows.mjs): the forced cells as the released guide's own fill.sh prints them over the translation cc249eeab923d683… (all of the seat's roots in one cut). By AI agents, Wed Nov 11 2026. No macro, syntax, notation, axiom, sorry.
-/
import Derived.Test.YtaboikhdomlbjaaChecked
import GoSem.Claim
import GoSem.ClaimJoined
import GoSem.ClaimMapViews
import Derived.JoinedTies
import Derived.KernelRfl
namespace Go.Proofs.Ytaboikhdomlbjaa
/- THE CELL 'sum', in the pinned program and in every row, IS THE sha256 OF THE DUMP (.gsa) THAT YtaboikhdomlbjaaProg.lean LOADS. Nothing in Lean hashes anything: it is a label: what it is worth is what the hold of that sum in a sandbox is worth. -/
noncomputable def Try.pinned : Pinned := { name := "ytaboikhdomlbjaa", sum := "cc249eeab923d683473460222608508126028240db0f073d6dffb1d2346f5ce6", checked := Try.checked }
namespace Rows
def none {H : Type} : Left H := { results := [], args := [] }

/-- 'stratalaw.Sums': WHATEVER THE INPUT: true; the input reads as it did. -/
def sumsSpec : ChangeSpec := { name := "sums", fn := fun _ => fun
  | [d] => { results := [.lit (.bool true)], args := [d] }
  | _ => none }
def sumsRow : OpenClaim := { program := "ytaboikhdomlbjaa", sum := "cc249eeab923d683473460222608508126028240db0f073d6dffb1d2346f5ce6", func := "strata/stratalaw.Sums", spec := "sums", apart := false }
def SumsSaid : Prop := sumsRow.holds Try.pinned (OpenSpec.ofChange sumsSpec)

/-- ITS FALSE NEIGHBOUR: 'it returns false'. Refute it at one input. -/
def sumsWrong : ChangeSpec := { name := "sums", fn := fun _ => fun
  | [d] => { results := [.lit (.bool false)], args := [d] }
  | _ => none }
def SumsWrongFalsely : Prop := sumsRow.holds Try.pinned (OpenSpec.ofChange sumsWrong)

/-- 'stratalaw.Squeezes': WHATEVER THE INPUT: true; the input reads as it did. -/
def squeezesSpec : ChangeSpec := { name := "squeezes", fn := fun _ => fun
  | [d1, d2] => { results := [.lit (.bool true)], args := [d1, d2] }
  | _ => none }
def squeezesRow : OpenClaim := { program := "ytaboikhdomlbjaa", sum := "cc249eeab923d683473460222608508126028240db0f073d6dffb1d2346f5ce6", func := "strata/stratalaw.Squeezes", spec := "squeezes", unfollowed := true, recurses := true, apart := false }
def SqueezesSaid : Prop := squeezesRow.holds Try.pinned (OpenSpec.ofChange squeezesSpec)

/-- ITS FALSE NEIGHBOUR: 'it returns false'. Refute it at one input. -/
def squeezesWrong : ChangeSpec := { name := "squeezes", fn := fun _ => fun
  | [d1, d2] => { results := [.lit (.bool false)], args := [d1, d2] }
  | _ => none }
def SqueezesWrongFalsely : Prop := squeezesRow.holds Try.pinned (OpenSpec.ofChange squeezesWrong)

/-- 'stratalaw.Unsqueezes': WHATEVER THE INPUT: true; the input reads as it did. -/
def unsqueezesSpec : ChangeSpec := { name := "unsqueezes", fn := fun _ => fun
  | [d1, d2, d3] => { results := [.lit (.bool true)], args := [d1, d2, d3] }
  | _ => none }
def unsqueezesRow : OpenClaim := { program := "ytaboikhdomlbjaa", sum := "cc249eeab923d683473460222608508126028240db0f073d6dffb1d2346f5ce6", func := "strata/stratalaw.Unsqueezes", spec := "unsqueezes", unfollowed := true, recurses := true, apart := false }
def UnsqueezesSaid : Prop := unsqueezesRow.holds Try.pinned (OpenSpec.ofChange unsqueezesSpec)

/-- ITS FALSE NEIGHBOUR: 'it returns false'. Refute it at one input. -/
def unsqueezesWrong : ChangeSpec := { name := "unsqueezes", fn := fun _ => fun
  | [d1, d2, d3] => { results := [.lit (.bool false)], args := [d1, d2, d3] }
  | _ => none }
def UnsqueezesWrongFalsely : Prop := unsqueezesRow.holds Try.pinned (OpenSpec.ofChange unsqueezesWrong)

/-- 'stratalaw.Frames': WHATEVER THE INPUT: true; the input reads as it did. -/
def framesSpec : ChangeSpec := { name := "frames", fn := fun _ => fun
  | [d] => { results := [.lit (.bool true)], args := [d] }
  | _ => none }
def framesRow : OpenClaim := { program := "ytaboikhdomlbjaa", sum := "cc249eeab923d683473460222608508126028240db0f073d6dffb1d2346f5ce6", func := "strata/stratalaw.Frames", spec := "frames", unfollowed := true, recurses := true, apart := false }
def FramesSaid : Prop := framesRow.holds Try.pinned (OpenSpec.ofChange framesSpec)

/-- ITS FALSE NEIGHBOUR: 'it returns false'. Refute it at one input. -/
def framesWrong : ChangeSpec := { name := "frames", fn := fun _ => fun
  | [d] => { results := [.lit (.bool false)], args := [d] }
  | _ => none }
def FramesWrongFalsely : Prop := framesRow.holds Try.pinned (OpenSpec.ofChange framesWrong)

/-- 'stratalaw.Torn': WHATEVER THE INPUT: true; the input reads as it did. -/
def tornSpec : ChangeSpec := { name := "torn", fn := fun _ => fun
  | [d1, d2] => { results := [.lit (.bool true)], args := [d1, d2] }
  | _ => none }
def tornRow : OpenClaim := { program := "ytaboikhdomlbjaa", sum := "cc249eeab923d683473460222608508126028240db0f073d6dffb1d2346f5ce6", func := "strata/stratalaw.Torn", spec := "torn", unfollowed := true, recurses := true, apart := false }
def TornSaid : Prop := tornRow.holds Try.pinned (OpenSpec.ofChange tornSpec)

/-- ITS FALSE NEIGHBOUR: 'it returns false'. Refute it at one input. -/
def tornWrong : ChangeSpec := { name := "torn", fn := fun _ => fun
  | [d1, d2] => { results := [.lit (.bool false)], args := [d1, d2] }
  | _ => none }
def TornWrongFalsely : Prop := tornRow.holds Try.pinned (OpenSpec.ofChange tornWrong)

/-- 'stratalaw.Unframes': WHATEVER THE INPUT: true; the input reads as it did. -/
def unframesSpec : ChangeSpec := { name := "unframes", fn := fun _ => fun
  | [d] => { results := [.lit (.bool true)], args := [d] }
  | _ => none }
def unframesRow : OpenClaim := { program := "ytaboikhdomlbjaa", sum := "cc249eeab923d683473460222608508126028240db0f073d6dffb1d2346f5ce6", func := "strata/stratalaw.Unframes", spec := "unframes", unfollowed := true, recurses := true, apart := false }
def UnframesSaid : Prop := unframesRow.holds Try.pinned (OpenSpec.ofChange unframesSpec)

/-- ITS FALSE NEIGHBOUR: 'it returns false'. Refute it at one input. -/
def unframesWrong : ChangeSpec := { name := "unframes", fn := fun _ => fun
  | [d] => { results := [.lit (.bool false)], args := [d] }
  | _ => none }
def UnframesWrongFalsely : Prop := unframesRow.holds Try.pinned (OpenSpec.ofChange unframesWrong)

/-- 'stratalaw.Scratched': WHATEVER THE INPUT: true; the input reads as it did. -/
def scratchedSpec : ChangeSpec := { name := "scratched", fn := fun _ => fun
  | [d1, d2, d3] => { results := [.lit (.bool true)], args := [d1, d2, d3] }
  | _ => none }
def scratchedRow : OpenClaim := { program := "ytaboikhdomlbjaa", sum := "cc249eeab923d683473460222608508126028240db0f073d6dffb1d2346f5ce6", func := "strata/stratalaw.Scratched", spec := "scratched", unfollowed := true, recurses := true, apart := false }
def ScratchedSaid : Prop := scratchedRow.holds Try.pinned (OpenSpec.ofChange scratchedSpec)

/-- ITS FALSE NEIGHBOUR: 'it returns false'. Refute it at one input. -/
def scratchedWrong : ChangeSpec := { name := "scratched", fn := fun _ => fun
  | [d1, d2, d3] => { results := [.lit (.bool false)], args := [d1, d2, d3] }
  | _ => none }
def ScratchedWrongFalsely : Prop := scratchedRow.holds Try.pinned (OpenSpec.ofChange scratchedWrong)

/-- 'stratalaw.Builds': WHATEVER THE INPUT: true; the input reads as it did. -/
def buildsSpec : ChangeSpec := { name := "builds", fn := fun _ => fun
  | [d1, d2] => { results := [.lit (.bool true)], args := [d1, d2] }
  | _ => none }
def buildsRow : OpenClaim := { program := "ytaboikhdomlbjaa", sum := "cc249eeab923d683473460222608508126028240db0f073d6dffb1d2346f5ce6", func := "strata/stratalaw.Builds", spec := "builds", inPlace := ["(*sync.WaitGroup).Go", "(*sync.WaitGroup).Add", "internal/race.ReleaseMerge", "internal/race.Disable", "internal/race.Enable", "internal/synctest.IsInBubble", "internal/synctest.Associate[sync.WaitGroup]", "sync.fatal", "sync/atomic.OrUint64", "sync/atomic.AddUint64", "internal/race.Read", "sync/atomic.LoadUint64", "sync/atomic.StoreUint64", "internal/synctest.Disassociate[sync.WaitGroup]", "sync.runtime_Semrelease", "(*sync.WaitGroup).Go$1", "(*sync.WaitGroup).Go$1$1", "(*sync.WaitGroup).Done", "(*sync.WaitGroup).Wait", "internal/race.Acquire", "internal/synctest.IsAssociated[sync.WaitGroup]", "sync/atomic.CompareAndSwapUint64", "internal/race.Write", "sync.runtime_SemacquireWaitGroup"], unfollowed := true, recurses := true, apart := false }
def BuildsSaid : Prop := buildsRow.holds Try.pinned (OpenSpec.ofChange buildsSpec)

/-- ITS FALSE NEIGHBOUR: 'it returns false'. Refute it at one input. -/
def buildsWrong : ChangeSpec := { name := "builds", fn := fun _ => fun
  | [d1, d2] => { results := [.lit (.bool false)], args := [d1, d2] }
  | _ => none }
def BuildsWrongFalsely : Prop := buildsRow.holds Try.pinned (OpenSpec.ofChange buildsWrong)

/- THE SECOND FORM. 'bulk': how many values and letters a reading holds, each counted each time it is reached (what is shared counts as often as it is met; a slice's spare places count too). A statement '..UptoSaid' is the law's where the arguments, and the package variables that the reading takes, are together of bulk at most 1048576: NARROWER than '..Said'. Prove '..Said' where nothing that the law and all that it calls make is longer than what came in: it says more and counts as full. Else prove '..UptoSaid'. A law counts once. -/
mutual
def uptoBulk {H : Type} : DataW H → Nat
  | .lit (.string bytes) => bytes.length + 1
  | .lit _ => 1
  | .nil => 1
  | .ptr d => uptoBulk d + 1
  | .slice elems spare => uptoBulkAll elems + uptoBulkAll spare + 1
  | .agg parts => uptoBulkAll parts + 1
  | .iface _ d => uptoBulk d + 1
  | .map entries => uptoBulkEntries entries + 1
  | .held _ => 1
def uptoBulkAll {H : Type} : List (DataW H) → Nat
  | [] => 0
  | d :: r => uptoBulk d + uptoBulkAll r
def uptoBulkEntries {H : Type} : List (Lit × DataW H) → Nat
  | [] => 0
  | x :: r => uptoBulkEntry x + uptoBulkEntries r
def uptoBulkEntry {H : Type} : Lit × DataW H → Nat
  | (.string bytes, d) => bytes.length + uptoBulk d + 1
  | (_, d) => uptoBulk d + 1
 end
def uptoSmall : (H : Type) → List (DataW H) → Bool := fun _ ds => decide (uptoBulkAll ds ≤ 1048576)
def OpenSpec.upto (s : _root_.Go.ChangeSpec) : _root_.Go.OpenSpec := { _root_.Go.OpenSpec.ofChange s with cond := some uptoSmall }

/-- 'stratalaw.Sums', WHERE WHAT IT READS IS OF BULK AT MOST 1048576: true; the input reads as it did. -/
def sumsUptoRow : OpenClaim := { program := "ytaboikhdomlbjaa", sum := "cc249eeab923d683473460222608508126028240db0f073d6dffb1d2346f5ce6", func := "strata/stratalaw.Sums", spec := "sums", apart := false, narrowed := true }
def SumsUptoSaid : Prop := sumsUptoRow.holds Try.pinned (OpenSpec.upto sumsSpec)

/-- 'stratalaw.Squeezes', WHERE WHAT IT READS IS OF BULK AT MOST 1048576: true; the input reads as it did. -/
def squeezesUptoRow : OpenClaim := { program := "ytaboikhdomlbjaa", sum := "cc249eeab923d683473460222608508126028240db0f073d6dffb1d2346f5ce6", func := "strata/stratalaw.Squeezes", spec := "squeezes", unfollowed := true, recurses := true, apart := false, narrowed := true }
def SqueezesUptoSaid : Prop := squeezesUptoRow.holds Try.pinned (OpenSpec.upto squeezesSpec)

/-- 'stratalaw.Unsqueezes', WHERE WHAT IT READS IS OF BULK AT MOST 1048576: true; the input reads as it did. -/
def unsqueezesUptoRow : OpenClaim := { program := "ytaboikhdomlbjaa", sum := "cc249eeab923d683473460222608508126028240db0f073d6dffb1d2346f5ce6", func := "strata/stratalaw.Unsqueezes", spec := "unsqueezes", unfollowed := true, recurses := true, apart := false, narrowed := true }
def UnsqueezesUptoSaid : Prop := unsqueezesUptoRow.holds Try.pinned (OpenSpec.upto unsqueezesSpec)

/-- 'stratalaw.Frames', WHERE WHAT IT READS IS OF BULK AT MOST 1048576: true; the input reads as it did. -/
def framesUptoRow : OpenClaim := { program := "ytaboikhdomlbjaa", sum := "cc249eeab923d683473460222608508126028240db0f073d6dffb1d2346f5ce6", func := "strata/stratalaw.Frames", spec := "frames", unfollowed := true, recurses := true, apart := false, narrowed := true }
def FramesUptoSaid : Prop := framesUptoRow.holds Try.pinned (OpenSpec.upto framesSpec)

/-- 'stratalaw.Torn', WHERE WHAT IT READS IS OF BULK AT MOST 1048576: true; the input reads as it did. -/
def tornUptoRow : OpenClaim := { program := "ytaboikhdomlbjaa", sum := "cc249eeab923d683473460222608508126028240db0f073d6dffb1d2346f5ce6", func := "strata/stratalaw.Torn", spec := "torn", unfollowed := true, recurses := true, apart := false, narrowed := true }
def TornUptoSaid : Prop := tornUptoRow.holds Try.pinned (OpenSpec.upto tornSpec)

/-- 'stratalaw.Unframes', WHERE WHAT IT READS IS OF BULK AT MOST 1048576: true; the input reads as it did. -/
def unframesUptoRow : OpenClaim := { program := "ytaboikhdomlbjaa", sum := "cc249eeab923d683473460222608508126028240db0f073d6dffb1d2346f5ce6", func := "strata/stratalaw.Unframes", spec := "unframes", unfollowed := true, recurses := true, apart := false, narrowed := true }
def UnframesUptoSaid : Prop := unframesUptoRow.holds Try.pinned (OpenSpec.upto unframesSpec)

/-- 'stratalaw.Scratched', WHERE WHAT IT READS IS OF BULK AT MOST 1048576: true; the input reads as it did. -/
def scratchedUptoRow : OpenClaim := { program := "ytaboikhdomlbjaa", sum := "cc249eeab923d683473460222608508126028240db0f073d6dffb1d2346f5ce6", func := "strata/stratalaw.Scratched", spec := "scratched", unfollowed := true, recurses := true, apart := false, narrowed := true }
def ScratchedUptoSaid : Prop := scratchedUptoRow.holds Try.pinned (OpenSpec.upto scratchedSpec)

/-- 'stratalaw.Builds', WHERE WHAT IT READS IS OF BULK AT MOST 1048576: true; the input reads as it did. -/
def buildsUptoRow : OpenClaim := { program := "ytaboikhdomlbjaa", sum := "cc249eeab923d683473460222608508126028240db0f073d6dffb1d2346f5ce6", func := "strata/stratalaw.Builds", spec := "builds", inPlace := ["(*sync.WaitGroup).Go", "(*sync.WaitGroup).Add", "internal/race.ReleaseMerge", "internal/race.Disable", "internal/race.Enable", "internal/synctest.IsInBubble", "internal/synctest.Associate[sync.WaitGroup]", "sync.fatal", "sync/atomic.OrUint64", "sync/atomic.AddUint64", "internal/race.Read", "sync/atomic.LoadUint64", "sync/atomic.StoreUint64", "internal/synctest.Disassociate[sync.WaitGroup]", "sync.runtime_Semrelease", "(*sync.WaitGroup).Go$1", "(*sync.WaitGroup).Go$1$1", "(*sync.WaitGroup).Done", "(*sync.WaitGroup).Wait", "internal/race.Acquire", "internal/synctest.IsAssociated[sync.WaitGroup]", "sync/atomic.CompareAndSwapUint64", "internal/race.Write", "sync.runtime_SemacquireWaitGroup"], unfollowed := true, recurses := true, apart := false, narrowed := true }
def BuildsUptoSaid : Prop := buildsUptoRow.holds Try.pinned (OpenSpec.upto buildsSpec)

end Rows
end Go.Proofs.Ytaboikhdomlbjaa
