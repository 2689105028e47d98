/-
  No cell of these rows narrows 'for every input' (looked for: loops, veiled, ifaces, maps, wideKeys, modest, calm, conditions, laid).
  DERIVED. THE GIVEN ROWS OF THIS SEAT. 4 by the template 'for every input the law returns true; each argument reads behind the call as it read before'; 0 by the template 'total and deterministic' (their statements: YtpemgjcgcmleiaaTotals.lean).
  GIVEN WITH THE SEED: the statements are not yours to turn. If you find one false, say at which input.
  Laid BY PROGRAM, IN A SANDBOX (cutbox-rows.mjs): the forced cells as the released guide's own fill.sh prints them over the translation d779a36cf4099a3d… (all of the seat's roots in one cut). By AI agents, Wed Nov 11 2026. No macro, syntax, notation, axiom, sorry.
-/
import Derived.Test.YtpemgjcgcmleiaaChecked
import GoSem.Claim
import GoSem.ClaimJoined
import GoSem.ClaimMapViews
import Derived.JoinedTies
import Derived.KernelRfl
namespace Go.Proofs.Ytpemgjcgcmleiaa
/- THE CELL 'sum', in the pinned program and in every row, IS THE sha256 OF THE DUMP (.gsa) THAT YtpemgjcgcmleiaaProg.lean LOADS. Nothing in Lean hashes anything: it is a label: what it is worth is what the hold of that sum in a sandbox is worth. -/
noncomputable def Try.pinned : Pinned := { name := "ytpemgjcgcmleiaa", sum := "d779a36cf4099a3da959ac560fa6b59c68361d8713673497642a5f7ba9de3d4c", checked := Try.checked }
namespace Rows
def none {H : Type} : Left H := { results := [], args := [] }

/-- 'hamperlaw10.SuffixTurns': WHATEVER THE INPUT: true; the input reads as it did. -/
def suffixTurnsSpec : ChangeSpec := { name := "suffixTurns", fn := fun _ => fun
  | [d] => { results := [.lit (.bool true)], args := [d] }
  | _ => none }
def suffixTurnsRow : OpenClaim := { program := "ytpemgjcgcmleiaa", sum := "d779a36cf4099a3da959ac560fa6b59c68361d8713673497642a5f7ba9de3d4c", func := "hamper/hamperlaw10.SuffixTurns", spec := "suffixTurns", unfollowed := true, recurses := true, apart := false }
def SuffixTurnsSaid : Prop := suffixTurnsRow.holds Try.pinned (OpenSpec.ofChange suffixTurnsSpec)

/-- ITS FALSE NEIGHBOUR: 'it returns false'. Refute it at one input. -/
def suffixTurnsWrong : ChangeSpec := { name := "suffixTurns", fn := fun _ => fun
  | [d] => { results := [.lit (.bool false)], args := [d] }
  | _ => none }
def SuffixTurnsWrongFalsely : Prop := suffixTurnsRow.holds Try.pinned (OpenSpec.ofChange suffixTurnsWrong)

/-- 'hamperlaw10.SuffixBack': WHATEVER THE INPUT: true; the input reads as it did. -/
def suffixBackSpec : ChangeSpec := { name := "suffixBack", fn := fun _ => fun
  | [d1, d2] => { results := [.lit (.bool true)], args := [d1, d2] }
  | _ => none }
def suffixBackRow : OpenClaim := { program := "ytpemgjcgcmleiaa", sum := "d779a36cf4099a3da959ac560fa6b59c68361d8713673497642a5f7ba9de3d4c", func := "hamper/hamperlaw10.SuffixBack", spec := "suffixBack", unfollowed := true, recurses := true, apart := false }
def SuffixBackSaid : Prop := suffixBackRow.holds Try.pinned (OpenSpec.ofChange suffixBackSpec)

/-- ITS FALSE NEIGHBOUR: 'it returns false'. Refute it at one input. -/
def suffixBackWrong : ChangeSpec := { name := "suffixBack", fn := fun _ => fun
  | [d1, d2] => { results := [.lit (.bool false)], args := [d1, d2] }
  | _ => none }
def SuffixBackWrongFalsely : Prop := suffixBackRow.holds Try.pinned (OpenSpec.ofChange suffixBackWrong)

/-- 'hamperlaw10.SuffixReturns': WHATEVER THE INPUT: true; the input reads as it did. -/
def suffixReturnsSpec : ChangeSpec := { name := "suffixReturns", fn := fun _ => fun
  | [d] => { results := [.lit (.bool true)], args := [d] }
  | _ => none }
def suffixReturnsRow : OpenClaim := { program := "ytpemgjcgcmleiaa", sum := "d779a36cf4099a3da959ac560fa6b59c68361d8713673497642a5f7ba9de3d4c", func := "hamper/hamperlaw10.SuffixReturns", spec := "suffixReturns", unfollowed := true, recurses := true, apart := false }
def SuffixReturnsSaid : Prop := suffixReturnsRow.holds Try.pinned (OpenSpec.ofChange suffixReturnsSpec)

/-- ITS FALSE NEIGHBOUR: 'it returns false'. Refute it at one input. -/
def suffixReturnsWrong : ChangeSpec := { name := "suffixReturns", fn := fun _ => fun
  | [d] => { results := [.lit (.bool false)], args := [d] }
  | _ => none }
def SuffixReturnsWrongFalsely : Prop := suffixReturnsRow.holds Try.pinned (OpenSpec.ofChange suffixReturnsWrong)

/-- 'hamperlaw10.SuffixSorted': WHATEVER THE INPUT: true; the input reads as it did. -/
def suffixSortedSpec : ChangeSpec := { name := "suffixSorted", fn := fun _ => fun
  | [d] => { results := [.lit (.bool true)], args := [d] }
  | _ => none }
def suffixSortedRow : OpenClaim := { program := "ytpemgjcgcmleiaa", sum := "d779a36cf4099a3da959ac560fa6b59c68361d8713673497642a5f7ba9de3d4c", func := "hamper/hamperlaw10.SuffixSorted", spec := "suffixSorted", unfollowed := true, recurses := true, apart := false }
def SuffixSortedSaid : Prop := suffixSortedRow.holds Try.pinned (OpenSpec.ofChange suffixSortedSpec)

/-- ITS FALSE NEIGHBOUR: 'it returns false'. Refute it at one input. -/
def suffixSortedWrong : ChangeSpec := { name := "suffixSorted", fn := fun _ => fun
  | [d] => { results := [.lit (.bool false)], args := [d] }
  | _ => none }
def SuffixSortedWrongFalsely : Prop := suffixSortedRow.holds Try.pinned (OpenSpec.ofChange suffixSortedWrong)

/- THE SECOND FORM. 'bulk': how many values and letters a reading holds, each counted each time it is reached (what is shared counts as often as it is met; a slice's spare places count too). A statement '..UptoSaid' is the law's where the arguments, and the package variables that the reading takes, are together of bulk at most 1048576: NARROWER than '..Said'. Prove '..Said' where nothing that the law and all that it calls make is longer than what came in: it says more and counts as full. Else prove '..UptoSaid'. A law counts once. -/
mutual
def uptoBulk {H : Type} : DataW H → Nat
  | .lit (.string bytes) => bytes.length + 1
  | .lit _ => 1
  | .nil => 1
  | .ptr d => uptoBulk d + 1
  | .slice elems spare => uptoBulkAll elems + uptoBulkAll spare + 1
  | .agg parts => uptoBulkAll parts + 1
  | .iface _ d => uptoBulk d + 1
  | .map entries => uptoBulkEntries entries + 1
  | .held _ => 1
def uptoBulkAll {H : Type} : List (DataW H) → Nat
  | [] => 0
  | d :: r => uptoBulk d + uptoBulkAll r
def uptoBulkEntries {H : Type} : List (Lit × DataW H) → Nat
  | [] => 0
  | x :: r => uptoBulkEntry x + uptoBulkEntries r
def uptoBulkEntry {H : Type} : Lit × DataW H → Nat
  | (.string bytes, d) => bytes.length + uptoBulk d + 1
  | (_, d) => uptoBulk d + 1
 end
def uptoSmall : (H : Type) → List (DataW H) → Bool := fun _ ds => decide (uptoBulkAll ds ≤ 1048576)
def OpenSpec.upto (s : _root_.Go.ChangeSpec) : _root_.Go.OpenSpec := { _root_.Go.OpenSpec.ofChange s with cond := some uptoSmall }

/-- 'hamperlaw10.SuffixTurns', WHERE WHAT IT READS IS OF BULK AT MOST 1048576: true; the input reads as it did. -/
def suffixTurnsUptoRow : OpenClaim := { program := "ytpemgjcgcmleiaa", sum := "d779a36cf4099a3da959ac560fa6b59c68361d8713673497642a5f7ba9de3d4c", func := "hamper/hamperlaw10.SuffixTurns", spec := "suffixTurns", unfollowed := true, recurses := true, apart := false, narrowed := true }
def SuffixTurnsUptoSaid : Prop := suffixTurnsUptoRow.holds Try.pinned (OpenSpec.upto suffixTurnsSpec)

/-- 'hamperlaw10.SuffixBack', WHERE WHAT IT READS IS OF BULK AT MOST 1048576: true; the input reads as it did. -/
def suffixBackUptoRow : OpenClaim := { program := "ytpemgjcgcmleiaa", sum := "d779a36cf4099a3da959ac560fa6b59c68361d8713673497642a5f7ba9de3d4c", func := "hamper/hamperlaw10.SuffixBack", spec := "suffixBack", unfollowed := true, recurses := true, apart := false, narrowed := true }
def SuffixBackUptoSaid : Prop := suffixBackUptoRow.holds Try.pinned (OpenSpec.upto suffixBackSpec)

/-- 'hamperlaw10.SuffixReturns', WHERE WHAT IT READS IS OF BULK AT MOST 1048576: true; the input reads as it did. -/
def suffixReturnsUptoRow : OpenClaim := { program := "ytpemgjcgcmleiaa", sum := "d779a36cf4099a3da959ac560fa6b59c68361d8713673497642a5f7ba9de3d4c", func := "hamper/hamperlaw10.SuffixReturns", spec := "suffixReturns", unfollowed := true, recurses := true, apart := false, narrowed := true }
def SuffixReturnsUptoSaid : Prop := suffixReturnsUptoRow.holds Try.pinned (OpenSpec.upto suffixReturnsSpec)

/-- 'hamperlaw10.SuffixSorted', WHERE WHAT IT READS IS OF BULK AT MOST 1048576: true; the input reads as it did. -/
def suffixSortedUptoRow : OpenClaim := { program := "ytpemgjcgcmleiaa", sum := "d779a36cf4099a3da959ac560fa6b59c68361d8713673497642a5f7ba9de3d4c", func := "hamper/hamperlaw10.SuffixSorted", spec := "suffixSorted", unfollowed := true, recurses := true, apart := false, narrowed := true }
def SuffixSortedUptoSaid : Prop := suffixSortedUptoRow.holds Try.pinned (OpenSpec.upto suffixSortedSpec)

end Rows
end Go.Proofs.Ytpemgjcgcmleiaa
