/-
  No cell of these rows narrows 'for every input' (looked for: loops, veiled, ifaces, maps, wideKeys, modest, calm, conditions, laid).
  DERIVED. THE GIVEN ROWS OF THIS SEAT. 4 by the template 'for every input the law returns true; each argument reads behind the call as it read before'; 0 by the template 'total and deterministic' (their statements: YtppbnodgnphaaaaTotals.lean).
  GIVEN WITH THE SEED: the statements are not yours to turn. If you find one false, say at which input.
  Laid BY PROGRAM, IN A SANDBOX (cutbox-rows.mjs): the forced cells as the released guide's own fill.sh prints them over the translation 6b12e317536c8800… (all of the seat's roots in one cut). By AI agents, Wed Nov 11 2026. No macro, syntax, notation, axiom, sorry.
-/
import Derived.Test.YtppbnodgnphaaaaChecked
import GoSem.Claim
import GoSem.ClaimJoined
import GoSem.ClaimMapViews
import Derived.JoinedTies
import Derived.KernelRfl
namespace Go.Proofs.Ytppbnodgnphaaaa
/- THE CELL 'sum', in the pinned program and in every row, IS THE sha256 OF THE DUMP (.gsa) THAT YtppbnodgnphaaaaProg.lean LOADS. Nothing in Lean hashes anything: it is a label: what it is worth is what the hold of that sum in a sandbox is worth. -/
noncomputable def Try.pinned : Pinned := { name := "ytppbnodgnphaaaa", sum := "6b12e317536c880034f85fadf4abb0695683d0b1335cca0fe872fff8075fd4b9", checked := Try.checked }
namespace Rows
def none {H : Type} : Left H := { results := [], args := [] }

/-- 'hamperlaw07.InflateTells': WHATEVER THE INPUT: true; the input reads as it did. -/
def inflateTellsSpec : ChangeSpec := { name := "inflateTells", fn := fun _ => fun
  | [d1, d2] => { results := [.lit (.bool true)], args := [d1, d2] }
  | _ => none }
def inflateTellsRow : OpenClaim := { program := "ytppbnodgnphaaaa", sum := "6b12e317536c880034f85fadf4abb0695683d0b1335cca0fe872fff8075fd4b9", func := "hamper/hamperlaw07.InflateTells", spec := "inflateTells", unfollowed := true, recurses := true, apart := false }
def InflateTellsSaid : Prop := inflateTellsRow.holds Try.pinned (OpenSpec.ofChange inflateTellsSpec)

/-- ITS FALSE NEIGHBOUR: 'it returns false'. Refute it at one input. -/
def inflateTellsWrong : ChangeSpec := { name := "inflateTells", fn := fun _ => fun
  | [d1, d2] => { results := [.lit (.bool false)], args := [d1, d2] }
  | _ => none }
def InflateTellsWrongFalsely : Prop := inflateTellsRow.holds Try.pinned (OpenSpec.ofChange inflateTellsWrong)

/-- 'hamperlaw07.InflateKnows': WHATEVER THE INPUT: true; the input reads as it did. -/
def inflateKnowsSpec : ChangeSpec := { name := "inflateKnows", fn := fun _ => fun
  | [d] => { results := [.lit (.bool true)], args := [d] }
  | _ => none }
def inflateKnowsRow : OpenClaim := { program := "ytppbnodgnphaaaa", sum := "6b12e317536c880034f85fadf4abb0695683d0b1335cca0fe872fff8075fd4b9", func := "hamper/hamperlaw07.InflateKnows", spec := "inflateKnows", apart := false }
def InflateKnowsSaid : Prop := inflateKnowsRow.holds Try.pinned (OpenSpec.ofChange inflateKnowsSpec)

/-- ITS FALSE NEIGHBOUR: 'it returns false'. Refute it at one input. -/
def inflateKnowsWrong : ChangeSpec := { name := "inflateKnows", fn := fun _ => fun
  | [d] => { results := [.lit (.bool false)], args := [d] }
  | _ => none }
def InflateKnowsWrongFalsely : Prop := inflateKnowsRow.holds Try.pinned (OpenSpec.ofChange inflateKnowsWrong)

/-- 'hamperlaw07.InflateStops': WHATEVER THE INPUT: true; the input reads as it did. -/
def inflateStopsSpec : ChangeSpec := { name := "inflateStops", fn := fun _ => fun
  | [d1, d2, d3] => { results := [.lit (.bool true)], args := [d1, d2, d3] }
  | _ => none }
def inflateStopsRow : OpenClaim := { program := "ytppbnodgnphaaaa", sum := "6b12e317536c880034f85fadf4abb0695683d0b1335cca0fe872fff8075fd4b9", func := "hamper/hamperlaw07.InflateStops", spec := "inflateStops", unfollowed := true, recurses := true, apart := false }
def InflateStopsSaid : Prop := inflateStopsRow.holds Try.pinned (OpenSpec.ofChange inflateStopsSpec)

/-- ITS FALSE NEIGHBOUR: 'it returns false'. Refute it at one input. -/
def inflateStopsWrong : ChangeSpec := { name := "inflateStops", fn := fun _ => fun
  | [d1, d2, d3] => { results := [.lit (.bool false)], args := [d1, d2, d3] }
  | _ => none }
def InflateStopsWrongFalsely : Prop := inflateStopsRow.holds Try.pinned (OpenSpec.ofChange inflateStopsWrong)

/-- 'hamperlaw07.InflateStored': WHATEVER THE INPUT: true; the input reads as it did. -/
def inflateStoredSpec : ChangeSpec := { name := "inflateStored", fn := fun _ => fun
  | [d1, d2] => { results := [.lit (.bool true)], args := [d1, d2] }
  | _ => none }
def inflateStoredRow : OpenClaim := { program := "ytppbnodgnphaaaa", sum := "6b12e317536c880034f85fadf4abb0695683d0b1335cca0fe872fff8075fd4b9", func := "hamper/hamperlaw07.InflateStored", spec := "inflateStored", unfollowed := true, recurses := true, apart := false }
def InflateStoredSaid : Prop := inflateStoredRow.holds Try.pinned (OpenSpec.ofChange inflateStoredSpec)

/-- ITS FALSE NEIGHBOUR: 'it returns false'. Refute it at one input. -/
def inflateStoredWrong : ChangeSpec := { name := "inflateStored", fn := fun _ => fun
  | [d1, d2] => { results := [.lit (.bool false)], args := [d1, d2] }
  | _ => none }
def InflateStoredWrongFalsely : Prop := inflateStoredRow.holds Try.pinned (OpenSpec.ofChange inflateStoredWrong)

/- THE SECOND FORM. 'bulk': how many values and letters a reading holds, each counted each time it is reached (what is shared counts as often as it is met; a slice's spare places count too). A statement '..UptoSaid' is the law's where the arguments, and the package variables that the reading takes, are together of bulk at most 1048576: NARROWER than '..Said'. Prove '..Said' where nothing that the law and all that it calls make is longer than what came in: it says more and counts as full. Else prove '..UptoSaid'. A law counts once. -/
mutual
def uptoBulk {H : Type} : DataW H → Nat
  | .lit (.string bytes) => bytes.length + 1
  | .lit _ => 1
  | .nil => 1
  | .ptr d => uptoBulk d + 1
  | .slice elems spare => uptoBulkAll elems + uptoBulkAll spare + 1
  | .agg parts => uptoBulkAll parts + 1
  | .iface _ d => uptoBulk d + 1
  | .map entries => uptoBulkEntries entries + 1
  | .held _ => 1
def uptoBulkAll {H : Type} : List (DataW H) → Nat
  | [] => 0
  | d :: r => uptoBulk d + uptoBulkAll r
def uptoBulkEntries {H : Type} : List (Lit × DataW H) → Nat
  | [] => 0
  | x :: r => uptoBulkEntry x + uptoBulkEntries r
def uptoBulkEntry {H : Type} : Lit × DataW H → Nat
  | (.string bytes, d) => bytes.length + uptoBulk d + 1
  | (_, d) => uptoBulk d + 1
 end
def uptoSmall : (H : Type) → List (DataW H) → Bool := fun _ ds => decide (uptoBulkAll ds ≤ 1048576)
def OpenSpec.upto (s : _root_.Go.ChangeSpec) : _root_.Go.OpenSpec := { _root_.Go.OpenSpec.ofChange s with cond := some uptoSmall }

/-- 'hamperlaw07.InflateTells', WHERE WHAT IT READS IS OF BULK AT MOST 1048576: true; the input reads as it did. -/
def inflateTellsUptoRow : OpenClaim := { program := "ytppbnodgnphaaaa", sum := "6b12e317536c880034f85fadf4abb0695683d0b1335cca0fe872fff8075fd4b9", func := "hamper/hamperlaw07.InflateTells", spec := "inflateTells", unfollowed := true, recurses := true, apart := false, narrowed := true }
def InflateTellsUptoSaid : Prop := inflateTellsUptoRow.holds Try.pinned (OpenSpec.upto inflateTellsSpec)

/-- 'hamperlaw07.InflateKnows', WHERE WHAT IT READS IS OF BULK AT MOST 1048576: true; the input reads as it did. -/
def inflateKnowsUptoRow : OpenClaim := { program := "ytppbnodgnphaaaa", sum := "6b12e317536c880034f85fadf4abb0695683d0b1335cca0fe872fff8075fd4b9", func := "hamper/hamperlaw07.InflateKnows", spec := "inflateKnows", apart := false, narrowed := true }
def InflateKnowsUptoSaid : Prop := inflateKnowsUptoRow.holds Try.pinned (OpenSpec.upto inflateKnowsSpec)

/-- 'hamperlaw07.InflateStops', WHERE WHAT IT READS IS OF BULK AT MOST 1048576: true; the input reads as it did. -/
def inflateStopsUptoRow : OpenClaim := { program := "ytppbnodgnphaaaa", sum := "6b12e317536c880034f85fadf4abb0695683d0b1335cca0fe872fff8075fd4b9", func := "hamper/hamperlaw07.InflateStops", spec := "inflateStops", unfollowed := true, recurses := true, apart := false, narrowed := true }
def InflateStopsUptoSaid : Prop := inflateStopsUptoRow.holds Try.pinned (OpenSpec.upto inflateStopsSpec)

/-- 'hamperlaw07.InflateStored', WHERE WHAT IT READS IS OF BULK AT MOST 1048576: true; the input reads as it did. -/
def inflateStoredUptoRow : OpenClaim := { program := "ytppbnodgnphaaaa", sum := "6b12e317536c880034f85fadf4abb0695683d0b1335cca0fe872fff8075fd4b9", func := "hamper/hamperlaw07.InflateStored", spec := "inflateStored", unfollowed := true, recurses := true, apart := false, narrowed := true }
def InflateStoredUptoSaid : Prop := inflateStoredUptoRow.holds Try.pinned (OpenSpec.upto inflateStoredSpec)

end Rows
end Go.Proofs.Ytppbnodgnphaaaa
