/-
  No cell of these rows narrows 'for every input' (looked for: loops, veiled, ifaces, maps, wideKeys, modest, calm, conditions, laid).
  DERIVED. THE GIVEN ROWS OF THIS SEAT. 3 by the template 'for every input the law returns true; each argument reads behind the call as it read before'; 0 by the template 'total and deterministic' (their statements: YtljdhaepkhhnlaaGreatTotals.lean).
  GIVEN WITH THE SEED: the statements are not yours to turn. If you find one false, say at which input.
  Laid BY PROGRAM, IN A SANDBOX (cutbox-rows.mjs): the forced cells as the released guide's own fill.sh prints them over the translation b2be1a370d3169c9… (all of the seat's roots in one cut). By AI agents, Wed Nov 11 2026. No macro, syntax, notation, axiom, sorry.
-/
import Derived.Test.YtljdhaepkhhnlaaGreatChecked
import GoSem.Claim
import GoSem.ClaimJoined
import GoSem.ClaimMapViews
import Derived.JoinedTies
import Derived.KernelRfl
namespace Go.Proofs.YtljdhaepkhhnlaaGreat
/- THE CELL 'sum', in the pinned program and in every row, IS THE sha256 OF THE DUMP (.gsa) THAT YtljdhaepkhhnlaaGreatProg.lean LOADS. Nothing in Lean hashes anything: it is a label: what it is worth is what the hold of that sum in a sandbox is worth. -/
noncomputable def Tryz.pinned : Pinned := { name := "ytljdhaepkhhnlaagreat", sum := "b2be1a370d3169c976b334b237595a714ee52fa36f6d094108ce776ce8fe4759", checked := Tryz.checked }
namespace Rows
def none {H : Type} : Left H := { results := [], args := [] }

/-- 'hamperlaw12.Bzip2Makes': WHATEVER THE INPUT: true; the input reads as it did. -/
def bzip2MakesSpec : ChangeSpec := { name := "bzip2Makes", fn := fun _ => fun
  | [d1, d2] => { results := [.lit (.bool true)], args := [d1, d2] }
  | _ => none }
def bzip2MakesRow : OpenClaim := { program := "ytljdhaepkhhnlaagreat", sum := "b2be1a370d3169c976b334b237595a714ee52fa36f6d094108ce776ce8fe4759", func := "hamper/hamperlaw12.Bzip2Makes", spec := "bzip2Makes", inPlace := ["internal/bytealg.IndexByte"], unfollowed := true, recurses := true, apart := false }
def Bzip2MakesSaid : Prop := bzip2MakesRow.holds Tryz.pinned (OpenSpec.ofChange bzip2MakesSpec)

/-- ITS FALSE NEIGHBOUR: 'it returns false'. Refute it at one input. -/
def bzip2MakesWrong : ChangeSpec := { name := "bzip2Makes", fn := fun _ => fun
  | [d1, d2] => { results := [.lit (.bool false)], args := [d1, d2] }
  | _ => none }
def Bzip2MakesWrongFalsely : Prop := bzip2MakesRow.holds Tryz.pinned (OpenSpec.ofChange bzip2MakesWrong)

/-- 'hamperlaw12.Bzip2Back': WHATEVER THE INPUT: true; the input reads as it did. -/
def bzip2BackSpec : ChangeSpec := { name := "bzip2Back", fn := fun _ => fun
  | [d1, d2, d3] => { results := [.lit (.bool true)], args := [d1, d2, d3] }
  | _ => none }
def bzip2BackRow : OpenClaim := { program := "ytljdhaepkhhnlaagreat", sum := "b2be1a370d3169c976b334b237595a714ee52fa36f6d094108ce776ce8fe4759", func := "hamper/hamperlaw12.Bzip2Back", spec := "bzip2Back", inPlace := ["internal/bytealg.IndexByte"], unfollowed := true, recurses := true, apart := false }
def Bzip2BackSaid : Prop := bzip2BackRow.holds Tryz.pinned (OpenSpec.ofChange bzip2BackSpec)

/-- ITS FALSE NEIGHBOUR: 'it returns false'. Refute it at one input. -/
def bzip2BackWrong : ChangeSpec := { name := "bzip2Back", fn := fun _ => fun
  | [d1, d2, d3] => { results := [.lit (.bool false)], args := [d1, d2, d3] }
  | _ => none }
def Bzip2BackWrongFalsely : Prop := bzip2BackRow.holds Tryz.pinned (OpenSpec.ofChange bzip2BackWrong)

/-- 'hamperlaw12.Bzip2Levels': WHATEVER THE INPUT: true; the input reads as it did. -/
def bzip2LevelsSpec : ChangeSpec := { name := "bzip2Levels", fn := fun _ => fun
  | [d1, d2, d3] => { results := [.lit (.bool true)], args := [d1, d2, d3] }
  | _ => none }
def bzip2LevelsRow : OpenClaim := { program := "ytljdhaepkhhnlaagreat", sum := "b2be1a370d3169c976b334b237595a714ee52fa36f6d094108ce776ce8fe4759", func := "hamper/hamperlaw12.Bzip2Levels", spec := "bzip2Levels", inPlace := ["internal/bytealg.IndexByte"], unfollowed := true, recurses := true, apart := false }
def Bzip2LevelsSaid : Prop := bzip2LevelsRow.holds Tryz.pinned (OpenSpec.ofChange bzip2LevelsSpec)

/-- ITS FALSE NEIGHBOUR: 'it returns false'. Refute it at one input. -/
def bzip2LevelsWrong : ChangeSpec := { name := "bzip2Levels", fn := fun _ => fun
  | [d1, d2, d3] => { results := [.lit (.bool false)], args := [d1, d2, d3] }
  | _ => none }
def Bzip2LevelsWrongFalsely : Prop := bzip2LevelsRow.holds Tryz.pinned (OpenSpec.ofChange bzip2LevelsWrong)

/- THE SECOND FORM. 'bulk': how many values and letters a reading holds, each counted each time it is reached (what is shared counts as often as it is met; a slice's spare places count too). A statement '..UptoSaid' is the law's where the arguments, and the package variables that the reading takes, are together of bulk at most 1048576: NARROWER than '..Said'. Prove '..Said' where nothing that the law and all that it calls make is longer than what came in: it says more and counts as full. Else prove '..UptoSaid'. A law counts once. -/
mutual
def uptoBulk {H : Type} : DataW H → Nat
  | .lit (.string bytes) => bytes.length + 1
  | .lit _ => 1
  | .nil => 1
  | .ptr d => uptoBulk d + 1
  | .slice elems spare => uptoBulkAll elems + uptoBulkAll spare + 1
  | .agg parts => uptoBulkAll parts + 1
  | .iface _ d => uptoBulk d + 1
  | .map entries => uptoBulkEntries entries + 1
  | .held _ => 1
def uptoBulkAll {H : Type} : List (DataW H) → Nat
  | [] => 0
  | d :: r => uptoBulk d + uptoBulkAll r
def uptoBulkEntries {H : Type} : List (Lit × DataW H) → Nat
  | [] => 0
  | x :: r => uptoBulkEntry x + uptoBulkEntries r
def uptoBulkEntry {H : Type} : Lit × DataW H → Nat
  | (.string bytes, d) => bytes.length + uptoBulk d + 1
  | (_, d) => uptoBulk d + 1
 end
def uptoSmall : (H : Type) → List (DataW H) → Bool := fun _ ds => decide (uptoBulkAll ds ≤ 1048576)
def OpenSpec.upto (s : _root_.Go.ChangeSpec) : _root_.Go.OpenSpec := { _root_.Go.OpenSpec.ofChange s with cond := some uptoSmall }

/-- 'hamperlaw12.Bzip2Makes', WHERE WHAT IT READS IS OF BULK AT MOST 1048576: true; the input reads as it did. -/
def bzip2MakesUptoRow : OpenClaim := { program := "ytljdhaepkhhnlaagreat", sum := "b2be1a370d3169c976b334b237595a714ee52fa36f6d094108ce776ce8fe4759", func := "hamper/hamperlaw12.Bzip2Makes", spec := "bzip2Makes", inPlace := ["internal/bytealg.IndexByte"], unfollowed := true, recurses := true, apart := false, narrowed := true }
def Bzip2MakesUptoSaid : Prop := bzip2MakesUptoRow.holds Tryz.pinned (OpenSpec.upto bzip2MakesSpec)

/-- 'hamperlaw12.Bzip2Back', WHERE WHAT IT READS IS OF BULK AT MOST 1048576: true; the input reads as it did. -/
def bzip2BackUptoRow : OpenClaim := { program := "ytljdhaepkhhnlaagreat", sum := "b2be1a370d3169c976b334b237595a714ee52fa36f6d094108ce776ce8fe4759", func := "hamper/hamperlaw12.Bzip2Back", spec := "bzip2Back", inPlace := ["internal/bytealg.IndexByte"], unfollowed := true, recurses := true, apart := false, narrowed := true }
def Bzip2BackUptoSaid : Prop := bzip2BackUptoRow.holds Tryz.pinned (OpenSpec.upto bzip2BackSpec)

/-- 'hamperlaw12.Bzip2Levels', WHERE WHAT IT READS IS OF BULK AT MOST 1048576: true; the input reads as it did. -/
def bzip2LevelsUptoRow : OpenClaim := { program := "ytljdhaepkhhnlaagreat", sum := "b2be1a370d3169c976b334b237595a714ee52fa36f6d094108ce776ce8fe4759", func := "hamper/hamperlaw12.Bzip2Levels", spec := "bzip2Levels", inPlace := ["internal/bytealg.IndexByte"], unfollowed := true, recurses := true, apart := false, narrowed := true }
def Bzip2LevelsUptoSaid : Prop := bzip2LevelsUptoRow.holds Tryz.pinned (OpenSpec.upto bzip2LevelsSpec)

end Rows
end Go.Proofs.YtljdhaepkhhnlaaGreat
