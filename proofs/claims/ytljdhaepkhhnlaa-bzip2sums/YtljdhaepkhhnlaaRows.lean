/-
  No cell of these rows narrows 'for every input' (looked for: loops, veiled, ifaces, maps, wideKeys, modest, calm, conditions, laid).
  DERIVED. THE GIVEN ROWS OF THIS SEAT. 2 by the template 'for every input the law returns true; each argument reads behind the call as it read before'; 0 by the template 'total and deterministic' (their statements: YtljdhaepkhhnlaaTotals.lean).
  GIVEN WITH THE SEED: the statements are not yours to turn. If you find one false, say at which input.
  Laid BY PROGRAM, IN A SANDBOX (cutbox-rows.mjs): the forced cells as the released guide's own fill.sh prints them over the translation c50e074991ab9f3b… (all of the seat's roots in one cut). By AI agents, Wed Nov 11 2026. No macro, syntax, notation, axiom, sorry.
-/
import Derived.Test.YtljdhaepkhhnlaaChecked
import GoSem.Claim
import GoSem.ClaimJoined
import GoSem.ClaimMapViews
import Derived.JoinedTies
import Derived.KernelRfl
namespace Go.Proofs.Ytljdhaepkhhnlaa
/- THE CELL 'sum', in the pinned program and in every row, IS THE sha256 OF THE DUMP (.gsa) THAT YtljdhaepkhhnlaaProg.lean LOADS. Nothing in Lean hashes anything: it is a label: what it is worth is what the hold of that sum in a sandbox is worth. -/
noncomputable def Try.pinned : Pinned := { name := "ytljdhaepkhhnlaa", sum := "c50e074991ab9f3b5a80e916d3c9417032e13a0fbb5413118a0035eed7caf4fe", checked := Try.checked }
namespace Rows
def none {H : Type} : Left H := { results := [], args := [] }

/-- 'hamperlaw12.Bzip2Reads': WHATEVER THE INPUT: true; the input reads as it did. -/
def bzip2ReadsSpec : ChangeSpec := { name := "bzip2Reads", fn := fun _ => fun
  | [d1, d2] => { results := [.lit (.bool true)], args := [d1, d2] }
  | _ => none }
def bzip2ReadsRow : OpenClaim := { program := "ytljdhaepkhhnlaa", sum := "c50e074991ab9f3b5a80e916d3c9417032e13a0fbb5413118a0035eed7caf4fe", func := "hamper/hamperlaw12.Bzip2Reads", spec := "bzip2Reads", unfollowed := true, recurses := true, apart := false }
def Bzip2ReadsSaid : Prop := bzip2ReadsRow.holds Try.pinned (OpenSpec.ofChange bzip2ReadsSpec)

/-- ITS FALSE NEIGHBOUR: 'it returns false'. Refute it at one input. -/
def bzip2ReadsWrong : ChangeSpec := { name := "bzip2Reads", fn := fun _ => fun
  | [d1, d2] => { results := [.lit (.bool false)], args := [d1, d2] }
  | _ => none }
def Bzip2ReadsWrongFalsely : Prop := bzip2ReadsRow.holds Try.pinned (OpenSpec.ofChange bzip2ReadsWrong)

/-- 'hamperlaw12.Bzip2Sums': WHATEVER THE INPUT: true; the input reads as it did. -/
def bzip2SumsSpec : ChangeSpec := { name := "bzip2Sums", fn := fun _ => fun
  | [d] => { results := [.lit (.bool true)], args := [d] }
  | _ => none }
def bzip2SumsRow : OpenClaim := { program := "ytljdhaepkhhnlaa", sum := "c50e074991ab9f3b5a80e916d3c9417032e13a0fbb5413118a0035eed7caf4fe", func := "hamper/hamperlaw12.Bzip2Sums", spec := "bzip2Sums", apart := false }
def Bzip2SumsSaid : Prop := bzip2SumsRow.holds Try.pinned (OpenSpec.ofChange bzip2SumsSpec)

/-- ITS FALSE NEIGHBOUR: 'it returns false'. Refute it at one input. -/
def bzip2SumsWrong : ChangeSpec := { name := "bzip2Sums", fn := fun _ => fun
  | [d] => { results := [.lit (.bool false)], args := [d] }
  | _ => none }
def Bzip2SumsWrongFalsely : Prop := bzip2SumsRow.holds Try.pinned (OpenSpec.ofChange bzip2SumsWrong)

/- THE SECOND FORM. 'bulk': how many values and letters a reading holds, each counted each time it is reached (what is shared counts as often as it is met; a slice's spare places count too). A statement '..UptoSaid' is the law's where the arguments, and the package variables that the reading takes, are together of bulk at most 1048576: NARROWER than '..Said'. Prove '..Said' where nothing that the law and all that it calls make is longer than what came in: it says more and counts as full. Else prove '..UptoSaid'. A law counts once. -/
mutual
def uptoBulk {H : Type} : DataW H → Nat
  | .lit (.string bytes) => bytes.length + 1
  | .lit _ => 1
  | .nil => 1
  | .ptr d => uptoBulk d + 1
  | .slice elems spare => uptoBulkAll elems + uptoBulkAll spare + 1
  | .agg parts => uptoBulkAll parts + 1
  | .iface _ d => uptoBulk d + 1
  | .map entries => uptoBulkEntries entries + 1
  | .held _ => 1
def uptoBulkAll {H : Type} : List (DataW H) → Nat
  | [] => 0
  | d :: r => uptoBulk d + uptoBulkAll r
def uptoBulkEntries {H : Type} : List (Lit × DataW H) → Nat
  | [] => 0
  | x :: r => uptoBulkEntry x + uptoBulkEntries r
def uptoBulkEntry {H : Type} : Lit × DataW H → Nat
  | (.string bytes, d) => bytes.length + uptoBulk d + 1
  | (_, d) => uptoBulk d + 1
 end
def uptoSmall : (H : Type) → List (DataW H) → Bool := fun _ ds => decide (uptoBulkAll ds ≤ 1048576)
def OpenSpec.upto (s : _root_.Go.ChangeSpec) : _root_.Go.OpenSpec := { _root_.Go.OpenSpec.ofChange s with cond := some uptoSmall }

/-- 'hamperlaw12.Bzip2Reads', WHERE WHAT IT READS IS OF BULK AT MOST 1048576: true; the input reads as it did. -/
def bzip2ReadsUptoRow : OpenClaim := { program := "ytljdhaepkhhnlaa", sum := "c50e074991ab9f3b5a80e916d3c9417032e13a0fbb5413118a0035eed7caf4fe", func := "hamper/hamperlaw12.Bzip2Reads", spec := "bzip2Reads", unfollowed := true, recurses := true, apart := false, narrowed := true }
def Bzip2ReadsUptoSaid : Prop := bzip2ReadsUptoRow.holds Try.pinned (OpenSpec.upto bzip2ReadsSpec)

/-- 'hamperlaw12.Bzip2Sums', WHERE WHAT IT READS IS OF BULK AT MOST 1048576: true; the input reads as it did. -/
def bzip2SumsUptoRow : OpenClaim := { program := "ytljdhaepkhhnlaa", sum := "c50e074991ab9f3b5a80e916d3c9417032e13a0fbb5413118a0035eed7caf4fe", func := "hamper/hamperlaw12.Bzip2Sums", spec := "bzip2Sums", apart := false, narrowed := true }
def Bzip2SumsUptoSaid : Prop := bzip2SumsUptoRow.holds Try.pinned (OpenSpec.upto bzip2SumsSpec)

end Rows
end Go.Proofs.Ytljdhaepkhhnlaa
