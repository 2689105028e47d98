/-
  No cell of these rows narrows 'for every input' (looked for: loops, veiled, ifaces, maps, wideKeys, modest, calm, conditions, laid).
  DERIVED. THE GIVEN ROWS OF THIS SEAT. 4 by the template 'for every input the law returns true; each argument reads behind the call as it read before'; 0 by the template 'total and deterministic' (their statements: YtoicnlmfgembiaaGreatTotals.lean).
  GIVEN WITH THE SEED: the statements are not yours to turn. If you find one false, say at which input.
  Laid BY PROGRAM, IN A SANDBOX (cutbox-rows.mjs): the forced cells as the released guide's own fill.sh prints them over the translation 3f54ff8e47bafa6e… (all of the seat's roots in one cut). By AI agents, Wed Nov 11 2026. No macro, syntax, notation, axiom, sorry.
-/
import Derived.Test.YtoicnlmfgembiaaGreatChecked
import GoSem.Claim
import GoSem.ClaimJoined
import GoSem.ClaimMapViews
import Derived.JoinedTies
import Derived.KernelRfl
namespace Go.Proofs.YtoicnlmfgembiaaGreat
/- THE CELL 'sum', in the pinned program and in every row, IS THE sha256 OF THE DUMP (.gsa) THAT YtoicnlmfgembiaaGreatProg.lean LOADS. Nothing in Lean hashes anything: it is a label: what it is worth is what the hold of that sum in a sandbox is worth. -/
noncomputable def Tryz.pinned : Pinned := { name := "ytoicnlmfgembiaagreat", sum := "3f54ff8e47bafa6eb3e04703ee3b5a3f742314087c2daaf2bf5fd33a2d0fcd7d", checked := Tryz.checked }
namespace Rows
def none {H : Type} : Left H := { results := [], args := [] }

/-- 'hamperlaw14.LzmaPlays': WHATEVER THE INPUT: true; the input reads as it did. -/
def lzmaPlaysSpec : ChangeSpec := { name := "lzmaPlays", fn := fun _ => fun
  | [d1, d2] => { results := [.lit (.bool true)], args := [d1, d2] }
  | _ => none }
def lzmaPlaysRow : OpenClaim := { program := "ytoicnlmfgembiaagreat", sum := "3f54ff8e47bafa6eb3e04703ee3b5a3f742314087c2daaf2bf5fd33a2d0fcd7d", func := "hamper/hamperlaw14.LzmaPlays", spec := "lzmaPlays", inPlace := ["internal/bytealg.IndexByte", "internal/bytealg.Index"], unfollowed := true, recurses := true, named := ["internal/bytealg.MaxLen"], apart := false }
def LzmaPlaysSaid : Prop := lzmaPlaysRow.holds Tryz.pinned (OpenSpec.ofChange lzmaPlaysSpec)

/-- ITS FALSE NEIGHBOUR: 'it returns false'. Refute it at one input. -/
def lzmaPlaysWrong : ChangeSpec := { name := "lzmaPlays", fn := fun _ => fun
  | [d1, d2] => { results := [.lit (.bool false)], args := [d1, d2] }
  | _ => none }
def LzmaPlaysWrongFalsely : Prop := lzmaPlaysRow.holds Tryz.pinned (OpenSpec.ofChange lzmaPlaysWrong)

/-- 'hamperlaw14.LzmaNobody': WHATEVER THE INPUT: true; the input reads as it did. -/
def lzmaNobodySpec : ChangeSpec := { name := "lzmaNobody", fn := fun _ => fun
  | [d] => { results := [.lit (.bool true)], args := [d] }
  | _ => none }
def lzmaNobodyRow : OpenClaim := { program := "ytoicnlmfgembiaagreat", sum := "3f54ff8e47bafa6eb3e04703ee3b5a3f742314087c2daaf2bf5fd33a2d0fcd7d", func := "hamper/hamperlaw14.LzmaNobody", spec := "lzmaNobody", inPlace := ["internal/bytealg.IndexByte", "internal/bytealg.Index"], unfollowed := true, recurses := true, named := ["internal/bytealg.MaxLen"], apart := false }
def LzmaNobodySaid : Prop := lzmaNobodyRow.holds Tryz.pinned (OpenSpec.ofChange lzmaNobodySpec)

/-- ITS FALSE NEIGHBOUR: 'it returns false'. Refute it at one input. -/
def lzmaNobodyWrong : ChangeSpec := { name := "lzmaNobody", fn := fun _ => fun
  | [d] => { results := [.lit (.bool false)], args := [d] }
  | _ => none }
def LzmaNobodyWrongFalsely : Prop := lzmaNobodyRow.holds Tryz.pinned (OpenSpec.ofChange lzmaNobodyWrong)

/-- 'hamperlaw14.LzmaBack': WHATEVER THE INPUT: true; the input reads as it did. -/
def lzmaBackSpec : ChangeSpec := { name := "lzmaBack", fn := fun _ => fun
  | [d1, d2, d3] => { results := [.lit (.bool true)], args := [d1, d2, d3] }
  | _ => none }
def lzmaBackRow : OpenClaim := { program := "ytoicnlmfgembiaagreat", sum := "3f54ff8e47bafa6eb3e04703ee3b5a3f742314087c2daaf2bf5fd33a2d0fcd7d", func := "hamper/hamperlaw14.LzmaBack", spec := "lzmaBack", inPlace := ["internal/bytealg.IndexByte", "internal/bytealg.Index"], unfollowed := true, recurses := true, named := ["internal/bytealg.MaxLen"], apart := false }
def LzmaBackSaid : Prop := lzmaBackRow.holds Tryz.pinned (OpenSpec.ofChange lzmaBackSpec)

/-- ITS FALSE NEIGHBOUR: 'it returns false'. Refute it at one input. -/
def lzmaBackWrong : ChangeSpec := { name := "lzmaBack", fn := fun _ => fun
  | [d1, d2, d3] => { results := [.lit (.bool false)], args := [d1, d2, d3] }
  | _ => none }
def LzmaBackWrongFalsely : Prop := lzmaBackRow.holds Tryz.pinned (OpenSpec.ofChange lzmaBackWrong)

/-- 'hamperlaw14.LzmaText': WHATEVER THE INPUT: true; the input reads as it did. -/
def lzmaTextSpec : ChangeSpec := { name := "lzmaText", fn := fun _ => fun
  | [d1, d2] => { results := [.lit (.bool true)], args := [d1, d2] }
  | _ => none }
def lzmaTextRow : OpenClaim := { program := "ytoicnlmfgembiaagreat", sum := "3f54ff8e47bafa6eb3e04703ee3b5a3f742314087c2daaf2bf5fd33a2d0fcd7d", func := "hamper/hamperlaw14.LzmaText", spec := "lzmaText", inPlace := ["internal/bytealg.IndexByte", "internal/bytealg.Index"], unfollowed := true, recurses := true, named := ["internal/bytealg.MaxLen"], apart := false }
def LzmaTextSaid : Prop := lzmaTextRow.holds Tryz.pinned (OpenSpec.ofChange lzmaTextSpec)

/-- ITS FALSE NEIGHBOUR: 'it returns false'. Refute it at one input. -/
def lzmaTextWrong : ChangeSpec := { name := "lzmaText", fn := fun _ => fun
  | [d1, d2] => { results := [.lit (.bool false)], args := [d1, d2] }
  | _ => none }
def LzmaTextWrongFalsely : Prop := lzmaTextRow.holds Tryz.pinned (OpenSpec.ofChange lzmaTextWrong)

/- THE SECOND FORM. 'bulk': how many values and letters a reading holds, each counted each time it is reached (what is shared counts as often as it is met; a slice's spare places count too). A statement '..UptoSaid' is the law's where the arguments, and the package variables that the reading takes, are together of bulk at most 1048576: NARROWER than '..Said'. Prove '..Said' where nothing that the law and all that it calls make is longer than what came in: it says more and counts as full. Else prove '..UptoSaid'. A law counts once. -/
mutual
def uptoBulk {H : Type} : DataW H → Nat
  | .lit (.string bytes) => bytes.length + 1
  | .lit _ => 1
  | .nil => 1
  | .ptr d => uptoBulk d + 1
  | .slice elems spare => uptoBulkAll elems + uptoBulkAll spare + 1
  | .agg parts => uptoBulkAll parts + 1
  | .iface _ d => uptoBulk d + 1
  | .map entries => uptoBulkEntries entries + 1
  | .held _ => 1
def uptoBulkAll {H : Type} : List (DataW H) → Nat
  | [] => 0
  | d :: r => uptoBulk d + uptoBulkAll r
def uptoBulkEntries {H : Type} : List (Lit × DataW H) → Nat
  | [] => 0
  | x :: r => uptoBulkEntry x + uptoBulkEntries r
def uptoBulkEntry {H : Type} : Lit × DataW H → Nat
  | (.string bytes, d) => bytes.length + uptoBulk d + 1
  | (_, d) => uptoBulk d + 1
 end
def uptoSmall : (H : Type) → List (DataW H) → Bool := fun _ ds => decide (uptoBulkAll ds ≤ 1048576)
def OpenSpec.upto (s : _root_.Go.ChangeSpec) : _root_.Go.OpenSpec := { _root_.Go.OpenSpec.ofChange s with cond := some uptoSmall }

/-- 'hamperlaw14.LzmaPlays', WHERE WHAT IT READS IS OF BULK AT MOST 1048576: true; the input reads as it did. -/
def lzmaPlaysUptoRow : OpenClaim := { program := "ytoicnlmfgembiaagreat", sum := "3f54ff8e47bafa6eb3e04703ee3b5a3f742314087c2daaf2bf5fd33a2d0fcd7d", func := "hamper/hamperlaw14.LzmaPlays", spec := "lzmaPlays", inPlace := ["internal/bytealg.IndexByte", "internal/bytealg.Index"], unfollowed := true, recurses := true, named := ["internal/bytealg.MaxLen"], apart := false, narrowed := true }
def LzmaPlaysUptoSaid : Prop := lzmaPlaysUptoRow.holds Tryz.pinned (OpenSpec.upto lzmaPlaysSpec)

/-- 'hamperlaw14.LzmaNobody', WHERE WHAT IT READS IS OF BULK AT MOST 1048576: true; the input reads as it did. -/
def lzmaNobodyUptoRow : OpenClaim := { program := "ytoicnlmfgembiaagreat", sum := "3f54ff8e47bafa6eb3e04703ee3b5a3f742314087c2daaf2bf5fd33a2d0fcd7d", func := "hamper/hamperlaw14.LzmaNobody", spec := "lzmaNobody", inPlace := ["internal/bytealg.IndexByte", "internal/bytealg.Index"], unfollowed := true, recurses := true, named := ["internal/bytealg.MaxLen"], apart := false, narrowed := true }
def LzmaNobodyUptoSaid : Prop := lzmaNobodyUptoRow.holds Tryz.pinned (OpenSpec.upto lzmaNobodySpec)

/-- 'hamperlaw14.LzmaBack', WHERE WHAT IT READS IS OF BULK AT MOST 1048576: true; the input reads as it did. -/
def lzmaBackUptoRow : OpenClaim := { program := "ytoicnlmfgembiaagreat", sum := "3f54ff8e47bafa6eb3e04703ee3b5a3f742314087c2daaf2bf5fd33a2d0fcd7d", func := "hamper/hamperlaw14.LzmaBack", spec := "lzmaBack", inPlace := ["internal/bytealg.IndexByte", "internal/bytealg.Index"], unfollowed := true, recurses := true, named := ["internal/bytealg.MaxLen"], apart := false, narrowed := true }
def LzmaBackUptoSaid : Prop := lzmaBackUptoRow.holds Tryz.pinned (OpenSpec.upto lzmaBackSpec)

/-- 'hamperlaw14.LzmaText', WHERE WHAT IT READS IS OF BULK AT MOST 1048576: true; the input reads as it did. -/
def lzmaTextUptoRow : OpenClaim := { program := "ytoicnlmfgembiaagreat", sum := "3f54ff8e47bafa6eb3e04703ee3b5a3f742314087c2daaf2bf5fd33a2d0fcd7d", func := "hamper/hamperlaw14.LzmaText", spec := "lzmaText", inPlace := ["internal/bytealg.IndexByte", "internal/bytealg.Index"], unfollowed := true, recurses := true, named := ["internal/bytealg.MaxLen"], apart := false, narrowed := true }
def LzmaTextUptoSaid : Prop := lzmaTextUptoRow.holds Tryz.pinned (OpenSpec.upto lzmaTextSpec)

end Rows
end Go.Proofs.YtoicnlmfgembiaaGreat
