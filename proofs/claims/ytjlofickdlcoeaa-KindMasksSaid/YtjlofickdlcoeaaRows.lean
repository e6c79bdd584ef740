/-
  No cell of these rows narrows 'for every input' (looked for: loops, veiled, ifaces, maps, wideKeys, modest, calm, conditions, laid).
  DERIVED. THE GIVEN ROWS OF THIS SEAT. 4 by the template 'for every input the law returns true; each argument reads behind the call as it read before'; 0 by the template 'total and deterministic' (their statements: YtjlofickdlcoeaaTotals.lean).
  GIVEN WITH THE SEED: the statements are not yours to turn. If you find one false, say at which input.
  Laid BY PROGRAM, IN A SANDBOX (cutbox-rows.mjs): the forced cells as the released guide's own fill.sh prints them over the translation eb07e487bb23896b… (all of the seat's roots in one cut). By AI agents, Wed Nov 11 2026. No macro, syntax, notation, axiom, sorry.
-/
import Derived.Test.YtjlofickdlcoeaaChecked
import GoSem.Claim
import GoSem.ClaimJoined
import GoSem.ClaimMapViews
import Derived.JoinedTies
import Derived.KernelRfl
namespace Go.Proofs.Ytjlofickdlcoeaa
/- THE CELL 'sum', in the pinned program and in every row, IS THE sha256 OF THE DUMP (.gsa) THAT YtjlofickdlcoeaaProg.lean LOADS. Nothing in Lean hashes anything: it is a label: what it is worth is what the hold of that sum in a sandbox is worth. -/
noncomputable def Try.pinned : Pinned := { name := "ytjlofickdlcoeaa", sum := "eb07e487bb23896b93ed91dc71bb9f0afd39ca7536e6722f6ac5edc9fea95b45", checked := Try.checked }
namespace Rows
def none {H : Type} : Left H := { results := [], args := [] }

/-- 'skerrylaw05.KindTells': WHATEVER THE INPUT: true; the input reads as it did. -/
def kindTellsSpec : ChangeSpec := { name := "kindTells", fn := fun _ => fun
  | [d1, d2] => { results := [.lit (.bool true)], args := [d1, d2] }
  | _ => none }
def kindTellsRow : OpenClaim := { program := "ytjlofickdlcoeaa", sum := "eb07e487bb23896b93ed91dc71bb9f0afd39ca7536e6722f6ac5edc9fea95b45", func := "skerry/skerrylaw05.KindTells", spec := "kindTells", unfollowed := true, recurses := true, apart := false }
def KindTellsSaid : Prop := kindTellsRow.holds Try.pinned (OpenSpec.ofChange kindTellsSpec)

/-- ITS FALSE NEIGHBOUR: 'it returns false'. Refute it at one input. -/
def kindTellsWrong : ChangeSpec := { name := "kindTells", fn := fun _ => fun
  | [d1, d2] => { results := [.lit (.bool false)], args := [d1, d2] }
  | _ => none }
def KindTellsWrongFalsely : Prop := kindTellsRow.holds Try.pinned (OpenSpec.ofChange kindTellsWrong)

/-- 'skerrylaw05.KindRefs': WHATEVER THE INPUT: true; the input reads as it did. -/
def kindRefsSpec : ChangeSpec := { name := "kindRefs", fn := fun _ => fun
  | [d1, d2, d3] => { results := [.lit (.bool true)], args := [d1, d2, d3] }
  | _ => none }
def kindRefsRow : OpenClaim := { program := "ytjlofickdlcoeaa", sum := "eb07e487bb23896b93ed91dc71bb9f0afd39ca7536e6722f6ac5edc9fea95b45", func := "skerry/skerrylaw05.KindRefs", spec := "kindRefs", unfollowed := true, recurses := true, apart := false }
def KindRefsSaid : Prop := kindRefsRow.holds Try.pinned (OpenSpec.ofChange kindRefsSpec)

/-- ITS FALSE NEIGHBOUR: 'it returns false'. Refute it at one input. -/
def kindRefsWrong : ChangeSpec := { name := "kindRefs", fn := fun _ => fun
  | [d1, d2, d3] => { results := [.lit (.bool false)], args := [d1, d2, d3] }
  | _ => none }
def KindRefsWrongFalsely : Prop := kindRefsRow.holds Try.pinned (OpenSpec.ofChange kindRefsWrong)

/-- 'skerrylaw05.KindFits': WHATEVER THE INPUT: true; the input reads as it did. -/
def kindFitsSpec : ChangeSpec := { name := "kindFits", fn := fun _ => fun
  | [d1, d2, d3] => { results := [.lit (.bool true)], args := [d1, d2, d3] }
  | _ => none }
def kindFitsRow : OpenClaim := { program := "ytjlofickdlcoeaa", sum := "eb07e487bb23896b93ed91dc71bb9f0afd39ca7536e6722f6ac5edc9fea95b45", func := "skerry/skerrylaw05.KindFits", spec := "kindFits", unfollowed := true, recurses := true, apart := false }
def KindFitsSaid : Prop := kindFitsRow.holds Try.pinned (OpenSpec.ofChange kindFitsSpec)

/-- ITS FALSE NEIGHBOUR: 'it returns false'. Refute it at one input. -/
def kindFitsWrong : ChangeSpec := { name := "kindFits", fn := fun _ => fun
  | [d1, d2, d3] => { results := [.lit (.bool false)], args := [d1, d2, d3] }
  | _ => none }
def KindFitsWrongFalsely : Prop := kindFitsRow.holds Try.pinned (OpenSpec.ofChange kindFitsWrong)

/-- 'skerrylaw05.KindMasks': WHATEVER THE INPUT: true; the input reads as it did. -/
def kindMasksSpec : ChangeSpec := { name := "kindMasks", fn := fun _ => fun
  | [d1, d2] => { results := [.lit (.bool true)], args := [d1, d2] }
  | _ => none }
def kindMasksRow : OpenClaim := { program := "ytjlofickdlcoeaa", sum := "eb07e487bb23896b93ed91dc71bb9f0afd39ca7536e6722f6ac5edc9fea95b45", func := "skerry/skerrylaw05.KindMasks", spec := "kindMasks", unfollowed := true, recurses := true, apart := false }
def KindMasksSaid : Prop := kindMasksRow.holds Try.pinned (OpenSpec.ofChange kindMasksSpec)

/-- ITS FALSE NEIGHBOUR: 'it returns false'. Refute it at one input. -/
def kindMasksWrong : ChangeSpec := { name := "kindMasks", fn := fun _ => fun
  | [d1, d2] => { results := [.lit (.bool false)], args := [d1, d2] }
  | _ => none }
def KindMasksWrongFalsely : Prop := kindMasksRow.holds Try.pinned (OpenSpec.ofChange kindMasksWrong)

/- THE SECOND FORM. 'bulk': how many values and letters a reading holds, each counted each time it is reached (what is shared counts as often as it is met; a slice's spare places count too). A statement '..UptoSaid' is the law's where the arguments, and the package variables that the reading takes, are together of bulk at most 1048576: NARROWER than '..Said'. Prove '..Said' where nothing that the law and all that it calls make is longer than what came in: it says more and counts as full. Else prove '..UptoSaid'. A law counts once. -/
mutual
def uptoBulk {H : Type} : DataW H → Nat
  | .lit (.string bytes) => bytes.length + 1
  | .lit _ => 1
  | .nil => 1
  | .ptr d => uptoBulk d + 1
  | .slice elems spare => uptoBulkAll elems + uptoBulkAll spare + 1
  | .agg parts => uptoBulkAll parts + 1
  | .iface _ d => uptoBulk d + 1
  | .map entries => uptoBulkEntries entries + 1
  | .held _ => 1
def uptoBulkAll {H : Type} : List (DataW H) → Nat
  | [] => 0
  | d :: r => uptoBulk d + uptoBulkAll r
def uptoBulkEntries {H : Type} : List (Lit × DataW H) → Nat
  | [] => 0
  | x :: r => uptoBulkEntry x + uptoBulkEntries r
def uptoBulkEntry {H : Type} : Lit × DataW H → Nat
  | (.string bytes, d) => bytes.length + uptoBulk d + 1
  | (_, d) => uptoBulk d + 1
 end
def uptoSmall : (H : Type) → List (DataW H) → Bool := fun _ ds => decide (uptoBulkAll ds ≤ 1048576)
def OpenSpec.upto (s : _root_.Go.ChangeSpec) : _root_.Go.OpenSpec := { _root_.Go.OpenSpec.ofChange s with cond := some uptoSmall }

/-- 'skerrylaw05.KindTells', WHERE WHAT IT READS IS OF BULK AT MOST 1048576: true; the input reads as it did. -/
def kindTellsUptoRow : OpenClaim := { program := "ytjlofickdlcoeaa", sum := "eb07e487bb23896b93ed91dc71bb9f0afd39ca7536e6722f6ac5edc9fea95b45", func := "skerry/skerrylaw05.KindTells", spec := "kindTells", unfollowed := true, recurses := true, apart := false, narrowed := true }
def KindTellsUptoSaid : Prop := kindTellsUptoRow.holds Try.pinned (OpenSpec.upto kindTellsSpec)

/-- 'skerrylaw05.KindRefs', WHERE WHAT IT READS IS OF BULK AT MOST 1048576: true; the input reads as it did. -/
def kindRefsUptoRow : OpenClaim := { program := "ytjlofickdlcoeaa", sum := "eb07e487bb23896b93ed91dc71bb9f0afd39ca7536e6722f6ac5edc9fea95b45", func := "skerry/skerrylaw05.KindRefs", spec := "kindRefs", unfollowed := true, recurses := true, apart := false, narrowed := true }
def KindRefsUptoSaid : Prop := kindRefsUptoRow.holds Try.pinned (OpenSpec.upto kindRefsSpec)

/-- 'skerrylaw05.KindFits', WHERE WHAT IT READS IS OF BULK AT MOST 1048576: true; the input reads as it did. -/
def kindFitsUptoRow : OpenClaim := { program := "ytjlofickdlcoeaa", sum := "eb07e487bb23896b93ed91dc71bb9f0afd39ca7536e6722f6ac5edc9fea95b45", func := "skerry/skerrylaw05.KindFits", spec := "kindFits", unfollowed := true, recurses := true, apart := false, narrowed := true }
def KindFitsUptoSaid : Prop := kindFitsUptoRow.holds Try.pinned (OpenSpec.upto kindFitsSpec)

/-- 'skerrylaw05.KindMasks', WHERE WHAT IT READS IS OF BULK AT MOST 1048576: true; the input reads as it did. -/
def kindMasksUptoRow : OpenClaim := { program := "ytjlofickdlcoeaa", sum := "eb07e487bb23896b93ed91dc71bb9f0afd39ca7536e6722f6ac5edc9fea95b45", func := "skerry/skerrylaw05.KindMasks", spec := "kindMasks", unfollowed := true, recurses := true, apart := false, narrowed := true }
def KindMasksUptoSaid : Prop := kindMasksUptoRow.holds Try.pinned (OpenSpec.upto kindMasksSpec)

end Rows
end Go.Proofs.Ytjlofickdlcoeaa
