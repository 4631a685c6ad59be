/-
  NARROWER THAN 'FOR EVERY INPUT', by the rows' own cells (each row's printed sentence says how): RewriteFalls: loops · ClauseHangs: loops · ModelTells: loops.
  DERIVED. THE GIVEN ROWS OF THIS SEAT. 3 by the template 'for every input the law returns true; each argument reads behind the call as it read before'; 0 by the template 'total and deterministic' (their statements: YtbkedppkdhfpoabTotals.lean).
  GIVEN WITH THE SEED: the statements are not yours to turn. If you find one false, say at which input.
  Laid BY PROGRAM, IN A SANDBOX (cutbox-rows.mjs): the forced cells as the released guide's own fill.sh prints them over the translation 563bd25296164794… (all of the seat's roots in one cut). By AI agents, Wed Nov 11 2026. No macro, syntax, notation, axiom, sorry.
-/
import Derived.Test.YtbkedppkdhfpoabChecked
import GoSem.Claim
import GoSem.ClaimJoined
import GoSem.ClaimMapViews
import Derived.JoinedTies
import Derived.KernelRfl
namespace Go.Proofs.Ytbkedppkdhfpoab
/- THE CELL 'sum', in the pinned program and in every row, IS THE sha256 OF THE DUMP (.gsa) THAT YtbkedppkdhfpoabProg.lean LOADS. Nothing in Lean hashes anything: it is a label: what it is worth is what the hold of that sum in a sandbox is worth. -/
noncomputable def Try.pinned : Pinned := { name := "ytbkedppkdhfpoab", sum := "563bd252961647948c7d33abbae6d3699f8c65917323b907a15743a9dda64fe0", checked := Try.checked }
namespace Rows
def none {H : Type} : Left H := { results := [], args := [] }

/-- 'superposelaw.RewriteFalls': WHATEVER THE INPUT: true; the input reads as it did. -/
def rewriteFallsSpec : ChangeSpec := { name := "rewriteFalls", fn := fun _ => fun
  | [d1, d2, d3] => { results := [.lit (.bool true)], args := [d1, d2, d3] }
  | _ => none }
def rewriteFallsRow : OpenClaim := { program := "ytbkedppkdhfpoab", sum := "563bd252961647948c7d33abbae6d3699f8c65917323b907a15743a9dda64fe0", func := "superpose/superposelaw.RewriteFalls", spec := "rewriteFalls", unfollowed := true, recurses := true, loops := true, apart := false }
def RewriteFallsSaid : Prop := rewriteFallsRow.holds Try.pinned (OpenSpec.ofChange rewriteFallsSpec)

/-- ITS FALSE NEIGHBOUR: 'it returns false'. Refute it at one input. -/
def rewriteFallsWrong : ChangeSpec := { name := "rewriteFalls", fn := fun _ => fun
  | [d1, d2, d3] => { results := [.lit (.bool false)], args := [d1, d2, d3] }
  | _ => none }
def RewriteFallsWrongFalsely : Prop := rewriteFallsRow.holds Try.pinned (OpenSpec.ofChange rewriteFallsWrong)

/-- 'superposelaw.ClauseHangs': WHATEVER THE INPUT: true; the input reads as it did. -/
def clauseHangsSpec : ChangeSpec := { name := "clauseHangs", fn := fun _ => fun
  | [d1, d2, d3, d4] => { results := [.lit (.bool true)], args := [d1, d2, d3, d4] }
  | _ => none }
def clauseHangsRow : OpenClaim := { program := "ytbkedppkdhfpoab", sum := "563bd252961647948c7d33abbae6d3699f8c65917323b907a15743a9dda64fe0", func := "superpose/superposelaw.ClauseHangs", spec := "clauseHangs", unfollowed := true, recurses := true, loops := true, apart := false }
def ClauseHangsSaid : Prop := clauseHangsRow.holds Try.pinned (OpenSpec.ofChange clauseHangsSpec)

/-- ITS FALSE NEIGHBOUR: 'it returns false'. Refute it at one input. -/
def clauseHangsWrong : ChangeSpec := { name := "clauseHangs", fn := fun _ => fun
  | [d1, d2, d3, d4] => { results := [.lit (.bool false)], args := [d1, d2, d3, d4] }
  | _ => none }
def ClauseHangsWrongFalsely : Prop := clauseHangsRow.holds Try.pinned (OpenSpec.ofChange clauseHangsWrong)

/-- 'superposelaw.ModelTells': WHATEVER THE INPUT: true; the input reads as it did. -/
def modelTellsSpec : ChangeSpec := { name := "modelTells", fn := fun _ => fun
  | [d1, d2, d3, d4, d5] => { results := [.lit (.bool true)], args := [d1, d2, d3, d4, d5] }
  | _ => none }
def modelTellsRow : OpenClaim := { program := "ytbkedppkdhfpoab", sum := "563bd252961647948c7d33abbae6d3699f8c65917323b907a15743a9dda64fe0", func := "superpose/superposelaw.ModelTells", spec := "modelTells", unfollowed := true, recurses := true, loops := true, apart := false }
def ModelTellsSaid : Prop := modelTellsRow.holds Try.pinned (OpenSpec.ofChange modelTellsSpec)

/-- ITS FALSE NEIGHBOUR: 'it returns false'. Refute it at one input. -/
def modelTellsWrong : ChangeSpec := { name := "modelTells", fn := fun _ => fun
  | [d1, d2, d3, d4, d5] => { results := [.lit (.bool false)], args := [d1, d2, d3, d4, d5] }
  | _ => none }
def ModelTellsWrongFalsely : Prop := modelTellsRow.holds Try.pinned (OpenSpec.ofChange modelTellsWrong)

/- THE SECOND FORM. 'bulk': how many values and letters a reading holds, each counted each time it is reached (what is shared counts as often as it is met; a slice's spare places count too). A statement '..UptoSaid' is the law's where the arguments, and the package variables that the reading takes, are together of bulk at most 1048576: NARROWER than '..Said'. Prove '..Said' where nothing that the law and all that it calls make is longer than what came in: it says more and counts as full. Else prove '..UptoSaid'. A law counts once. -/
mutual
def uptoBulk {H : Type} : DataW H → Nat
  | .lit (.string bytes) => bytes.length + 1
  | .lit _ => 1
  | .nil => 1
  | .ptr d => uptoBulk d + 1
  | .slice elems spare => uptoBulkAll elems + uptoBulkAll spare + 1
  | .agg parts => uptoBulkAll parts + 1
  | .iface _ d => uptoBulk d + 1
  | .map entries => uptoBulkEntries entries + 1
  | .held _ => 1
def uptoBulkAll {H : Type} : List (DataW H) → Nat
  | [] => 0
  | d :: r => uptoBulk d + uptoBulkAll r
def uptoBulkEntries {H : Type} : List (Lit × DataW H) → Nat
  | [] => 0
  | x :: r => uptoBulkEntry x + uptoBulkEntries r
def uptoBulkEntry {H : Type} : Lit × DataW H → Nat
  | (.string bytes, d) => bytes.length + uptoBulk d + 1
  | (_, d) => uptoBulk d + 1
 end
def uptoSmall : (H : Type) → List (DataW H) → Bool := fun _ ds => decide (uptoBulkAll ds ≤ 1048576)
def OpenSpec.upto (s : _root_.Go.ChangeSpec) : _root_.Go.OpenSpec := { _root_.Go.OpenSpec.ofChange s with cond := some uptoSmall }

/-- 'superposelaw.RewriteFalls', WHERE WHAT IT READS IS OF BULK AT MOST 1048576: true; the input reads as it did. -/
def rewriteFallsUptoRow : OpenClaim := { program := "ytbkedppkdhfpoab", sum := "563bd252961647948c7d33abbae6d3699f8c65917323b907a15743a9dda64fe0", func := "superpose/superposelaw.RewriteFalls", spec := "rewriteFalls", unfollowed := true, recurses := true, loops := true, apart := false, narrowed := true }
def RewriteFallsUptoSaid : Prop := rewriteFallsUptoRow.holds Try.pinned (OpenSpec.upto rewriteFallsSpec)

/-- 'superposelaw.ClauseHangs', WHERE WHAT IT READS IS OF BULK AT MOST 1048576: true; the input reads as it did. -/
def clauseHangsUptoRow : OpenClaim := { program := "ytbkedppkdhfpoab", sum := "563bd252961647948c7d33abbae6d3699f8c65917323b907a15743a9dda64fe0", func := "superpose/superposelaw.ClauseHangs", spec := "clauseHangs", unfollowed := true, recurses := true, loops := true, apart := false, narrowed := true }
def ClauseHangsUptoSaid : Prop := clauseHangsUptoRow.holds Try.pinned (OpenSpec.upto clauseHangsSpec)

/-- 'superposelaw.ModelTells', WHERE WHAT IT READS IS OF BULK AT MOST 1048576: true; the input reads as it did. -/
def modelTellsUptoRow : OpenClaim := { program := "ytbkedppkdhfpoab", sum := "563bd252961647948c7d33abbae6d3699f8c65917323b907a15743a9dda64fe0", func := "superpose/superposelaw.ModelTells", spec := "modelTells", unfollowed := true, recurses := true, loops := true, apart := false, narrowed := true }
def ModelTellsUptoSaid : Prop := modelTellsUptoRow.holds Try.pinned (OpenSpec.upto modelTellsSpec)

end Rows
end Go.Proofs.Ytbkedppkdhfpoab
