/-
  NARROWER THAN 'FOR EVERY INPUT', by the rows' own cells (each row's printed sentence says how): TermTells: loops · TermPuts: loops · TermBack: loops · SubstApplies: loops · SubstUnifies: loops · SubstMost: loops · OrderTells: loops · OrderHolds: loops · RewriteSteps: loops.
  DERIVED. THE GIVEN ROWS OF THIS SEAT. 9 by the template 'for every input the law returns true; each argument reads behind the call as it read before'; 0 by the template 'total and deterministic' (their statements: YtbkedppkdhfpoaaTotals.lean).
  GIVEN WITH THE SEED: the statements are not yours to turn. If you find one false, say at which input.
  Laid BY PROGRAM, IN A SANDBOX (cutbox-rows.mjs): the forced cells as the released guide's own fill.sh prints them over the translation d7e7c4eddb37e511… (all of the seat's roots in one cut). By AI agents, Wed Nov 11 2026. No macro, syntax, notation, axiom, sorry.
-/
import Derived.Test.YtbkedppkdhfpoaaChecked
import GoSem.Claim
import GoSem.ClaimJoined
import GoSem.ClaimMapViews
import Derived.JoinedTies
import Derived.KernelRfl
namespace Go.Proofs.Ytbkedppkdhfpoaa
/- THE CELL 'sum', in the pinned program and in every row, IS THE sha256 OF THE DUMP (.gsa) THAT YtbkedppkdhfpoaaProg.lean LOADS. Nothing in Lean hashes anything: it is a label: what it is worth is what the hold of that sum in a sandbox is worth. -/
noncomputable def Try.pinned : Pinned := { name := "ytbkedppkdhfpoaa", sum := "d7e7c4eddb37e511654effa2eaf8d2b1456915045423f22331d1e583b69c488a", checked := Try.checked }
namespace Rows
def none {H : Type} : Left H := { results := [], args := [] }

/-- 'superposelaw.TermTells': WHATEVER THE INPUT: true; the input reads as it did. -/
def termTellsSpec : ChangeSpec := { name := "termTells", fn := fun _ => fun
  | [d1, d2] => { results := [.lit (.bool true)], args := [d1, d2] }
  | _ => none }
def termTellsRow : OpenClaim := { program := "ytbkedppkdhfpoaa", sum := "d7e7c4eddb37e511654effa2eaf8d2b1456915045423f22331d1e583b69c488a", func := "superpose/superposelaw.TermTells", spec := "termTells", unfollowed := true, recurses := true, loops := true, apart := false }
def TermTellsSaid : Prop := termTellsRow.holds Try.pinned (OpenSpec.ofChange termTellsSpec)

/-- ITS FALSE NEIGHBOUR: 'it returns false'. Refute it at one input. -/
def termTellsWrong : ChangeSpec := { name := "termTells", fn := fun _ => fun
  | [d1, d2] => { results := [.lit (.bool false)], args := [d1, d2] }
  | _ => none }
def TermTellsWrongFalsely : Prop := termTellsRow.holds Try.pinned (OpenSpec.ofChange termTellsWrong)

/-- 'superposelaw.TermPuts': WHATEVER THE INPUT: true; the input reads as it did. -/
def termPutsSpec : ChangeSpec := { name := "termPuts", fn := fun _ => fun
  | [d1, d2, d3, d4] => { results := [.lit (.bool true)], args := [d1, d2, d3, d4] }
  | _ => none }
def termPutsRow : OpenClaim := { program := "ytbkedppkdhfpoaa", sum := "d7e7c4eddb37e511654effa2eaf8d2b1456915045423f22331d1e583b69c488a", func := "superpose/superposelaw.TermPuts", spec := "termPuts", unfollowed := true, recurses := true, loops := true, apart := false }
def TermPutsSaid : Prop := termPutsRow.holds Try.pinned (OpenSpec.ofChange termPutsSpec)

/-- ITS FALSE NEIGHBOUR: 'it returns false'. Refute it at one input. -/
def termPutsWrong : ChangeSpec := { name := "termPuts", fn := fun _ => fun
  | [d1, d2, d3, d4] => { results := [.lit (.bool false)], args := [d1, d2, d3, d4] }
  | _ => none }
def TermPutsWrongFalsely : Prop := termPutsRow.holds Try.pinned (OpenSpec.ofChange termPutsWrong)

/-- 'superposelaw.TermBack': WHATEVER THE INPUT: true; the input reads as it did. -/
def termBackSpec : ChangeSpec := { name := "termBack", fn := fun _ => fun
  | [d1, d2, d3, d4] => { results := [.lit (.bool true)], args := [d1, d2, d3, d4] }
  | _ => none }
def termBackRow : OpenClaim := { program := "ytbkedppkdhfpoaa", sum := "d7e7c4eddb37e511654effa2eaf8d2b1456915045423f22331d1e583b69c488a", func := "superpose/superposelaw.TermBack", spec := "termBack", unfollowed := true, recurses := true, loops := true, apart := false }
def TermBackSaid : Prop := termBackRow.holds Try.pinned (OpenSpec.ofChange termBackSpec)

/-- ITS FALSE NEIGHBOUR: 'it returns false'. Refute it at one input. -/
def termBackWrong : ChangeSpec := { name := "termBack", fn := fun _ => fun
  | [d1, d2, d3, d4] => { results := [.lit (.bool false)], args := [d1, d2, d3, d4] }
  | _ => none }
def TermBackWrongFalsely : Prop := termBackRow.holds Try.pinned (OpenSpec.ofChange termBackWrong)

/-- 'superposelaw.SubstApplies': WHATEVER THE INPUT: true; the input reads as it did. -/
def substAppliesSpec : ChangeSpec := { name := "substApplies", fn := fun _ => fun
  | [d1, d2, d3] => { results := [.lit (.bool true)], args := [d1, d2, d3] }
  | _ => none }
def substAppliesRow : OpenClaim := { program := "ytbkedppkdhfpoaa", sum := "d7e7c4eddb37e511654effa2eaf8d2b1456915045423f22331d1e583b69c488a", func := "superpose/superposelaw.SubstApplies", spec := "substApplies", unfollowed := true, recurses := true, loops := true, apart := false }
def SubstAppliesSaid : Prop := substAppliesRow.holds Try.pinned (OpenSpec.ofChange substAppliesSpec)

/-- ITS FALSE NEIGHBOUR: 'it returns false'. Refute it at one input. -/
def substAppliesWrong : ChangeSpec := { name := "substApplies", fn := fun _ => fun
  | [d1, d2, d3] => { results := [.lit (.bool false)], args := [d1, d2, d3] }
  | _ => none }
def SubstAppliesWrongFalsely : Prop := substAppliesRow.holds Try.pinned (OpenSpec.ofChange substAppliesWrong)

/-- 'superposelaw.SubstUnifies': WHATEVER THE INPUT: true; the input reads as it did. -/
def substUnifiesSpec : ChangeSpec := { name := "substUnifies", fn := fun _ => fun
  | [d1, d2, d3] => { results := [.lit (.bool true)], args := [d1, d2, d3] }
  | _ => none }
def substUnifiesRow : OpenClaim := { program := "ytbkedppkdhfpoaa", sum := "d7e7c4eddb37e511654effa2eaf8d2b1456915045423f22331d1e583b69c488a", func := "superpose/superposelaw.SubstUnifies", spec := "substUnifies", unfollowed := true, recurses := true, loops := true, apart := false }
def SubstUnifiesSaid : Prop := substUnifiesRow.holds Try.pinned (OpenSpec.ofChange substUnifiesSpec)

/-- ITS FALSE NEIGHBOUR: 'it returns false'. Refute it at one input. -/
def substUnifiesWrong : ChangeSpec := { name := "substUnifies", fn := fun _ => fun
  | [d1, d2, d3] => { results := [.lit (.bool false)], args := [d1, d2, d3] }
  | _ => none }
def SubstUnifiesWrongFalsely : Prop := substUnifiesRow.holds Try.pinned (OpenSpec.ofChange substUnifiesWrong)

/-- 'superposelaw.SubstMost': WHATEVER THE INPUT: true; the input reads as it did. -/
def substMostSpec : ChangeSpec := { name := "substMost", fn := fun _ => fun
  | [d1, d2, d3, d4] => { results := [.lit (.bool true)], args := [d1, d2, d3, d4] }
  | _ => none }
def substMostRow : OpenClaim := { program := "ytbkedppkdhfpoaa", sum := "d7e7c4eddb37e511654effa2eaf8d2b1456915045423f22331d1e583b69c488a", func := "superpose/superposelaw.SubstMost", spec := "substMost", unfollowed := true, recurses := true, loops := true, apart := false }
def SubstMostSaid : Prop := substMostRow.holds Try.pinned (OpenSpec.ofChange substMostSpec)

/-- ITS FALSE NEIGHBOUR: 'it returns false'. Refute it at one input. -/
def substMostWrong : ChangeSpec := { name := "substMost", fn := fun _ => fun
  | [d1, d2, d3, d4] => { results := [.lit (.bool false)], args := [d1, d2, d3, d4] }
  | _ => none }
def SubstMostWrongFalsely : Prop := substMostRow.holds Try.pinned (OpenSpec.ofChange substMostWrong)

/-- 'superposelaw.OrderTells': WHATEVER THE INPUT: true; the input reads as it did. -/
def orderTellsSpec : ChangeSpec := { name := "orderTells", fn := fun _ => fun
  | [d1, d2, d3] => { results := [.lit (.bool true)], args := [d1, d2, d3] }
  | _ => none }
def orderTellsRow : OpenClaim := { program := "ytbkedppkdhfpoaa", sum := "d7e7c4eddb37e511654effa2eaf8d2b1456915045423f22331d1e583b69c488a", func := "superpose/superposelaw.OrderTells", spec := "orderTells", unfollowed := true, recurses := true, loops := true, apart := false }
def OrderTellsSaid : Prop := orderTellsRow.holds Try.pinned (OpenSpec.ofChange orderTellsSpec)

/-- ITS FALSE NEIGHBOUR: 'it returns false'. Refute it at one input. -/
def orderTellsWrong : ChangeSpec := { name := "orderTells", fn := fun _ => fun
  | [d1, d2, d3] => { results := [.lit (.bool false)], args := [d1, d2, d3] }
  | _ => none }
def OrderTellsWrongFalsely : Prop := orderTellsRow.holds Try.pinned (OpenSpec.ofChange orderTellsWrong)

/-- 'superposelaw.OrderHolds': WHATEVER THE INPUT: true; the input reads as it did. -/
def orderHoldsSpec : ChangeSpec := { name := "orderHolds", fn := fun _ => fun
  | [d1, d2, d3, d4, d5] => { results := [.lit (.bool true)], args := [d1, d2, d3, d4, d5] }
  | _ => none }
def orderHoldsRow : OpenClaim := { program := "ytbkedppkdhfpoaa", sum := "d7e7c4eddb37e511654effa2eaf8d2b1456915045423f22331d1e583b69c488a", func := "superpose/superposelaw.OrderHolds", spec := "orderHolds", unfollowed := true, recurses := true, loops := true, apart := false }
def OrderHoldsSaid : Prop := orderHoldsRow.holds Try.pinned (OpenSpec.ofChange orderHoldsSpec)

/-- ITS FALSE NEIGHBOUR: 'it returns false'. Refute it at one input. -/
def orderHoldsWrong : ChangeSpec := { name := "orderHolds", fn := fun _ => fun
  | [d1, d2, d3, d4, d5] => { results := [.lit (.bool false)], args := [d1, d2, d3, d4, d5] }
  | _ => none }
def OrderHoldsWrongFalsely : Prop := orderHoldsRow.holds Try.pinned (OpenSpec.ofChange orderHoldsWrong)

/-- 'superposelaw.RewriteSteps': WHATEVER THE INPUT: true; the input reads as it did. -/
def rewriteStepsSpec : ChangeSpec := { name := "rewriteSteps", fn := fun _ => fun
  | [d1, d2, d3] => { results := [.lit (.bool true)], args := [d1, d2, d3] }
  | _ => none }
def rewriteStepsRow : OpenClaim := { program := "ytbkedppkdhfpoaa", sum := "d7e7c4eddb37e511654effa2eaf8d2b1456915045423f22331d1e583b69c488a", func := "superpose/superposelaw.RewriteSteps", spec := "rewriteSteps", unfollowed := true, recurses := true, loops := true, apart := false }
def RewriteStepsSaid : Prop := rewriteStepsRow.holds Try.pinned (OpenSpec.ofChange rewriteStepsSpec)

/-- ITS FALSE NEIGHBOUR: 'it returns false'. Refute it at one input. -/
def rewriteStepsWrong : ChangeSpec := { name := "rewriteSteps", fn := fun _ => fun
  | [d1, d2, d3] => { results := [.lit (.bool false)], args := [d1, d2, d3] }
  | _ => none }
def RewriteStepsWrongFalsely : Prop := rewriteStepsRow.holds Try.pinned (OpenSpec.ofChange rewriteStepsWrong)

/- THE SECOND FORM. 'bulk': how many values and letters a reading holds, each counted each time it is reached (what is shared counts as often as it is met; a slice's spare places count too). A statement '..UptoSaid' is the law's where the arguments, and the package variables that the reading takes, are together of bulk at most 1048576: NARROWER than '..Said'. Prove '..Said' where nothing that the law and all that it calls make is longer than what came in: it says more and counts as full. Else prove '..UptoSaid'. A law counts once. -/
mutual
def uptoBulk {H : Type} : DataW H → Nat
  | .lit (.string bytes) => bytes.length + 1
  | .lit _ => 1
  | .nil => 1
  | .ptr d => uptoBulk d + 1
  | .slice elems spare => uptoBulkAll elems + uptoBulkAll spare + 1
  | .agg parts => uptoBulkAll parts + 1
  | .iface _ d => uptoBulk d + 1
  | .map entries => uptoBulkEntries entries + 1
  | .held _ => 1
def uptoBulkAll {H : Type} : List (DataW H) → Nat
  | [] => 0
  | d :: r => uptoBulk d + uptoBulkAll r
def uptoBulkEntries {H : Type} : List (Lit × DataW H) → Nat
  | [] => 0
  | x :: r => uptoBulkEntry x + uptoBulkEntries r
def uptoBulkEntry {H : Type} : Lit × DataW H → Nat
  | (.string bytes, d) => bytes.length + uptoBulk d + 1
  | (_, d) => uptoBulk d + 1
 end
def uptoSmall : (H : Type) → List (DataW H) → Bool := fun _ ds => decide (uptoBulkAll ds ≤ 1048576)
def OpenSpec.upto (s : _root_.Go.ChangeSpec) : _root_.Go.OpenSpec := { _root_.Go.OpenSpec.ofChange s with cond := some uptoSmall }

/-- 'superposelaw.TermTells', WHERE WHAT IT READS IS OF BULK AT MOST 1048576: true; the input reads as it did. -/
def termTellsUptoRow : OpenClaim := { program := "ytbkedppkdhfpoaa", sum := "d7e7c4eddb37e511654effa2eaf8d2b1456915045423f22331d1e583b69c488a", func := "superpose/superposelaw.TermTells", spec := "termTells", unfollowed := true, recurses := true, loops := true, apart := false, narrowed := true }
def TermTellsUptoSaid : Prop := termTellsUptoRow.holds Try.pinned (OpenSpec.upto termTellsSpec)

/-- 'superposelaw.TermPuts', WHERE WHAT IT READS IS OF BULK AT MOST 1048576: true; the input reads as it did. -/
def termPutsUptoRow : OpenClaim := { program := "ytbkedppkdhfpoaa", sum := "d7e7c4eddb37e511654effa2eaf8d2b1456915045423f22331d1e583b69c488a", func := "superpose/superposelaw.TermPuts", spec := "termPuts", unfollowed := true, recurses := true, loops := true, apart := false, narrowed := true }
def TermPutsUptoSaid : Prop := termPutsUptoRow.holds Try.pinned (OpenSpec.upto termPutsSpec)

/-- 'superposelaw.TermBack', WHERE WHAT IT READS IS OF BULK AT MOST 1048576: true; the input reads as it did. -/
def termBackUptoRow : OpenClaim := { program := "ytbkedppkdhfpoaa", sum := "d7e7c4eddb37e511654effa2eaf8d2b1456915045423f22331d1e583b69c488a", func := "superpose/superposelaw.TermBack", spec := "termBack", unfollowed := true, recurses := true, loops := true, apart := false, narrowed := true }
def TermBackUptoSaid : Prop := termBackUptoRow.holds Try.pinned (OpenSpec.upto termBackSpec)

/-- 'superposelaw.SubstApplies', WHERE WHAT IT READS IS OF BULK AT MOST 1048576: true; the input reads as it did. -/
def substAppliesUptoRow : OpenClaim := { program := "ytbkedppkdhfpoaa", sum := "d7e7c4eddb37e511654effa2eaf8d2b1456915045423f22331d1e583b69c488a", func := "superpose/superposelaw.SubstApplies", spec := "substApplies", unfollowed := true, recurses := true, loops := true, apart := false, narrowed := true }
def SubstAppliesUptoSaid : Prop := substAppliesUptoRow.holds Try.pinned (OpenSpec.upto substAppliesSpec)

/-- 'superposelaw.SubstUnifies', WHERE WHAT IT READS IS OF BULK AT MOST 1048576: true; the input reads as it did. -/
def substUnifiesUptoRow : OpenClaim := { program := "ytbkedppkdhfpoaa", sum := "d7e7c4eddb37e511654effa2eaf8d2b1456915045423f22331d1e583b69c488a", func := "superpose/superposelaw.SubstUnifies", spec := "substUnifies", unfollowed := true, recurses := true, loops := true, apart := false, narrowed := true }
def SubstUnifiesUptoSaid : Prop := substUnifiesUptoRow.holds Try.pinned (OpenSpec.upto substUnifiesSpec)

/-- 'superposelaw.SubstMost', WHERE WHAT IT READS IS OF BULK AT MOST 1048576: true; the input reads as it did. -/
def substMostUptoRow : OpenClaim := { program := "ytbkedppkdhfpoaa", sum := "d7e7c4eddb37e511654effa2eaf8d2b1456915045423f22331d1e583b69c488a", func := "superpose/superposelaw.SubstMost", spec := "substMost", unfollowed := true, recurses := true, loops := true, apart := false, narrowed := true }
def SubstMostUptoSaid : Prop := substMostUptoRow.holds Try.pinned (OpenSpec.upto substMostSpec)

/-- 'superposelaw.OrderTells', WHERE WHAT IT READS IS OF BULK AT MOST 1048576: true; the input reads as it did. -/
def orderTellsUptoRow : OpenClaim := { program := "ytbkedppkdhfpoaa", sum := "d7e7c4eddb37e511654effa2eaf8d2b1456915045423f22331d1e583b69c488a", func := "superpose/superposelaw.OrderTells", spec := "orderTells", unfollowed := true, recurses := true, loops := true, apart := false, narrowed := true }
def OrderTellsUptoSaid : Prop := orderTellsUptoRow.holds Try.pinned (OpenSpec.upto orderTellsSpec)

/-- 'superposelaw.OrderHolds', WHERE WHAT IT READS IS OF BULK AT MOST 1048576: true; the input reads as it did. -/
def orderHoldsUptoRow : OpenClaim := { program := "ytbkedppkdhfpoaa", sum := "d7e7c4eddb37e511654effa2eaf8d2b1456915045423f22331d1e583b69c488a", func := "superpose/superposelaw.OrderHolds", spec := "orderHolds", unfollowed := true, recurses := true, loops := true, apart := false, narrowed := true }
def OrderHoldsUptoSaid : Prop := orderHoldsUptoRow.holds Try.pinned (OpenSpec.upto orderHoldsSpec)

/-- 'superposelaw.RewriteSteps', WHERE WHAT IT READS IS OF BULK AT MOST 1048576: true; the input reads as it did. -/
def rewriteStepsUptoRow : OpenClaim := { program := "ytbkedppkdhfpoaa", sum := "d7e7c4eddb37e511654effa2eaf8d2b1456915045423f22331d1e583b69c488a", func := "superpose/superposelaw.RewriteSteps", spec := "rewriteSteps", unfollowed := true, recurses := true, loops := true, apart := false, narrowed := true }
def RewriteStepsUptoSaid : Prop := rewriteStepsUptoRow.holds Try.pinned (OpenSpec.upto rewriteStepsSpec)

end Rows
end Go.Proofs.Ytbkedppkdhfpoaa
