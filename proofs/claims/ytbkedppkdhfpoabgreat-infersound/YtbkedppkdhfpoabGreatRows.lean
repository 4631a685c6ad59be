/-
  NARROWER THAN 'FOR EVERY INPUT', by the rows' own cells (each row's printed sentence says how): ClauseTells: loops · ModelHangs: loops · InferInfers: loops · InferAll: loops · InferSound: loops · ProofTells: loops · ProofSound: loops · SearchSearches: loops · SearchIs: loops.
  DERIVED. THE GIVEN ROWS OF THIS SEAT. 9 by the template 'for every input the law returns true; each argument reads behind the call as it read before'; 0 by the template 'total and deterministic' (their statements: YtbkedppkdhfpoabGreatTotals.lean).
  GIVEN WITH THE SEED: the statements are not yours to turn. If you find one false, say at which input.
  Laid BY PROGRAM, IN A SANDBOX (cutbox-rows.mjs): the forced cells as the released guide's own fill.sh prints them over the translation 2a30f3ae13f9b5ee… (all of the seat's roots in one cut). By AI agents, Wed Nov 11 2026. No macro, syntax, notation, axiom, sorry.
-/
import Derived.Test.YtbkedppkdhfpoabGreatChecked
import GoSem.Claim
import GoSem.ClaimJoined
import GoSem.ClaimMapViews
import Derived.JoinedTies
import Derived.KernelRfl
namespace Go.Proofs.YtbkedppkdhfpoabGreat
/- THE CELL 'sum', in the pinned program and in every row, IS THE sha256 OF THE DUMP (.gsa) THAT YtbkedppkdhfpoabGreatProg.lean LOADS. Nothing in Lean hashes anything: it is a label: what it is worth is what the hold of that sum in a sandbox is worth. -/
noncomputable def Tryz.pinned : Pinned := { name := "ytbkedppkdhfpoabgreat", sum := "2a30f3ae13f9b5eebffdfeb55544d087660f551884cb7cf6b519182850c57036", checked := Tryz.checked }
namespace Rows
def none {H : Type} : Left H := { results := [], args := [] }

/-- 'superposelaw.ClauseTells': WHATEVER THE INPUT: true; the input reads as it did. -/
def clauseTellsSpec : ChangeSpec := { name := "clauseTells", fn := fun _ => fun
  | [d1, d2, d3] => { results := [.lit (.bool true)], args := [d1, d2, d3] }
  | _ => none }
def clauseTellsRow : OpenClaim := { program := "ytbkedppkdhfpoabgreat", sum := "2a30f3ae13f9b5eebffdfeb55544d087660f551884cb7cf6b519182850c57036", func := "superpose/superposelaw.ClauseTells", spec := "clauseTells", unfollowed := true, recurses := true, loops := true, apart := false }
def ClauseTellsSaid : Prop := clauseTellsRow.holds Tryz.pinned (OpenSpec.ofChange clauseTellsSpec)

/-- ITS FALSE NEIGHBOUR: 'it returns false'. Refute it at one input. -/
def clauseTellsWrong : ChangeSpec := { name := "clauseTells", fn := fun _ => fun
  | [d1, d2, d3] => { results := [.lit (.bool false)], args := [d1, d2, d3] }
  | _ => none }
def ClauseTellsWrongFalsely : Prop := clauseTellsRow.holds Tryz.pinned (OpenSpec.ofChange clauseTellsWrong)

/-- 'superposelaw.ModelHangs': WHATEVER THE INPUT: true; the input reads as it did. -/
def modelHangsSpec : ChangeSpec := { name := "modelHangs", fn := fun _ => fun
  | [d1, d2, d3, d4] => { results := [.lit (.bool true)], args := [d1, d2, d3, d4] }
  | _ => none }
def modelHangsRow : OpenClaim := { program := "ytbkedppkdhfpoabgreat", sum := "2a30f3ae13f9b5eebffdfeb55544d087660f551884cb7cf6b519182850c57036", func := "superpose/superposelaw.ModelHangs", spec := "modelHangs", unfollowed := true, recurses := true, loops := true, apart := false }
def ModelHangsSaid : Prop := modelHangsRow.holds Tryz.pinned (OpenSpec.ofChange modelHangsSpec)

/-- ITS FALSE NEIGHBOUR: 'it returns false'. Refute it at one input. -/
def modelHangsWrong : ChangeSpec := { name := "modelHangs", fn := fun _ => fun
  | [d1, d2, d3, d4] => { results := [.lit (.bool false)], args := [d1, d2, d3, d4] }
  | _ => none }
def ModelHangsWrongFalsely : Prop := modelHangsRow.holds Tryz.pinned (OpenSpec.ofChange modelHangsWrong)

/-- 'superposelaw.InferInfers': WHATEVER THE INPUT: true; the input reads as it did. -/
def inferInfersSpec : ChangeSpec := { name := "inferInfers", fn := fun _ => fun
  | [d1, d2, d3] => { results := [.lit (.bool true)], args := [d1, d2, d3] }
  | _ => none }
def inferInfersRow : OpenClaim := { program := "ytbkedppkdhfpoabgreat", sum := "2a30f3ae13f9b5eebffdfeb55544d087660f551884cb7cf6b519182850c57036", func := "superpose/superposelaw.InferInfers", spec := "inferInfers", unfollowed := true, recurses := true, loops := true, apart := false }
def InferInfersSaid : Prop := inferInfersRow.holds Tryz.pinned (OpenSpec.ofChange inferInfersSpec)

/-- ITS FALSE NEIGHBOUR: 'it returns false'. Refute it at one input. -/
def inferInfersWrong : ChangeSpec := { name := "inferInfers", fn := fun _ => fun
  | [d1, d2, d3] => { results := [.lit (.bool false)], args := [d1, d2, d3] }
  | _ => none }
def InferInfersWrongFalsely : Prop := inferInfersRow.holds Tryz.pinned (OpenSpec.ofChange inferInfersWrong)

/-- 'superposelaw.InferAll': WHATEVER THE INPUT: true; the input reads as it did. -/
def inferAllSpec : ChangeSpec := { name := "inferAll", fn := fun _ => fun
  | [d1, d2, d3, d4] => { results := [.lit (.bool true)], args := [d1, d2, d3, d4] }
  | _ => none }
def inferAllRow : OpenClaim := { program := "ytbkedppkdhfpoabgreat", sum := "2a30f3ae13f9b5eebffdfeb55544d087660f551884cb7cf6b519182850c57036", func := "superpose/superposelaw.InferAll", spec := "inferAll", unfollowed := true, recurses := true, loops := true, apart := false }
def InferAllSaid : Prop := inferAllRow.holds Tryz.pinned (OpenSpec.ofChange inferAllSpec)

/-- ITS FALSE NEIGHBOUR: 'it returns false'. Refute it at one input. -/
def inferAllWrong : ChangeSpec := { name := "inferAll", fn := fun _ => fun
  | [d1, d2, d3, d4] => { results := [.lit (.bool false)], args := [d1, d2, d3, d4] }
  | _ => none }
def InferAllWrongFalsely : Prop := inferAllRow.holds Tryz.pinned (OpenSpec.ofChange inferAllWrong)

/-- 'superposelaw.InferSound': WHATEVER THE INPUT: true; the input reads as it did. -/
def inferSoundSpec : ChangeSpec := { name := "inferSound", fn := fun _ => fun
  | [d1, d2, d3, d4] => { results := [.lit (.bool true)], args := [d1, d2, d3, d4] }
  | _ => none }
def inferSoundRow : OpenClaim := { program := "ytbkedppkdhfpoabgreat", sum := "2a30f3ae13f9b5eebffdfeb55544d087660f551884cb7cf6b519182850c57036", func := "superpose/superposelaw.InferSound", spec := "inferSound", unfollowed := true, recurses := true, loops := true, apart := false }
def InferSoundSaid : Prop := inferSoundRow.holds Tryz.pinned (OpenSpec.ofChange inferSoundSpec)

/-- ITS FALSE NEIGHBOUR: 'it returns false'. Refute it at one input. -/
def inferSoundWrong : ChangeSpec := { name := "inferSound", fn := fun _ => fun
  | [d1, d2, d3, d4] => { results := [.lit (.bool false)], args := [d1, d2, d3, d4] }
  | _ => none }
def InferSoundWrongFalsely : Prop := inferSoundRow.holds Tryz.pinned (OpenSpec.ofChange inferSoundWrong)

/-- 'superposelaw.ProofTells': WHATEVER THE INPUT: true; the input reads as it did. -/
def proofTellsSpec : ChangeSpec := { name := "proofTells", fn := fun _ => fun
  | [d1, d2, d3] => { results := [.lit (.bool true)], args := [d1, d2, d3] }
  | _ => none }
def proofTellsRow : OpenClaim := { program := "ytbkedppkdhfpoabgreat", sum := "2a30f3ae13f9b5eebffdfeb55544d087660f551884cb7cf6b519182850c57036", func := "superpose/superposelaw.ProofTells", spec := "proofTells", unfollowed := true, recurses := true, loops := true, apart := false }
def ProofTellsSaid : Prop := proofTellsRow.holds Tryz.pinned (OpenSpec.ofChange proofTellsSpec)

/-- ITS FALSE NEIGHBOUR: 'it returns false'. Refute it at one input. -/
def proofTellsWrong : ChangeSpec := { name := "proofTells", fn := fun _ => fun
  | [d1, d2, d3] => { results := [.lit (.bool false)], args := [d1, d2, d3] }
  | _ => none }
def ProofTellsWrongFalsely : Prop := proofTellsRow.holds Tryz.pinned (OpenSpec.ofChange proofTellsWrong)

/-- 'superposelaw.ProofSound': WHATEVER THE INPUT: true; the input reads as it did. -/
def proofSoundSpec : ChangeSpec := { name := "proofSound", fn := fun _ => fun
  | [d1, d2, d3, d4] => { results := [.lit (.bool true)], args := [d1, d2, d3, d4] }
  | _ => none }
def proofSoundRow : OpenClaim := { program := "ytbkedppkdhfpoabgreat", sum := "2a30f3ae13f9b5eebffdfeb55544d087660f551884cb7cf6b519182850c57036", func := "superpose/superposelaw.ProofSound", spec := "proofSound", unfollowed := true, recurses := true, loops := true, apart := false }
def ProofSoundSaid : Prop := proofSoundRow.holds Tryz.pinned (OpenSpec.ofChange proofSoundSpec)

/-- ITS FALSE NEIGHBOUR: 'it returns false'. Refute it at one input. -/
def proofSoundWrong : ChangeSpec := { name := "proofSound", fn := fun _ => fun
  | [d1, d2, d3, d4] => { results := [.lit (.bool false)], args := [d1, d2, d3, d4] }
  | _ => none }
def ProofSoundWrongFalsely : Prop := proofSoundRow.holds Tryz.pinned (OpenSpec.ofChange proofSoundWrong)

/-- 'superposelaw.SearchSearches': WHATEVER THE INPUT: true; the input reads as it did. -/
def searchSearchesSpec : ChangeSpec := { name := "searchSearches", fn := fun _ => fun
  | [d1, d2, d3] => { results := [.lit (.bool true)], args := [d1, d2, d3] }
  | _ => none }
def searchSearchesRow : OpenClaim := { program := "ytbkedppkdhfpoabgreat", sum := "2a30f3ae13f9b5eebffdfeb55544d087660f551884cb7cf6b519182850c57036", func := "superpose/superposelaw.SearchSearches", spec := "searchSearches", inPlace := ["maps.clone"], unfollowed := true, recurses := true, loops := true, apart := false }
def SearchSearchesSaid : Prop := searchSearchesRow.holds Tryz.pinned (OpenSpec.ofChange searchSearchesSpec)

/-- ITS FALSE NEIGHBOUR: 'it returns false'. Refute it at one input. -/
def searchSearchesWrong : ChangeSpec := { name := "searchSearches", fn := fun _ => fun
  | [d1, d2, d3] => { results := [.lit (.bool false)], args := [d1, d2, d3] }
  | _ => none }
def SearchSearchesWrongFalsely : Prop := searchSearchesRow.holds Tryz.pinned (OpenSpec.ofChange searchSearchesWrong)

/-- 'superposelaw.SearchIs': WHATEVER THE INPUT: true; the input reads as it did. -/
def searchIsSpec : ChangeSpec := { name := "searchIs", fn := fun _ => fun
  | [d1, d2, d3] => { results := [.lit (.bool true)], args := [d1, d2, d3] }
  | _ => none }
def searchIsRow : OpenClaim := { program := "ytbkedppkdhfpoabgreat", sum := "2a30f3ae13f9b5eebffdfeb55544d087660f551884cb7cf6b519182850c57036", func := "superpose/superposelaw.SearchIs", spec := "searchIs", inPlace := ["maps.clone"], unfollowed := true, recurses := true, loops := true, apart := false }
def SearchIsSaid : Prop := searchIsRow.holds Tryz.pinned (OpenSpec.ofChange searchIsSpec)

/-- ITS FALSE NEIGHBOUR: 'it returns false'. Refute it at one input. -/
def searchIsWrong : ChangeSpec := { name := "searchIs", fn := fun _ => fun
  | [d1, d2, d3] => { results := [.lit (.bool false)], args := [d1, d2, d3] }
  | _ => none }
def SearchIsWrongFalsely : Prop := searchIsRow.holds Tryz.pinned (OpenSpec.ofChange searchIsWrong)

/- THE SECOND FORM. 'bulk': how many values and letters a reading holds, each counted each time it is reached (what is shared counts as often as it is met; a slice's spare places count too). A statement '..UptoSaid' is the law's where the arguments, and the package variables that the reading takes, are together of bulk at most 1048576: NARROWER than '..Said'. Prove '..Said' where nothing that the law and all that it calls make is longer than what came in: it says more and counts as full. Else prove '..UptoSaid'. A law counts once. -/
mutual
def uptoBulk {H : Type} : DataW H → Nat
  | .lit (.string bytes) => bytes.length + 1
  | .lit _ => 1
  | .nil => 1
  | .ptr d => uptoBulk d + 1
  | .slice elems spare => uptoBulkAll elems + uptoBulkAll spare + 1
  | .agg parts => uptoBulkAll parts + 1
  | .iface _ d => uptoBulk d + 1
  | .map entries => uptoBulkEntries entries + 1
  | .held _ => 1
def uptoBulkAll {H : Type} : List (DataW H) → Nat
  | [] => 0
  | d :: r => uptoBulk d + uptoBulkAll r
def uptoBulkEntries {H : Type} : List (Lit × DataW H) → Nat
  | [] => 0
  | x :: r => uptoBulkEntry x + uptoBulkEntries r
def uptoBulkEntry {H : Type} : Lit × DataW H → Nat
  | (.string bytes, d) => bytes.length + uptoBulk d + 1
  | (_, d) => uptoBulk d + 1
 end
def uptoSmall : (H : Type) → List (DataW H) → Bool := fun _ ds => decide (uptoBulkAll ds ≤ 1048576)
def OpenSpec.upto (s : _root_.Go.ChangeSpec) : _root_.Go.OpenSpec := { _root_.Go.OpenSpec.ofChange s with cond := some uptoSmall }

/-- 'superposelaw.ClauseTells', WHERE WHAT IT READS IS OF BULK AT MOST 1048576: true; the input reads as it did. -/
def clauseTellsUptoRow : OpenClaim := { program := "ytbkedppkdhfpoabgreat", sum := "2a30f3ae13f9b5eebffdfeb55544d087660f551884cb7cf6b519182850c57036", func := "superpose/superposelaw.ClauseTells", spec := "clauseTells", unfollowed := true, recurses := true, loops := true, apart := false, narrowed := true }
def ClauseTellsUptoSaid : Prop := clauseTellsUptoRow.holds Tryz.pinned (OpenSpec.upto clauseTellsSpec)

/-- 'superposelaw.ModelHangs', WHERE WHAT IT READS IS OF BULK AT MOST 1048576: true; the input reads as it did. -/
def modelHangsUptoRow : OpenClaim := { program := "ytbkedppkdhfpoabgreat", sum := "2a30f3ae13f9b5eebffdfeb55544d087660f551884cb7cf6b519182850c57036", func := "superpose/superposelaw.ModelHangs", spec := "modelHangs", unfollowed := true, recurses := true, loops := true, apart := false, narrowed := true }
def ModelHangsUptoSaid : Prop := modelHangsUptoRow.holds Tryz.pinned (OpenSpec.upto modelHangsSpec)

/-- 'superposelaw.InferInfers', WHERE WHAT IT READS IS OF BULK AT MOST 1048576: true; the input reads as it did. -/
def inferInfersUptoRow : OpenClaim := { program := "ytbkedppkdhfpoabgreat", sum := "2a30f3ae13f9b5eebffdfeb55544d087660f551884cb7cf6b519182850c57036", func := "superpose/superposelaw.InferInfers", spec := "inferInfers", unfollowed := true, recurses := true, loops := true, apart := false, narrowed := true }
def InferInfersUptoSaid : Prop := inferInfersUptoRow.holds Tryz.pinned (OpenSpec.upto inferInfersSpec)

/-- 'superposelaw.InferAll', WHERE WHAT IT READS IS OF BULK AT MOST 1048576: true; the input reads as it did. -/
def inferAllUptoRow : OpenClaim := { program := "ytbkedppkdhfpoabgreat", sum := "2a30f3ae13f9b5eebffdfeb55544d087660f551884cb7cf6b519182850c57036", func := "superpose/superposelaw.InferAll", spec := "inferAll", unfollowed := true, recurses := true, loops := true, apart := false, narrowed := true }
def InferAllUptoSaid : Prop := inferAllUptoRow.holds Tryz.pinned (OpenSpec.upto inferAllSpec)

/-- 'superposelaw.InferSound', WHERE WHAT IT READS IS OF BULK AT MOST 1048576: true; the input reads as it did. -/
def inferSoundUptoRow : OpenClaim := { program := "ytbkedppkdhfpoabgreat", sum := "2a30f3ae13f9b5eebffdfeb55544d087660f551884cb7cf6b519182850c57036", func := "superpose/superposelaw.InferSound", spec := "inferSound", unfollowed := true, recurses := true, loops := true, apart := false, narrowed := true }
def InferSoundUptoSaid : Prop := inferSoundUptoRow.holds Tryz.pinned (OpenSpec.upto inferSoundSpec)

/-- 'superposelaw.ProofTells', WHERE WHAT IT READS IS OF BULK AT MOST 1048576: true; the input reads as it did. -/
def proofTellsUptoRow : OpenClaim := { program := "ytbkedppkdhfpoabgreat", sum := "2a30f3ae13f9b5eebffdfeb55544d087660f551884cb7cf6b519182850c57036", func := "superpose/superposelaw.ProofTells", spec := "proofTells", unfollowed := true, recurses := true, loops := true, apart := false, narrowed := true }
def ProofTellsUptoSaid : Prop := proofTellsUptoRow.holds Tryz.pinned (OpenSpec.upto proofTellsSpec)

/-- 'superposelaw.ProofSound', WHERE WHAT IT READS IS OF BULK AT MOST 1048576: true; the input reads as it did. -/
def proofSoundUptoRow : OpenClaim := { program := "ytbkedppkdhfpoabgreat", sum := "2a30f3ae13f9b5eebffdfeb55544d087660f551884cb7cf6b519182850c57036", func := "superpose/superposelaw.ProofSound", spec := "proofSound", unfollowed := true, recurses := true, loops := true, apart := false, narrowed := true }
def ProofSoundUptoSaid : Prop := proofSoundUptoRow.holds Tryz.pinned (OpenSpec.upto proofSoundSpec)

/-- 'superposelaw.SearchSearches', WHERE WHAT IT READS IS OF BULK AT MOST 1048576: true; the input reads as it did. -/
def searchSearchesUptoRow : OpenClaim := { program := "ytbkedppkdhfpoabgreat", sum := "2a30f3ae13f9b5eebffdfeb55544d087660f551884cb7cf6b519182850c57036", func := "superpose/superposelaw.SearchSearches", spec := "searchSearches", inPlace := ["maps.clone"], unfollowed := true, recurses := true, loops := true, apart := false, narrowed := true }
def SearchSearchesUptoSaid : Prop := searchSearchesUptoRow.holds Tryz.pinned (OpenSpec.upto searchSearchesSpec)

/-- 'superposelaw.SearchIs', WHERE WHAT IT READS IS OF BULK AT MOST 1048576: true; the input reads as it did. -/
def searchIsUptoRow : OpenClaim := { program := "ytbkedppkdhfpoabgreat", sum := "2a30f3ae13f9b5eebffdfeb55544d087660f551884cb7cf6b519182850c57036", func := "superpose/superposelaw.SearchIs", spec := "searchIs", inPlace := ["maps.clone"], unfollowed := true, recurses := true, loops := true, apart := false, narrowed := true }
def SearchIsUptoSaid : Prop := searchIsUptoRow.holds Tryz.pinned (OpenSpec.upto searchIsSpec)

end Rows
end Go.Proofs.YtbkedppkdhfpoabGreat
