/-
  No cell of these rows narrows 'for every input' (looked for: loops, veiled, ifaces, maps, wideKeys, modest, calm, conditions, laid).
  DERIVED. THE GIVEN ROWS OF THIS SEAT. 8 by the template 'for every input the law returns true; each argument reads behind the call as it read before'; 0 by the template 'total and deterministic' (their statements: YtfcepnhknmbaaaaTotals.lean).
  GIVEN WITH THE SEED: the statements are not yours to turn. If you find one false, say at which input.
  Laid BY PROGRAM, IN A SANDBOX (cutbox-rows.mjs): the forced cells as the released guide's own fill.sh prints them over the translation eed0fb222267d73e… (all of the seat's roots in one cut). By AI agents, Wed Nov 11 2026. No macro, syntax, notation, axiom, sorry.
-/
import Derived.Test.YtfcepnhknmbaaaaChecked
import GoSem.Claim
import GoSem.ClaimJoined
import GoSem.ClaimMapViews
import Derived.JoinedTies
import Derived.KernelRfl
namespace Go.Proofs.Ytfcepnhknmbaaaa
/- THE CELL 'sum', in the pinned program and in every row, IS THE sha256 OF THE DUMP (.gsa) THAT YtfcepnhknmbaaaaProg.lean LOADS. Nothing in Lean hashes anything: it is a label: what it is worth is what the hold of that sum in a sandbox is worth. -/
noncomputable def Try.pinned : Pinned := { name := "ytfcepnhknmbaaaa", sum := "eed0fb222267d73efb05bab9f6eafde310daced6d9cfeb260629a40a0c4c8cea", checked := Try.checked }
namespace Rows
def none {H : Type} : Left H := { results := [], args := [] }

/-- 'cradlekeep.Counted': WHATEVER THE INPUT: true; the input reads as it did. -/
def countedSpec : ChangeSpec := { name := "counted", fn := fun _ => fun
  | [d1, d2] => { results := [.lit (.bool true)], args := [d1, d2] }
  | _ => none }
def countedRow : OpenClaim := { program := "ytfcepnhknmbaaaa", sum := "eed0fb222267d73efb05bab9f6eafde310daced6d9cfeb260629a40a0c4c8cea", func := "cradle/cradlekeep.Counted", spec := "counted", plainKeys := false, apart := false }
def CountedSaid : Prop := countedRow.holds Try.pinned (OpenSpec.ofChange countedSpec)

/-- ITS FALSE NEIGHBOUR: 'it returns false'. Refute it at one input. -/
def countedWrong : ChangeSpec := { name := "counted", fn := fun _ => fun
  | [d1, d2] => { results := [.lit (.bool false)], args := [d1, d2] }
  | _ => none }
def CountedWrongFalsely : Prop := countedRow.holds Try.pinned (OpenSpec.ofChange countedWrong)

/-- 'cradlekeep.Blank': WHATEVER THE INPUT: true; the input reads as it did. -/
def blankSpec : ChangeSpec := { name := "blank", fn := fun _ => fun
  | [d1, d2, d3, d4] => { results := [.lit (.bool true)], args := [d1, d2, d3, d4] }
  | _ => none }
def blankRow : OpenClaim := { program := "ytfcepnhknmbaaaa", sum := "eed0fb222267d73efb05bab9f6eafde310daced6d9cfeb260629a40a0c4c8cea", func := "cradle/cradlekeep.Blank", spec := "blank", plainKeys := false, apart := false }
def BlankSaid : Prop := blankRow.holds Try.pinned (OpenSpec.ofChange blankSpec)

/-- ITS FALSE NEIGHBOUR: 'it returns false'. Refute it at one input. -/
def blankWrong : ChangeSpec := { name := "blank", fn := fun _ => fun
  | [d1, d2, d3, d4] => { results := [.lit (.bool false)], args := [d1, d2, d3, d4] }
  | _ => none }
def BlankWrongFalsely : Prop := blankRow.holds Try.pinned (OpenSpec.ofChange blankWrong)

/-- 'cradlekeep.Apart': WHATEVER THE INPUT: true; the input reads as it did. -/
def apartSpec : ChangeSpec := { name := "apart", fn := fun _ => fun
  | [d1, d2] => { results := [.lit (.bool true)], args := [d1, d2] }
  | _ => none }
def apartRow : OpenClaim := { program := "ytfcepnhknmbaaaa", sum := "eed0fb222267d73efb05bab9f6eafde310daced6d9cfeb260629a40a0c4c8cea", func := "cradle/cradlekeep.Apart", spec := "apart", plainKeys := false, apart := false }
def ApartSaid : Prop := apartRow.holds Try.pinned (OpenSpec.ofChange apartSpec)

/-- ITS FALSE NEIGHBOUR: 'it returns false'. Refute it at one input. -/
def apartWrong : ChangeSpec := { name := "apart", fn := fun _ => fun
  | [d1, d2] => { results := [.lit (.bool false)], args := [d1, d2] }
  | _ => none }
def ApartWrongFalsely : Prop := apartRow.holds Try.pinned (OpenSpec.ofChange apartWrong)

/-- 'cradlekeep.Shared': WHATEVER THE INPUT: true; the input reads as it did. -/
def sharedSpec : ChangeSpec := { name := "shared", fn := fun _ => fun
  | [d1, d2, d3, d4, d5] => { results := [.lit (.bool true)], args := [d1, d2, d3, d4, d5] }
  | _ => none }
def sharedRow : OpenClaim := { program := "ytfcepnhknmbaaaa", sum := "eed0fb222267d73efb05bab9f6eafde310daced6d9cfeb260629a40a0c4c8cea", func := "cradle/cradlekeep.Shared", spec := "shared", plainKeys := false, apart := false }
def SharedSaid : Prop := sharedRow.holds Try.pinned (OpenSpec.ofChange sharedSpec)

/-- ITS FALSE NEIGHBOUR: 'it returns false'. Refute it at one input. -/
def sharedWrong : ChangeSpec := { name := "shared", fn := fun _ => fun
  | [d1, d2, d3, d4, d5] => { results := [.lit (.bool false)], args := [d1, d2, d3, d4, d5] }
  | _ => none }
def SharedWrongFalsely : Prop := sharedRow.holds Try.pinned (OpenSpec.ofChange sharedWrong)

/-- 'cradlekeep.Walked': WHATEVER THE INPUT: true; the input reads as it did. -/
def walkedSpec : ChangeSpec := { name := "walked", fn := fun _ => fun
  | [d1, d2, d3, d4, d5, d6] => { results := [.lit (.bool true)], args := [d1, d2, d3, d4, d5, d6] }
  | _ => none }
def walkedRow : OpenClaim := { program := "ytfcepnhknmbaaaa", sum := "eed0fb222267d73efb05bab9f6eafde310daced6d9cfeb260629a40a0c4c8cea", func := "cradle/cradlekeep.Walked", spec := "walked", plainKeys := false, apart := false }
def WalkedSaid : Prop := walkedRow.holds Try.pinned (OpenSpec.ofChange walkedSpec)

/-- ITS FALSE NEIGHBOUR: 'it returns false'. Refute it at one input. -/
def walkedWrong : ChangeSpec := { name := "walked", fn := fun _ => fun
  | [d1, d2, d3, d4, d5, d6] => { results := [.lit (.bool false)], args := [d1, d2, d3, d4, d5, d6] }
  | _ => none }
def WalkedWrongFalsely : Prop := walkedRow.holds Try.pinned (OpenSpec.ofChange walkedWrong)

/-- 'cradlekeep.Stale': WHATEVER THE INPUT: true; the input reads as it did. -/
def staleSpec : ChangeSpec := { name := "stale", fn := fun _ => fun
  | [d1, d2, d3, d4] => { results := [.lit (.bool true)], args := [d1, d2, d3, d4] }
  | _ => none }
def staleRow : OpenClaim := { program := "ytfcepnhknmbaaaa", sum := "eed0fb222267d73efb05bab9f6eafde310daced6d9cfeb260629a40a0c4c8cea", func := "cradle/cradlekeep.Stale", spec := "stale", plainKeys := false, apart := false }
def StaleSaid : Prop := staleRow.holds Try.pinned (OpenSpec.ofChange staleSpec)

/-- ITS FALSE NEIGHBOUR: 'it returns false'. Refute it at one input. -/
def staleWrong : ChangeSpec := { name := "stale", fn := fun _ => fun
  | [d1, d2, d3, d4] => { results := [.lit (.bool false)], args := [d1, d2, d3, d4] }
  | _ => none }
def StaleWrongFalsely : Prop := staleRow.holds Try.pinned (OpenSpec.ofChange staleWrong)

/-- 'cradlekeep.Saved': WHATEVER THE INPUT: true; the input reads as it did. -/
def savedSpec : ChangeSpec := { name := "saved", fn := fun _ => fun
  | [d1, d2, d3] => { results := [.lit (.bool true)], args := [d1, d2, d3] }
  | _ => none }
def savedRow : OpenClaim := { program := "ytfcepnhknmbaaaa", sum := "eed0fb222267d73efb05bab9f6eafde310daced6d9cfeb260629a40a0c4c8cea", func := "cradle/cradlekeep.Saved", spec := "saved", unfollowed := true, recurses := true, plainKeys := false, apart := false }
def SavedSaid : Prop := savedRow.holds Try.pinned (OpenSpec.ofChange savedSpec)

/-- ITS FALSE NEIGHBOUR: 'it returns false'. Refute it at one input. -/
def savedWrong : ChangeSpec := { name := "saved", fn := fun _ => fun
  | [d1, d2, d3] => { results := [.lit (.bool false)], args := [d1, d2, d3] }
  | _ => none }
def SavedWrongFalsely : Prop := savedRow.holds Try.pinned (OpenSpec.ofChange savedWrong)

/-- 'cradlekeep.Older': WHATEVER THE INPUT: true; the input reads as it did. -/
def olderSpec : ChangeSpec := { name := "older", fn := fun _ => fun
  | [d1, d2, d3, d4, d5] => { results := [.lit (.bool true)], args := [d1, d2, d3, d4, d5] }
  | _ => none }
def olderRow : OpenClaim := { program := "ytfcepnhknmbaaaa", sum := "eed0fb222267d73efb05bab9f6eafde310daced6d9cfeb260629a40a0c4c8cea", func := "cradle/cradlekeep.Older", spec := "older", unfollowed := true, recurses := true, plainKeys := false, apart := false }
def OlderSaid : Prop := olderRow.holds Try.pinned (OpenSpec.ofChange olderSpec)

/-- ITS FALSE NEIGHBOUR: 'it returns false'. Refute it at one input. -/
def olderWrong : ChangeSpec := { name := "older", fn := fun _ => fun
  | [d1, d2, d3, d4, d5] => { results := [.lit (.bool false)], args := [d1, d2, d3, d4, d5] }
  | _ => none }
def OlderWrongFalsely : Prop := olderRow.holds Try.pinned (OpenSpec.ofChange olderWrong)

/- THE SECOND FORM. 'bulk': how many values and letters a reading holds, each counted each time it is reached (what is shared counts as often as it is met; a slice's spare places count too). A statement '..UptoSaid' is the law's where the arguments, and the package variables that the reading takes, are together of bulk at most 1048576: NARROWER than '..Said'. Prove '..Said' where nothing that the law and all that it calls make is longer than what came in: it says more and counts as full. Else prove '..UptoSaid'. A law counts once. -/
mutual
def uptoBulk {H : Type} : DataW H → Nat
  | .lit (.string bytes) => bytes.length + 1
  | .lit _ => 1
  | .nil => 1
  | .ptr d => uptoBulk d + 1
  | .slice elems spare => uptoBulkAll elems + uptoBulkAll spare + 1
  | .agg parts => uptoBulkAll parts + 1
  | .iface _ d => uptoBulk d + 1
  | .map entries => uptoBulkEntries entries + 1
  | .held _ => 1
def uptoBulkAll {H : Type} : List (DataW H) → Nat
  | [] => 0
  | d :: r => uptoBulk d + uptoBulkAll r
def uptoBulkEntries {H : Type} : List (Lit × DataW H) → Nat
  | [] => 0
  | x :: r => uptoBulkEntry x + uptoBulkEntries r
def uptoBulkEntry {H : Type} : Lit × DataW H → Nat
  | (.string bytes, d) => bytes.length + uptoBulk d + 1
  | (_, d) => uptoBulk d + 1
 end
def uptoSmall : (H : Type) → List (DataW H) → Bool := fun _ ds => decide (uptoBulkAll ds ≤ 1048576)
def OpenSpec.upto (s : _root_.Go.ChangeSpec) : _root_.Go.OpenSpec := { _root_.Go.OpenSpec.ofChange s with cond := some uptoSmall }

/-- 'cradlekeep.Counted', WHERE WHAT IT READS IS OF BULK AT MOST 1048576: true; the input reads as it did. -/
def countedUptoRow : OpenClaim := { program := "ytfcepnhknmbaaaa", sum := "eed0fb222267d73efb05bab9f6eafde310daced6d9cfeb260629a40a0c4c8cea", func := "cradle/cradlekeep.Counted", spec := "counted", plainKeys := false, apart := false, narrowed := true }
def CountedUptoSaid : Prop := countedUptoRow.holds Try.pinned (OpenSpec.upto countedSpec)

/-- 'cradlekeep.Blank', WHERE WHAT IT READS IS OF BULK AT MOST 1048576: true; the input reads as it did. -/
def blankUptoRow : OpenClaim := { program := "ytfcepnhknmbaaaa", sum := "eed0fb222267d73efb05bab9f6eafde310daced6d9cfeb260629a40a0c4c8cea", func := "cradle/cradlekeep.Blank", spec := "blank", plainKeys := false, apart := false, narrowed := true }
def BlankUptoSaid : Prop := blankUptoRow.holds Try.pinned (OpenSpec.upto blankSpec)

/-- 'cradlekeep.Apart', WHERE WHAT IT READS IS OF BULK AT MOST 1048576: true; the input reads as it did. -/
def apartUptoRow : OpenClaim := { program := "ytfcepnhknmbaaaa", sum := "eed0fb222267d73efb05bab9f6eafde310daced6d9cfeb260629a40a0c4c8cea", func := "cradle/cradlekeep.Apart", spec := "apart", plainKeys := false, apart := false, narrowed := true }
def ApartUptoSaid : Prop := apartUptoRow.holds Try.pinned (OpenSpec.upto apartSpec)

/-- 'cradlekeep.Shared', WHERE WHAT IT READS IS OF BULK AT MOST 1048576: true; the input reads as it did. -/
def sharedUptoRow : OpenClaim := { program := "ytfcepnhknmbaaaa", sum := "eed0fb222267d73efb05bab9f6eafde310daced6d9cfeb260629a40a0c4c8cea", func := "cradle/cradlekeep.Shared", spec := "shared", plainKeys := false, apart := false, narrowed := true }
def SharedUptoSaid : Prop := sharedUptoRow.holds Try.pinned (OpenSpec.upto sharedSpec)

/-- 'cradlekeep.Walked', WHERE WHAT IT READS IS OF BULK AT MOST 1048576: true; the input reads as it did. -/
def walkedUptoRow : OpenClaim := { program := "ytfcepnhknmbaaaa", sum := "eed0fb222267d73efb05bab9f6eafde310daced6d9cfeb260629a40a0c4c8cea", func := "cradle/cradlekeep.Walked", spec := "walked", plainKeys := false, apart := false, narrowed := true }
def WalkedUptoSaid : Prop := walkedUptoRow.holds Try.pinned (OpenSpec.upto walkedSpec)

/-- 'cradlekeep.Stale', WHERE WHAT IT READS IS OF BULK AT MOST 1048576: true; the input reads as it did. -/
def staleUptoRow : OpenClaim := { program := "ytfcepnhknmbaaaa", sum := "eed0fb222267d73efb05bab9f6eafde310daced6d9cfeb260629a40a0c4c8cea", func := "cradle/cradlekeep.Stale", spec := "stale", plainKeys := false, apart := false, narrowed := true }
def StaleUptoSaid : Prop := staleUptoRow.holds Try.pinned (OpenSpec.upto staleSpec)

/-- 'cradlekeep.Saved', WHERE WHAT IT READS IS OF BULK AT MOST 1048576: true; the input reads as it did. -/
def savedUptoRow : OpenClaim := { program := "ytfcepnhknmbaaaa", sum := "eed0fb222267d73efb05bab9f6eafde310daced6d9cfeb260629a40a0c4c8cea", func := "cradle/cradlekeep.Saved", spec := "saved", unfollowed := true, recurses := true, plainKeys := false, apart := false, narrowed := true }
def SavedUptoSaid : Prop := savedUptoRow.holds Try.pinned (OpenSpec.upto savedSpec)

/-- 'cradlekeep.Older', WHERE WHAT IT READS IS OF BULK AT MOST 1048576: true; the input reads as it did. -/
def olderUptoRow : OpenClaim := { program := "ytfcepnhknmbaaaa", sum := "eed0fb222267d73efb05bab9f6eafde310daced6d9cfeb260629a40a0c4c8cea", func := "cradle/cradlekeep.Older", spec := "older", unfollowed := true, recurses := true, plainKeys := false, apart := false, narrowed := true }
def OlderUptoSaid : Prop := olderUptoRow.holds Try.pinned (OpenSpec.upto olderSpec)

end Rows
end Go.Proofs.Ytfcepnhknmbaaaa
