/-
  No cell of these rows narrows 'for every input' (looked for: loops, veiled, ifaces, maps, wideKeys, modest, calm, conditions, laid).
  DERIVED. THE GIVEN ROWS OF THIS SEAT. 5 by the template 'for every input the law returns true; each argument reads behind the call as it read before'; 0 by the template 'total and deterministic' (their statements: YtdpaobflknkbkaaTotals.lean).
  GIVEN WITH THE SEED: the statements are not yours to turn. If you find one false, say at which input.
  Laid BY PROGRAM, IN A SANDBOX (cutbox-rows.mjs): the forced cells as the released guide's own fill.sh prints them over the translation f764be3a81c15497… (all of the seat's roots in one cut). By AI agents, Wed Nov 11 2026. No macro, syntax, notation, axiom, sorry.
-/
import Derived.Test.YtdpaobflknkbkaaChecked
import GoSem.Claim
import GoSem.ClaimJoined
import GoSem.ClaimMapViews
import Derived.JoinedTies
import Derived.KernelRfl
namespace Go.Proofs.Ytdpaobflknkbkaa
/- THE CELL 'sum', in the pinned program and in every row, IS THE sha256 OF THE DUMP (.gsa) THAT YtdpaobflknkbkaaProg.lean LOADS. Nothing in Lean hashes anything: it is a label: what it is worth is what the hold of that sum in a sandbox is worth. -/
noncomputable def Try.pinned : Pinned := { name := "ytdpaobflknkbkaa", sum := "f764be3a81c154977b3a9e597c5b7b84891e2acdb415084c9c269ae6b2a48e5a", checked := Try.checked }
namespace Rows
def none {H : Type} : Left H := { results := [], args := [] }

/-- 'spencelaw14.ViewDoes': WHATEVER THE INPUT: true; the input reads as it did. -/
def viewDoesSpec : ChangeSpec := { name := "viewDoes", fn := fun _ => fun
  | [d1, d2, d3, d4] => { results := [.lit (.bool true)], args := [d1, d2, d3, d4] }
  | _ => none }
def viewDoesRow : OpenClaim := { program := "ytdpaobflknkbkaa", sum := "f764be3a81c154977b3a9e597c5b7b84891e2acdb415084c9c269ae6b2a48e5a", func := "spence/spencelaw14.ViewDoes", spec := "viewDoes", unfollowed := true, recurses := true, plainKeys := false, apart := false }
def ViewDoesSaid : Prop := viewDoesRow.holds Try.pinned (OpenSpec.ofChange viewDoesSpec)

/-- ITS FALSE NEIGHBOUR: 'it returns false'. Refute it at one input. -/
def viewDoesWrong : ChangeSpec := { name := "viewDoes", fn := fun _ => fun
  | [d1, d2, d3, d4] => { results := [.lit (.bool false)], args := [d1, d2, d3, d4] }
  | _ => none }
def ViewDoesWrongFalsely : Prop := viewDoesRow.holds Try.pinned (OpenSpec.ofChange viewDoesWrong)

/-- 'spencelaw14.ViewFits': WHATEVER THE INPUT: true; the input reads as it did. -/
def viewFitsSpec : ChangeSpec := { name := "viewFits", fn := fun _ => fun
  | [d1, d2] => { results := [.lit (.bool true)], args := [d1, d2] }
  | _ => none }
def viewFitsRow : OpenClaim := { program := "ytdpaobflknkbkaa", sum := "f764be3a81c154977b3a9e597c5b7b84891e2acdb415084c9c269ae6b2a48e5a", func := "spence/spencelaw14.ViewFits", spec := "viewFits", unfollowed := true, recurses := true, plainKeys := false, apart := false }
def ViewFitsSaid : Prop := viewFitsRow.holds Try.pinned (OpenSpec.ofChange viewFitsSpec)

/-- ITS FALSE NEIGHBOUR: 'it returns false'. Refute it at one input. -/
def viewFitsWrong : ChangeSpec := { name := "viewFits", fn := fun _ => fun
  | [d1, d2] => { results := [.lit (.bool false)], args := [d1, d2] }
  | _ => none }
def ViewFitsWrongFalsely : Prop := viewFitsRow.holds Try.pinned (OpenSpec.ofChange viewFitsWrong)

/-- 'spencelaw14.ViewEnds': WHATEVER THE INPUT: true; the input reads as it did. -/
def viewEndsSpec : ChangeSpec := { name := "viewEnds", fn := fun _ => fun
  | [] => { results := [.lit (.bool true)], args := [] }
  | _ => none }
def viewEndsRow : OpenClaim := { program := "ytdpaobflknkbkaa", sum := "f764be3a81c154977b3a9e597c5b7b84891e2acdb415084c9c269ae6b2a48e5a", func := "spence/spencelaw14.ViewEnds", spec := "viewEnds", unfollowed := true, recurses := true, plainKeys := false, apart := false }
def ViewEndsSaid : Prop := viewEndsRow.holds Try.pinned (OpenSpec.ofChange viewEndsSpec)

/-- ITS FALSE NEIGHBOUR: 'it returns false'. Refute it at one input. -/
def viewEndsWrong : ChangeSpec := { name := "viewEnds", fn := fun _ => fun
  | [] => { results := [.lit (.bool false)], args := [] }
  | _ => none }
def ViewEndsWrongFalsely : Prop := viewEndsRow.holds Try.pinned (OpenSpec.ofChange viewEndsWrong)

/-- 'spencelaw14.ViewAlone': WHATEVER THE INPUT: true; the input reads as it did. -/
def viewAloneSpec : ChangeSpec := { name := "viewAlone", fn := fun _ => fun
  | [d1, d2, d3] => { results := [.lit (.bool true)], args := [d1, d2, d3] }
  | _ => none }
def viewAloneRow : OpenClaim := { program := "ytdpaobflknkbkaa", sum := "f764be3a81c154977b3a9e597c5b7b84891e2acdb415084c9c269ae6b2a48e5a", func := "spence/spencelaw14.ViewAlone", spec := "viewAlone", unfollowed := true, recurses := true, plainKeys := false, apart := false }
def ViewAloneSaid : Prop := viewAloneRow.holds Try.pinned (OpenSpec.ofChange viewAloneSpec)

/-- ITS FALSE NEIGHBOUR: 'it returns false'. Refute it at one input. -/
def viewAloneWrong : ChangeSpec := { name := "viewAlone", fn := fun _ => fun
  | [d1, d2, d3] => { results := [.lit (.bool false)], args := [d1, d2, d3] }
  | _ => none }
def ViewAloneWrongFalsely : Prop := viewAloneRow.holds Try.pinned (OpenSpec.ofChange viewAloneWrong)

/-- 'spencelaw14.ViewLast': WHATEVER THE INPUT: true; the input reads as it did. -/
def viewLastSpec : ChangeSpec := { name := "viewLast", fn := fun _ => fun
  | [d1, d2] => { results := [.lit (.bool true)], args := [d1, d2] }
  | _ => none }
def viewLastRow : OpenClaim := { program := "ytdpaobflknkbkaa", sum := "f764be3a81c154977b3a9e597c5b7b84891e2acdb415084c9c269ae6b2a48e5a", func := "spence/spencelaw14.ViewLast", spec := "viewLast", unfollowed := true, recurses := true, plainKeys := false, apart := false }
def ViewLastSaid : Prop := viewLastRow.holds Try.pinned (OpenSpec.ofChange viewLastSpec)

/-- ITS FALSE NEIGHBOUR: 'it returns false'. Refute it at one input. -/
def viewLastWrong : ChangeSpec := { name := "viewLast", fn := fun _ => fun
  | [d1, d2] => { results := [.lit (.bool false)], args := [d1, d2] }
  | _ => none }
def ViewLastWrongFalsely : Prop := viewLastRow.holds Try.pinned (OpenSpec.ofChange viewLastWrong)

/- THE SECOND FORM. 'bulk': how many values and letters a reading holds, each counted each time it is reached (what is shared counts as often as it is met; a slice's spare places count too). A statement '..UptoSaid' is the law's where the arguments, and the package variables that the reading takes, are together of bulk at most 1048576: NARROWER than '..Said'. Prove '..Said' where nothing that the law and all that it calls make is longer than what came in: it says more and counts as full. Else prove '..UptoSaid'. A law counts once. -/
mutual
def uptoBulk {H : Type} : DataW H → Nat
  | .lit (.string bytes) => bytes.length + 1
  | .lit _ => 1
  | .nil => 1
  | .ptr d => uptoBulk d + 1
  | .slice elems spare => uptoBulkAll elems + uptoBulkAll spare + 1
  | .agg parts => uptoBulkAll parts + 1
  | .iface _ d => uptoBulk d + 1
  | .map entries => uptoBulkEntries entries + 1
  | .held _ => 1
def uptoBulkAll {H : Type} : List (DataW H) → Nat
  | [] => 0
  | d :: r => uptoBulk d + uptoBulkAll r
def uptoBulkEntries {H : Type} : List (Lit × DataW H) → Nat
  | [] => 0
  | x :: r => uptoBulkEntry x + uptoBulkEntries r
def uptoBulkEntry {H : Type} : Lit × DataW H → Nat
  | (.string bytes, d) => bytes.length + uptoBulk d + 1
  | (_, d) => uptoBulk d + 1
 end
def uptoSmall : (H : Type) → List (DataW H) → Bool := fun _ ds => decide (uptoBulkAll ds ≤ 1048576)
def OpenSpec.upto (s : _root_.Go.ChangeSpec) : _root_.Go.OpenSpec := { _root_.Go.OpenSpec.ofChange s with cond := some uptoSmall }

/-- 'spencelaw14.ViewDoes', WHERE WHAT IT READS IS OF BULK AT MOST 1048576: true; the input reads as it did. -/
def viewDoesUptoRow : OpenClaim := { program := "ytdpaobflknkbkaa", sum := "f764be3a81c154977b3a9e597c5b7b84891e2acdb415084c9c269ae6b2a48e5a", func := "spence/spencelaw14.ViewDoes", spec := "viewDoes", unfollowed := true, recurses := true, plainKeys := false, apart := false, narrowed := true }
def ViewDoesUptoSaid : Prop := viewDoesUptoRow.holds Try.pinned (OpenSpec.upto viewDoesSpec)

/-- 'spencelaw14.ViewFits', WHERE WHAT IT READS IS OF BULK AT MOST 1048576: true; the input reads as it did. -/
def viewFitsUptoRow : OpenClaim := { program := "ytdpaobflknkbkaa", sum := "f764be3a81c154977b3a9e597c5b7b84891e2acdb415084c9c269ae6b2a48e5a", func := "spence/spencelaw14.ViewFits", spec := "viewFits", unfollowed := true, recurses := true, plainKeys := false, apart := false, narrowed := true }
def ViewFitsUptoSaid : Prop := viewFitsUptoRow.holds Try.pinned (OpenSpec.upto viewFitsSpec)

/-- 'spencelaw14.ViewEnds', WHERE WHAT IT READS IS OF BULK AT MOST 1048576: true; the input reads as it did. -/
def viewEndsUptoRow : OpenClaim := { program := "ytdpaobflknkbkaa", sum := "f764be3a81c154977b3a9e597c5b7b84891e2acdb415084c9c269ae6b2a48e5a", func := "spence/spencelaw14.ViewEnds", spec := "viewEnds", unfollowed := true, recurses := true, plainKeys := false, apart := false, narrowed := true }
def ViewEndsUptoSaid : Prop := viewEndsUptoRow.holds Try.pinned (OpenSpec.upto viewEndsSpec)

/-- 'spencelaw14.ViewAlone', WHERE WHAT IT READS IS OF BULK AT MOST 1048576: true; the input reads as it did. -/
def viewAloneUptoRow : OpenClaim := { program := "ytdpaobflknkbkaa", sum := "f764be3a81c154977b3a9e597c5b7b84891e2acdb415084c9c269ae6b2a48e5a", func := "spence/spencelaw14.ViewAlone", spec := "viewAlone", unfollowed := true, recurses := true, plainKeys := false, apart := false, narrowed := true }
def ViewAloneUptoSaid : Prop := viewAloneUptoRow.holds Try.pinned (OpenSpec.upto viewAloneSpec)

/-- 'spencelaw14.ViewLast', WHERE WHAT IT READS IS OF BULK AT MOST 1048576: true; the input reads as it did. -/
def viewLastUptoRow : OpenClaim := { program := "ytdpaobflknkbkaa", sum := "f764be3a81c154977b3a9e597c5b7b84891e2acdb415084c9c269ae6b2a48e5a", func := "spence/spencelaw14.ViewLast", spec := "viewLast", unfollowed := true, recurses := true, plainKeys := false, apart := false, narrowed := true }
def ViewLastUptoSaid : Prop := viewLastUptoRow.holds Try.pinned (OpenSpec.upto viewLastSpec)

end Rows
end Go.Proofs.Ytdpaobflknkbkaa
