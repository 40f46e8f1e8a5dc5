/-
  No cell of these rows narrows 'for every input' (looked for: loops, veiled, ifaces, maps, wideKeys, modest, calm, conditions, laid).
  DERIVED. THE GIVEN ROWS OF THIS SEAT. 5 by the template 'for every input the law returns true; each argument reads behind the call as it read before'; 0 by the template 'total and deterministic' (their statements: YtcbbcihfooaggaaTotals.lean).
  GIVEN WITH THE SEED: the statements are not yours to turn. If you find one false, say at which input.
  Laid BY PROGRAM, IN A SANDBOX (cutbox-rows.mjs): the forced cells as the released guide's own fill.sh prints them over the translation 49684d9f72ac831c… (all of the seat's roots in one cut). By AI agents, Wed Nov 11 2026. No macro, syntax, notation, axiom, sorry.
-/
import Derived.Test.YtcbbcihfooaggaaChecked
import GoSem.Claim
import GoSem.ClaimJoined
import GoSem.ClaimMapViews
import Derived.JoinedTies
import Derived.KernelRfl
namespace Go.Proofs.Ytcbbcihfooaggaa
/- THE CELL 'sum', in the pinned program and in every row, IS THE sha256 OF THE DUMP (.gsa) THAT YtcbbcihfooaggaaProg.lean LOADS. Nothing in Lean hashes anything: it is a label: what it is worth is what the hold of that sum in a sandbox is worth. -/
noncomputable def Try.pinned : Pinned := { name := "ytcbbcihfooaggaa", sum := "49684d9f72ac831c295a23b3d2216480ef93c43f19a21f206185ba1e19a1f2ff", checked := Try.checked }
namespace Rows
def none {H : Type} : Left H := { results := [], args := [] }

/-- 'spencelaw07.BlobFinds': WHATEVER THE INPUT: true; the input reads as it did. -/
def blobFindsSpec : ChangeSpec := { name := "blobFinds", fn := fun _ => fun
  | [d1, d2, d3] => { results := [.lit (.bool true)], args := [d1, d2, d3] }
  | _ => none }
def blobFindsRow : OpenClaim := { program := "ytcbbcihfooaggaa", sum := "49684d9f72ac831c295a23b3d2216480ef93c43f19a21f206185ba1e19a1f2ff", func := "spence/spencelaw07.BlobFinds", spec := "blobFinds", unfollowed := true, recurses := true, apart := false }
def BlobFindsSaid : Prop := blobFindsRow.holds Try.pinned (OpenSpec.ofChange blobFindsSpec)

/-- ITS FALSE NEIGHBOUR: 'it returns false'. Refute it at one input. -/
def blobFindsWrong : ChangeSpec := { name := "blobFinds", fn := fun _ => fun
  | [d1, d2, d3] => { results := [.lit (.bool false)], args := [d1, d2, d3] }
  | _ => none }
def BlobFindsWrongFalsely : Prop := blobFindsRow.holds Try.pinned (OpenSpec.ofChange blobFindsWrong)

/-- 'spencelaw07.BlobWrites': WHATEVER THE INPUT: true; the input reads as it did. -/
def blobWritesSpec : ChangeSpec := { name := "blobWrites", fn := fun _ => fun
  | [d1, d2, d3] => { results := [.lit (.bool true)], args := [d1, d2, d3] }
  | _ => none }
def blobWritesRow : OpenClaim := { program := "ytcbbcihfooaggaa", sum := "49684d9f72ac831c295a23b3d2216480ef93c43f19a21f206185ba1e19a1f2ff", func := "spence/spencelaw07.BlobWrites", spec := "blobWrites", unfollowed := true, recurses := true, apart := false }
def BlobWritesSaid : Prop := blobWritesRow.holds Try.pinned (OpenSpec.ofChange blobWritesSpec)

/-- ITS FALSE NEIGHBOUR: 'it returns false'. Refute it at one input. -/
def blobWritesWrong : ChangeSpec := { name := "blobWrites", fn := fun _ => fun
  | [d1, d2, d3] => { results := [.lit (.bool false)], args := [d1, d2, d3] }
  | _ => none }
def BlobWritesWrongFalsely : Prop := blobWritesRow.holds Try.pinned (OpenSpec.ofChange blobWritesWrong)

/-- 'spencelaw07.BlobEnds': WHATEVER THE INPUT: true; the input reads as it did. -/
def blobEndsSpec : ChangeSpec := { name := "blobEnds", fn := fun _ => fun
  | [] => { results := [.lit (.bool true)], args := [] }
  | _ => none }
def blobEndsRow : OpenClaim := { program := "ytcbbcihfooaggaa", sum := "49684d9f72ac831c295a23b3d2216480ef93c43f19a21f206185ba1e19a1f2ff", func := "spence/spencelaw07.BlobEnds", spec := "blobEnds", unfollowed := true, recurses := true, apart := false }
def BlobEndsSaid : Prop := blobEndsRow.holds Try.pinned (OpenSpec.ofChange blobEndsSpec)

/-- ITS FALSE NEIGHBOUR: 'it returns false'. Refute it at one input. -/
def blobEndsWrong : ChangeSpec := { name := "blobEnds", fn := fun _ => fun
  | [] => { results := [.lit (.bool false)], args := [] }
  | _ => none }
def BlobEndsWrongFalsely : Prop := blobEndsRow.holds Try.pinned (OpenSpec.ofChange blobEndsWrong)

/-- 'spencelaw07.BlobKeeps': WHATEVER THE INPUT: true; the input reads as it did. -/
def blobKeepsSpec : ChangeSpec := { name := "blobKeeps", fn := fun _ => fun
  | [d1, d2, d3] => { results := [.lit (.bool true)], args := [d1, d2, d3] }
  | _ => none }
def blobKeepsRow : OpenClaim := { program := "ytcbbcihfooaggaa", sum := "49684d9f72ac831c295a23b3d2216480ef93c43f19a21f206185ba1e19a1f2ff", func := "spence/spencelaw07.BlobKeeps", spec := "blobKeeps", unfollowed := true, recurses := true, apart := false }
def BlobKeepsSaid : Prop := blobKeepsRow.holds Try.pinned (OpenSpec.ofChange blobKeepsSpec)

/-- ITS FALSE NEIGHBOUR: 'it returns false'. Refute it at one input. -/
def blobKeepsWrong : ChangeSpec := { name := "blobKeeps", fn := fun _ => fun
  | [d1, d2, d3] => { results := [.lit (.bool false)], args := [d1, d2, d3] }
  | _ => none }
def BlobKeepsWrongFalsely : Prop := blobKeepsRow.holds Try.pinned (OpenSpec.ofChange blobKeepsWrong)

/-- 'spencelaw07.BlobFirst': WHATEVER THE INPUT: true; the input reads as it did. -/
def blobFirstSpec : ChangeSpec := { name := "blobFirst", fn := fun _ => fun
  | [d1, d2, d3] => { results := [.lit (.bool true)], args := [d1, d2, d3] }
  | _ => none }
def blobFirstRow : OpenClaim := { program := "ytcbbcihfooaggaa", sum := "49684d9f72ac831c295a23b3d2216480ef93c43f19a21f206185ba1e19a1f2ff", func := "spence/spencelaw07.BlobFirst", spec := "blobFirst", unfollowed := true, recurses := true, apart := false }
def BlobFirstSaid : Prop := blobFirstRow.holds Try.pinned (OpenSpec.ofChange blobFirstSpec)

/-- ITS FALSE NEIGHBOUR: 'it returns false'. Refute it at one input. -/
def blobFirstWrong : ChangeSpec := { name := "blobFirst", fn := fun _ => fun
  | [d1, d2, d3] => { results := [.lit (.bool false)], args := [d1, d2, d3] }
  | _ => none }
def BlobFirstWrongFalsely : Prop := blobFirstRow.holds Try.pinned (OpenSpec.ofChange blobFirstWrong)

/- THE SECOND FORM. 'bulk': how many values and letters a reading holds, each counted each time it is reached (what is shared counts as often as it is met; a slice's spare places count too). A statement '..UptoSaid' is the law's where the arguments, and the package variables that the reading takes, are together of bulk at most 1048576: NARROWER than '..Said'. Prove '..Said' where nothing that the law and all that it calls make is longer than what came in: it says more and counts as full. Else prove '..UptoSaid'. A law counts once. -/
mutual
def uptoBulk {H : Type} : DataW H → Nat
  | .lit (.string bytes) => bytes.length + 1
  | .lit _ => 1
  | .nil => 1
  | .ptr d => uptoBulk d + 1
  | .slice elems spare => uptoBulkAll elems + uptoBulkAll spare + 1
  | .agg parts => uptoBulkAll parts + 1
  | .iface _ d => uptoBulk d + 1
  | .map entries => uptoBulkEntries entries + 1
  | .held _ => 1
def uptoBulkAll {H : Type} : List (DataW H) → Nat
  | [] => 0
  | d :: r => uptoBulk d + uptoBulkAll r
def uptoBulkEntries {H : Type} : List (Lit × DataW H) → Nat
  | [] => 0
  | x :: r => uptoBulkEntry x + uptoBulkEntries r
def uptoBulkEntry {H : Type} : Lit × DataW H → Nat
  | (.string bytes, d) => bytes.length + uptoBulk d + 1
  | (_, d) => uptoBulk d + 1
 end
def uptoSmall : (H : Type) → List (DataW H) → Bool := fun _ ds => decide (uptoBulkAll ds ≤ 1048576)
def OpenSpec.upto (s : _root_.Go.ChangeSpec) : _root_.Go.OpenSpec := { _root_.Go.OpenSpec.ofChange s with cond := some uptoSmall }

/-- 'spencelaw07.BlobFinds', WHERE WHAT IT READS IS OF BULK AT MOST 1048576: true; the input reads as it did. -/
def blobFindsUptoRow : OpenClaim := { program := "ytcbbcihfooaggaa", sum := "49684d9f72ac831c295a23b3d2216480ef93c43f19a21f206185ba1e19a1f2ff", func := "spence/spencelaw07.BlobFinds", spec := "blobFinds", unfollowed := true, recurses := true, apart := false, narrowed := true }
def BlobFindsUptoSaid : Prop := blobFindsUptoRow.holds Try.pinned (OpenSpec.upto blobFindsSpec)

/-- 'spencelaw07.BlobWrites', WHERE WHAT IT READS IS OF BULK AT MOST 1048576: true; the input reads as it did. -/
def blobWritesUptoRow : OpenClaim := { program := "ytcbbcihfooaggaa", sum := "49684d9f72ac831c295a23b3d2216480ef93c43f19a21f206185ba1e19a1f2ff", func := "spence/spencelaw07.BlobWrites", spec := "blobWrites", unfollowed := true, recurses := true, apart := false, narrowed := true }
def BlobWritesUptoSaid : Prop := blobWritesUptoRow.holds Try.pinned (OpenSpec.upto blobWritesSpec)

/-- 'spencelaw07.BlobEnds', WHERE WHAT IT READS IS OF BULK AT MOST 1048576: true; the input reads as it did. -/
def blobEndsUptoRow : OpenClaim := { program := "ytcbbcihfooaggaa", sum := "49684d9f72ac831c295a23b3d2216480ef93c43f19a21f206185ba1e19a1f2ff", func := "spence/spencelaw07.BlobEnds", spec := "blobEnds", unfollowed := true, recurses := true, apart := false, narrowed := true }
def BlobEndsUptoSaid : Prop := blobEndsUptoRow.holds Try.pinned (OpenSpec.upto blobEndsSpec)

/-- 'spencelaw07.BlobKeeps', WHERE WHAT IT READS IS OF BULK AT MOST 1048576: true; the input reads as it did. -/
def blobKeepsUptoRow : OpenClaim := { program := "ytcbbcihfooaggaa", sum := "49684d9f72ac831c295a23b3d2216480ef93c43f19a21f206185ba1e19a1f2ff", func := "spence/spencelaw07.BlobKeeps", spec := "blobKeeps", unfollowed := true, recurses := true, apart := false, narrowed := true }
def BlobKeepsUptoSaid : Prop := blobKeepsUptoRow.holds Try.pinned (OpenSpec.upto blobKeepsSpec)

/-- 'spencelaw07.BlobFirst', WHERE WHAT IT READS IS OF BULK AT MOST 1048576: true; the input reads as it did. -/
def blobFirstUptoRow : OpenClaim := { program := "ytcbbcihfooaggaa", sum := "49684d9f72ac831c295a23b3d2216480ef93c43f19a21f206185ba1e19a1f2ff", func := "spence/spencelaw07.BlobFirst", spec := "blobFirst", unfollowed := true, recurses := true, apart := false, narrowed := true }
def BlobFirstUptoSaid : Prop := blobFirstUptoRow.holds Try.pinned (OpenSpec.upto blobFirstSpec)

end Rows
end Go.Proofs.Ytcbbcihfooaggaa
