/-
  NARROWER THAN 'FOR EVERY INPUT', by the rows' own cells (each row's printed sentence says how): FuseJoins: loops · FuseAgain: loops · FuseFewer: loops · FusePaths: loops.
  DERIVED. THE GIVEN ROWS OF THIS SEAT. 4 by the template 'for every input the law returns true; each argument reads behind the call as it read before'; 0 by the template 'total and deterministic' (their statements: YtjodffbekipnlaaTotals.lean).
  GIVEN WITH THE SEED: the statements are not yours to turn. If you find one false, say at which input.
  Laid BY PROGRAM, IN A SANDBOX (cutbox-rows.mjs): the forced cells as the released guide's own fill.sh prints them over the translation bdad06da6204ccdb… (all of the seat's roots in one cut). By AI agents, Wed Nov 11 2026. No macro, syntax, notation, axiom, sorry.
-/
import Derived.Test.YtjodffbekipnlaaChecked
import GoSem.Claim
import GoSem.ClaimJoined
import GoSem.ClaimMapViews
import Derived.JoinedTies
import Derived.KernelRfl
namespace Go.Proofs.Ytjodffbekipnlaa
/- THE CELL 'sum', in the pinned program and in every row, IS THE sha256 OF THE DUMP (.gsa) THAT YtjodffbekipnlaaProg.lean LOADS. Nothing in Lean hashes anything: it is a label: what it is worth is what the hold of that sum in a sandbox is worth. -/
noncomputable def Try.pinned : Pinned := { name := "ytjodffbekipnlaa", sum := "bdad06da6204ccdb7e916d1a6d62bd6567baa425cbefd873f349f5a7fa96cd0a", checked := Try.checked }
namespace Rows
def none {H : Type} : Left H := { results := [], args := [] }

/-- 'synchronylaw24.FuseJoins': WHATEVER THE INPUT: true; the input reads as it did. -/
def fuseJoinsSpec : ChangeSpec := { name := "fuseJoins", fn := fun _ => fun
  | [d] => { results := [.lit (.bool true)], args := [d] }
  | _ => none }
def fuseJoinsRow : OpenClaim := { program := "ytjodffbekipnlaa", sum := "bdad06da6204ccdb7e916d1a6d62bd6567baa425cbefd873f349f5a7fa96cd0a", func := "synchrony/synchronylaw24.FuseJoins", spec := "fuseJoins", unfollowed := true, recurses := true, loops := true, apart := false }
def FuseJoinsSaid : Prop := fuseJoinsRow.holds Try.pinned (OpenSpec.ofChange fuseJoinsSpec)

/-- ITS FALSE NEIGHBOUR: 'it returns false'. Refute it at one input. -/
def fuseJoinsWrong : ChangeSpec := { name := "fuseJoins", fn := fun _ => fun
  | [d] => { results := [.lit (.bool false)], args := [d] }
  | _ => none }
def FuseJoinsWrongFalsely : Prop := fuseJoinsRow.holds Try.pinned (OpenSpec.ofChange fuseJoinsWrong)

/-- 'synchronylaw24.FuseAgain': WHATEVER THE INPUT: true; the input reads as it did. -/
def fuseAgainSpec : ChangeSpec := { name := "fuseAgain", fn := fun _ => fun
  | [d] => { results := [.lit (.bool true)], args := [d] }
  | _ => none }
def fuseAgainRow : OpenClaim := { program := "ytjodffbekipnlaa", sum := "bdad06da6204ccdb7e916d1a6d62bd6567baa425cbefd873f349f5a7fa96cd0a", func := "synchrony/synchronylaw24.FuseAgain", spec := "fuseAgain", unfollowed := true, recurses := true, loops := true, apart := false }
def FuseAgainSaid : Prop := fuseAgainRow.holds Try.pinned (OpenSpec.ofChange fuseAgainSpec)

/-- ITS FALSE NEIGHBOUR: 'it returns false'. Refute it at one input. -/
def fuseAgainWrong : ChangeSpec := { name := "fuseAgain", fn := fun _ => fun
  | [d] => { results := [.lit (.bool false)], args := [d] }
  | _ => none }
def FuseAgainWrongFalsely : Prop := fuseAgainRow.holds Try.pinned (OpenSpec.ofChange fuseAgainWrong)

/-- 'synchronylaw24.FuseFewer': WHATEVER THE INPUT: true; the input reads as it did. -/
def fuseFewerSpec : ChangeSpec := { name := "fuseFewer", fn := fun _ => fun
  | [d] => { results := [.lit (.bool true)], args := [d] }
  | _ => none }
def fuseFewerRow : OpenClaim := { program := "ytjodffbekipnlaa", sum := "bdad06da6204ccdb7e916d1a6d62bd6567baa425cbefd873f349f5a7fa96cd0a", func := "synchrony/synchronylaw24.FuseFewer", spec := "fuseFewer", unfollowed := true, recurses := true, loops := true, apart := false }
def FuseFewerSaid : Prop := fuseFewerRow.holds Try.pinned (OpenSpec.ofChange fuseFewerSpec)

/-- ITS FALSE NEIGHBOUR: 'it returns false'. Refute it at one input. -/
def fuseFewerWrong : ChangeSpec := { name := "fuseFewer", fn := fun _ => fun
  | [d] => { results := [.lit (.bool false)], args := [d] }
  | _ => none }
def FuseFewerWrongFalsely : Prop := fuseFewerRow.holds Try.pinned (OpenSpec.ofChange fuseFewerWrong)

/-- 'synchronylaw24.FusePaths': WHATEVER THE INPUT: true; the input reads as it did. -/
def fusePathsSpec : ChangeSpec := { name := "fusePaths", fn := fun _ => fun
  | [d1, d2] => { results := [.lit (.bool true)], args := [d1, d2] }
  | _ => none }
def fusePathsRow : OpenClaim := { program := "ytjodffbekipnlaa", sum := "bdad06da6204ccdb7e916d1a6d62bd6567baa425cbefd873f349f5a7fa96cd0a", func := "synchrony/synchronylaw24.FusePaths", spec := "fusePaths", unfollowed := true, recurses := true, loops := true, apart := false }
def FusePathsSaid : Prop := fusePathsRow.holds Try.pinned (OpenSpec.ofChange fusePathsSpec)

/-- ITS FALSE NEIGHBOUR: 'it returns false'. Refute it at one input. -/
def fusePathsWrong : ChangeSpec := { name := "fusePaths", fn := fun _ => fun
  | [d1, d2] => { results := [.lit (.bool false)], args := [d1, d2] }
  | _ => none }
def FusePathsWrongFalsely : Prop := fusePathsRow.holds Try.pinned (OpenSpec.ofChange fusePathsWrong)

/- THE SECOND FORM. 'bulk': how many values and letters a reading holds, each counted each time it is reached (what is shared counts as often as it is met; a slice's spare places count too). A statement '..UptoSaid' is the law's where the arguments, and the package variables that the reading takes, are together of bulk at most 1048576: NARROWER than '..Said'. Prove '..Said' where nothing that the law and all that it calls make is longer than what came in: it says more and counts as full. Else prove '..UptoSaid'. A law counts once. -/
mutual
def uptoBulk {H : Type} : DataW H → Nat
  | .lit (.string bytes) => bytes.length + 1
  | .lit _ => 1
  | .nil => 1
  | .ptr d => uptoBulk d + 1
  | .slice elems spare => uptoBulkAll elems + uptoBulkAll spare + 1
  | .agg parts => uptoBulkAll parts + 1
  | .iface _ d => uptoBulk d + 1
  | .map entries => uptoBulkEntries entries + 1
  | .held _ => 1
def uptoBulkAll {H : Type} : List (DataW H) → Nat
  | [] => 0
  | d :: r => uptoBulk d + uptoBulkAll r
def uptoBulkEntries {H : Type} : List (Lit × DataW H) → Nat
  | [] => 0
  | x :: r => uptoBulkEntry x + uptoBulkEntries r
def uptoBulkEntry {H : Type} : Lit × DataW H → Nat
  | (.string bytes, d) => bytes.length + uptoBulk d + 1
  | (_, d) => uptoBulk d + 1
 end
def uptoSmall : (H : Type) → List (DataW H) → Bool := fun _ ds => decide (uptoBulkAll ds ≤ 1048576)
def OpenSpec.upto (s : _root_.Go.ChangeSpec) : _root_.Go.OpenSpec := { _root_.Go.OpenSpec.ofChange s with cond := some uptoSmall }

/-- 'synchronylaw24.FuseJoins', WHERE WHAT IT READS IS OF BULK AT MOST 1048576: true; the input reads as it did. -/
def fuseJoinsUptoRow : OpenClaim := { program := "ytjodffbekipnlaa", sum := "bdad06da6204ccdb7e916d1a6d62bd6567baa425cbefd873f349f5a7fa96cd0a", func := "synchrony/synchronylaw24.FuseJoins", spec := "fuseJoins", unfollowed := true, recurses := true, loops := true, apart := false, narrowed := true }
def FuseJoinsUptoSaid : Prop := fuseJoinsUptoRow.holds Try.pinned (OpenSpec.upto fuseJoinsSpec)

/-- 'synchronylaw24.FuseAgain', WHERE WHAT IT READS IS OF BULK AT MOST 1048576: true; the input reads as it did. -/
def fuseAgainUptoRow : OpenClaim := { program := "ytjodffbekipnlaa", sum := "bdad06da6204ccdb7e916d1a6d62bd6567baa425cbefd873f349f5a7fa96cd0a", func := "synchrony/synchronylaw24.FuseAgain", spec := "fuseAgain", unfollowed := true, recurses := true, loops := true, apart := false, narrowed := true }
def FuseAgainUptoSaid : Prop := fuseAgainUptoRow.holds Try.pinned (OpenSpec.upto fuseAgainSpec)

/-- 'synchronylaw24.FuseFewer', WHERE WHAT IT READS IS OF BULK AT MOST 1048576: true; the input reads as it did. -/
def fuseFewerUptoRow : OpenClaim := { program := "ytjodffbekipnlaa", sum := "bdad06da6204ccdb7e916d1a6d62bd6567baa425cbefd873f349f5a7fa96cd0a", func := "synchrony/synchronylaw24.FuseFewer", spec := "fuseFewer", unfollowed := true, recurses := true, loops := true, apart := false, narrowed := true }
def FuseFewerUptoSaid : Prop := fuseFewerUptoRow.holds Try.pinned (OpenSpec.upto fuseFewerSpec)

/-- 'synchronylaw24.FusePaths', WHERE WHAT IT READS IS OF BULK AT MOST 1048576: true; the input reads as it did. -/
def fusePathsUptoRow : OpenClaim := { program := "ytjodffbekipnlaa", sum := "bdad06da6204ccdb7e916d1a6d62bd6567baa425cbefd873f349f5a7fa96cd0a", func := "synchrony/synchronylaw24.FusePaths", spec := "fusePaths", unfollowed := true, recurses := true, loops := true, apart := false, narrowed := true }
def FusePathsUptoSaid : Prop := fusePathsUptoRow.holds Try.pinned (OpenSpec.upto fusePathsSpec)

end Rows
end Go.Proofs.Ytjodffbekipnlaa
