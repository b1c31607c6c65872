/-
  No cell of these rows narrows 'for every input' (looked for: loops, veiled, ifaces, maps, wideKeys, modest, calm, conditions, laid).
  DERIVED. THE GIVEN ROWS OF THIS SEAT. 6 by the template 'for every input the law returns true; each argument reads behind the call as it read before'; 0 by the template 'total and deterministic' (their statements: YtefmnjcllncmpaaTotals.lean).
  GIVEN WITH THE SEED: the statements are not yours to turn. If you find one false, say at which input.
  Laid BY PROGRAM, IN A SANDBOX (cutbox-rows.mjs): the forced cells as the released guide's own fill.sh prints them over the translation 3f831dd1f6d078b6… (all of the seat's roots in one cut). By AI agents, Wed Nov 11 2026. No macro, syntax, notation, axiom, sorry.
-/
import Derived.Test.YtefmnjcllncmpaaChecked
import GoSem.Claim
import GoSem.ClaimJoined
import GoSem.ClaimMapViews
import Derived.JoinedTies
import Derived.KernelRfl
namespace Go.Proofs.Ytefmnjcllncmpaa
/- THE CELL 'sum', in the pinned program and in every row, IS THE sha256 OF THE DUMP (.gsa) THAT YtefmnjcllncmpaaProg.lean LOADS. Nothing in Lean hashes anything: it is a label: what it is worth is what the hold of that sum in a sandbox is worth. -/
noncomputable def Try.pinned : Pinned := { name := "ytefmnjcllncmpaa", sum := "3f831dd1f6d078b69e34c4d18c280188b5b19aefa5bd0c7ea4e2bb60ac466825", checked := Try.checked }
namespace Rows
def none {H : Type} : Left H := { results := [], args := [] }

/-- 'synchronylaw16.StreamLifts': WHATEVER THE INPUT: true; the input reads as it did. -/
def streamLiftsSpec : ChangeSpec := { name := "streamLifts", fn := fun _ => fun
  | [d1, d2, d3, d4] => { results := [.lit (.bool true)], args := [d1, d2, d3, d4] }
  | _ => none }
def streamLiftsRow : OpenClaim := { program := "ytefmnjcllncmpaa", sum := "3f831dd1f6d078b69e34c4d18c280188b5b19aefa5bd0c7ea4e2bb60ac466825", func := "synchrony/synchronylaw16.StreamLifts", spec := "streamLifts", unfollowed := true, recurses := true, apart := false }
def StreamLiftsSaid : Prop := streamLiftsRow.holds Try.pinned (OpenSpec.ofChange streamLiftsSpec)

/-- ITS FALSE NEIGHBOUR: 'it returns false'. Refute it at one input. -/
def streamLiftsWrong : ChangeSpec := { name := "streamLifts", fn := fun _ => fun
  | [d1, d2, d3, d4] => { results := [.lit (.bool false)], args := [d1, d2, d3, d4] }
  | _ => none }
def StreamLiftsWrongFalsely : Prop := streamLiftsRow.holds Try.pinned (OpenSpec.ofChange streamLiftsWrong)

/-- 'synchronylaw16.StreamDelays': WHATEVER THE INPUT: true; the input reads as it did. -/
def streamDelaysSpec : ChangeSpec := { name := "streamDelays", fn := fun _ => fun
  | [d1, d2] => { results := [.lit (.bool true)], args := [d1, d2] }
  | _ => none }
def streamDelaysRow : OpenClaim := { program := "ytefmnjcllncmpaa", sum := "3f831dd1f6d078b69e34c4d18c280188b5b19aefa5bd0c7ea4e2bb60ac466825", func := "synchrony/synchronylaw16.StreamDelays", spec := "streamDelays", unfollowed := true, recurses := true, apart := false }
def StreamDelaysSaid : Prop := streamDelaysRow.holds Try.pinned (OpenSpec.ofChange streamDelaysSpec)

/-- ITS FALSE NEIGHBOUR: 'it returns false'. Refute it at one input. -/
def streamDelaysWrong : ChangeSpec := { name := "streamDelays", fn := fun _ => fun
  | [d1, d2] => { results := [.lit (.bool false)], args := [d1, d2] }
  | _ => none }
def StreamDelaysWrongFalsely : Prop := streamDelaysRow.holds Try.pinned (OpenSpec.ofChange streamDelaysWrong)

/-- 'synchronylaw16.StreamClocks': WHATEVER THE INPUT: true; the input reads as it did. -/
def streamClocksSpec : ChangeSpec := { name := "streamClocks", fn := fun _ => fun
  | [d1, d2, d3, d4] => { results := [.lit (.bool true)], args := [d1, d2, d3, d4] }
  | _ => none }
def streamClocksRow : OpenClaim := { program := "ytefmnjcllncmpaa", sum := "3f831dd1f6d078b69e34c4d18c280188b5b19aefa5bd0c7ea4e2bb60ac466825", func := "synchrony/synchronylaw16.StreamClocks", spec := "streamClocks", unfollowed := true, recurses := true, apart := false }
def StreamClocksSaid : Prop := streamClocksRow.holds Try.pinned (OpenSpec.ofChange streamClocksSpec)

/-- ITS FALSE NEIGHBOUR: 'it returns false'. Refute it at one input. -/
def streamClocksWrong : ChangeSpec := { name := "streamClocks", fn := fun _ => fun
  | [d1, d2, d3, d4] => { results := [.lit (.bool false)], args := [d1, d2, d3, d4] }
  | _ => none }
def StreamClocksWrongFalsely : Prop := streamClocksRow.holds Try.pinned (OpenSpec.ofChange streamClocksWrong)

/-- 'synchronylaw16.StreamFby': WHATEVER THE INPUT: true; the input reads as it did. -/
def streamFbySpec : ChangeSpec := { name := "streamFby", fn := fun _ => fun
  | [d1, d2] => { results := [.lit (.bool true)], args := [d1, d2] }
  | _ => none }
def streamFbyRow : OpenClaim := { program := "ytefmnjcllncmpaa", sum := "3f831dd1f6d078b69e34c4d18c280188b5b19aefa5bd0c7ea4e2bb60ac466825", func := "synchrony/synchronylaw16.StreamFby", spec := "streamFby", unfollowed := true, recurses := true, apart := false }
def StreamFbySaid : Prop := streamFbyRow.holds Try.pinned (OpenSpec.ofChange streamFbySpec)

/-- ITS FALSE NEIGHBOUR: 'it returns false'. Refute it at one input. -/
def streamFbyWrong : ChangeSpec := { name := "streamFby", fn := fun _ => fun
  | [d1, d2] => { results := [.lit (.bool false)], args := [d1, d2] }
  | _ => none }
def StreamFbyWrongFalsely : Prop := streamFbyRow.holds Try.pinned (OpenSpec.ofChange streamFbyWrong)

/-- 'synchronylaw16.StreamPresence': WHATEVER THE INPUT: true; the input reads as it did. -/
def streamPresenceSpec : ChangeSpec := { name := "streamPresence", fn := fun _ => fun
  | [d1, d2] => { results := [.lit (.bool true)], args := [d1, d2] }
  | _ => none }
def streamPresenceRow : OpenClaim := { program := "ytefmnjcllncmpaa", sum := "3f831dd1f6d078b69e34c4d18c280188b5b19aefa5bd0c7ea4e2bb60ac466825", func := "synchrony/synchronylaw16.StreamPresence", spec := "streamPresence", unfollowed := true, recurses := true, apart := false }
def StreamPresenceSaid : Prop := streamPresenceRow.holds Try.pinned (OpenSpec.ofChange streamPresenceSpec)

/-- ITS FALSE NEIGHBOUR: 'it returns false'. Refute it at one input. -/
def streamPresenceWrong : ChangeSpec := { name := "streamPresence", fn := fun _ => fun
  | [d1, d2] => { results := [.lit (.bool false)], args := [d1, d2] }
  | _ => none }
def StreamPresenceWrongFalsely : Prop := streamPresenceRow.holds Try.pinned (OpenSpec.ofChange streamPresenceWrong)

/-- 'synchronylaw16.StreamMerge': WHATEVER THE INPUT: true; the input reads as it did. -/
def streamMergeSpec : ChangeSpec := { name := "streamMerge", fn := fun _ => fun
  | [d1, d2, d3] => { results := [.lit (.bool true)], args := [d1, d2, d3] }
  | _ => none }
def streamMergeRow : OpenClaim := { program := "ytefmnjcllncmpaa", sum := "3f831dd1f6d078b69e34c4d18c280188b5b19aefa5bd0c7ea4e2bb60ac466825", func := "synchrony/synchronylaw16.StreamMerge", spec := "streamMerge", unfollowed := true, recurses := true, apart := false }
def StreamMergeSaid : Prop := streamMergeRow.holds Try.pinned (OpenSpec.ofChange streamMergeSpec)

/-- ITS FALSE NEIGHBOUR: 'it returns false'. Refute it at one input. -/
def streamMergeWrong : ChangeSpec := { name := "streamMerge", fn := fun _ => fun
  | [d1, d2, d3] => { results := [.lit (.bool false)], args := [d1, d2, d3] }
  | _ => none }
def StreamMergeWrongFalsely : Prop := streamMergeRow.holds Try.pinned (OpenSpec.ofChange streamMergeWrong)

/- THE SECOND FORM. 'bulk': how many values and letters a reading holds, each counted each time it is reached (what is shared counts as often as it is met; a slice's spare places count too). A statement '..UptoSaid' is the law's where the arguments, and the package variables that the reading takes, are together of bulk at most 1048576: NARROWER than '..Said'. Prove '..Said' where nothing that the law and all that it calls make is longer than what came in: it says more and counts as full. Else prove '..UptoSaid'. A law counts once. -/
mutual
def uptoBulk {H : Type} : DataW H → Nat
  | .lit (.string bytes) => bytes.length + 1
  | .lit _ => 1
  | .nil => 1
  | .ptr d => uptoBulk d + 1
  | .slice elems spare => uptoBulkAll elems + uptoBulkAll spare + 1
  | .agg parts => uptoBulkAll parts + 1
  | .iface _ d => uptoBulk d + 1
  | .map entries => uptoBulkEntries entries + 1
  | .held _ => 1
def uptoBulkAll {H : Type} : List (DataW H) → Nat
  | [] => 0
  | d :: r => uptoBulk d + uptoBulkAll r
def uptoBulkEntries {H : Type} : List (Lit × DataW H) → Nat
  | [] => 0
  | x :: r => uptoBulkEntry x + uptoBulkEntries r
def uptoBulkEntry {H : Type} : Lit × DataW H → Nat
  | (.string bytes, d) => bytes.length + uptoBulk d + 1
  | (_, d) => uptoBulk d + 1
 end
def uptoSmall : (H : Type) → List (DataW H) → Bool := fun _ ds => decide (uptoBulkAll ds ≤ 1048576)
def OpenSpec.upto (s : _root_.Go.ChangeSpec) : _root_.Go.OpenSpec := { _root_.Go.OpenSpec.ofChange s with cond := some uptoSmall }

/-- 'synchronylaw16.StreamLifts', WHERE WHAT IT READS IS OF BULK AT MOST 1048576: true; the input reads as it did. -/
def streamLiftsUptoRow : OpenClaim := { program := "ytefmnjcllncmpaa", sum := "3f831dd1f6d078b69e34c4d18c280188b5b19aefa5bd0c7ea4e2bb60ac466825", func := "synchrony/synchronylaw16.StreamLifts", spec := "streamLifts", unfollowed := true, recurses := true, apart := false, narrowed := true }
def StreamLiftsUptoSaid : Prop := streamLiftsUptoRow.holds Try.pinned (OpenSpec.upto streamLiftsSpec)

/-- 'synchronylaw16.StreamDelays', WHERE WHAT IT READS IS OF BULK AT MOST 1048576: true; the input reads as it did. -/
def streamDelaysUptoRow : OpenClaim := { program := "ytefmnjcllncmpaa", sum := "3f831dd1f6d078b69e34c4d18c280188b5b19aefa5bd0c7ea4e2bb60ac466825", func := "synchrony/synchronylaw16.StreamDelays", spec := "streamDelays", unfollowed := true, recurses := true, apart := false, narrowed := true }
def StreamDelaysUptoSaid : Prop := streamDelaysUptoRow.holds Try.pinned (OpenSpec.upto streamDelaysSpec)

/-- 'synchronylaw16.StreamClocks', WHERE WHAT IT READS IS OF BULK AT MOST 1048576: true; the input reads as it did. -/
def streamClocksUptoRow : OpenClaim := { program := "ytefmnjcllncmpaa", sum := "3f831dd1f6d078b69e34c4d18c280188b5b19aefa5bd0c7ea4e2bb60ac466825", func := "synchrony/synchronylaw16.StreamClocks", spec := "streamClocks", unfollowed := true, recurses := true, apart := false, narrowed := true }
def StreamClocksUptoSaid : Prop := streamClocksUptoRow.holds Try.pinned (OpenSpec.upto streamClocksSpec)

/-- 'synchronylaw16.StreamFby', WHERE WHAT IT READS IS OF BULK AT MOST 1048576: true; the input reads as it did. -/
def streamFbyUptoRow : OpenClaim := { program := "ytefmnjcllncmpaa", sum := "3f831dd1f6d078b69e34c4d18c280188b5b19aefa5bd0c7ea4e2bb60ac466825", func := "synchrony/synchronylaw16.StreamFby", spec := "streamFby", unfollowed := true, recurses := true, apart := false, narrowed := true }
def StreamFbyUptoSaid : Prop := streamFbyUptoRow.holds Try.pinned (OpenSpec.upto streamFbySpec)

/-- 'synchronylaw16.StreamPresence', WHERE WHAT IT READS IS OF BULK AT MOST 1048576: true; the input reads as it did. -/
def streamPresenceUptoRow : OpenClaim := { program := "ytefmnjcllncmpaa", sum := "3f831dd1f6d078b69e34c4d18c280188b5b19aefa5bd0c7ea4e2bb60ac466825", func := "synchrony/synchronylaw16.StreamPresence", spec := "streamPresence", unfollowed := true, recurses := true, apart := false, narrowed := true }
def StreamPresenceUptoSaid : Prop := streamPresenceUptoRow.holds Try.pinned (OpenSpec.upto streamPresenceSpec)

/-- 'synchronylaw16.StreamMerge', WHERE WHAT IT READS IS OF BULK AT MOST 1048576: true; the input reads as it did. -/
def streamMergeUptoRow : OpenClaim := { program := "ytefmnjcllncmpaa", sum := "3f831dd1f6d078b69e34c4d18c280188b5b19aefa5bd0c7ea4e2bb60ac466825", func := "synchrony/synchronylaw16.StreamMerge", spec := "streamMerge", unfollowed := true, recurses := true, apart := false, narrowed := true }
def StreamMergeUptoSaid : Prop := streamMergeUptoRow.holds Try.pinned (OpenSpec.upto streamMergeSpec)

end Rows
end Go.Proofs.Ytefmnjcllncmpaa
