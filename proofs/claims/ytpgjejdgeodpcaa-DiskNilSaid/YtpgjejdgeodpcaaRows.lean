/-
  No cell of these rows narrows 'for every input' (looked for: loops, veiled, ifaces, maps, wideKeys, modest, calm, conditions, laid).
  DERIVED. THE GIVEN ROWS OF THIS SEAT. 6 by the template 'for every input the law returns true; each argument reads behind the call as it read before'; 0 by the template 'total and deterministic' (their statements: YtpgjejdgeodpcaaTotals.lean).
  GIVEN WITH THE SEED: the statements are not yours to turn. If you find one false, say at which input.
  Laid BY PROGRAM, IN A SANDBOX (cutbox-rows.mjs): the forced cells as the released guide's own fill.sh prints them over the translation 297c4e2269f360cb… (all of the seat's roots in one cut). By AI agents, Wed Nov 11 2026. No macro, syntax, notation, axiom, sorry.
-/
import Derived.Test.YtpgjejdgeodpcaaChecked
import GoSem.Claim
import GoSem.ClaimJoined
import GoSem.ClaimMapViews
import Derived.JoinedTies
import Derived.KernelRfl
namespace Go.Proofs.Ytpgjejdgeodpcaa
/- THE CELL 'sum', in the pinned program and in every row, IS THE sha256 OF THE DUMP (.gsa) THAT YtpgjejdgeodpcaaProg.lean LOADS. Nothing in Lean hashes anything: it is a label: what it is worth is what the hold of that sum in a sandbox is worth. -/
noncomputable def Try.pinned : Pinned := { name := "ytpgjejdgeodpcaa", sum := "297c4e2269f360cb1d6481352fc66f6035c6201a5d82a4a6af66be44302c971d", checked := Try.checked }
namespace Rows
def none {H : Type} : Left H := { results := [], args := [] }

/-- 'leatlaw04.DiskNil': WHATEVER THE INPUT: true; the input reads as it did. -/
def diskNilSpec : ChangeSpec := { name := "diskNil", fn := fun _ => fun
  | [d1, d2, d3] => { results := [.lit (.bool true)], args := [d1, d2, d3] }
  | _ => none }
def diskNilRow : OpenClaim := { program := "ytpgjejdgeodpcaa", sum := "297c4e2269f360cb1d6481352fc66f6035c6201a5d82a4a6af66be44302c971d", func := "leat/leatlaw04.DiskNil", spec := "diskNil", unfollowed := true, recurses := true, plainKeys := false, apart := false }
def DiskNilSaid : Prop := diskNilRow.holds Try.pinned (OpenSpec.ofChange diskNilSpec)

/-- ITS FALSE NEIGHBOUR: 'it returns false'. Refute it at one input. -/
def diskNilWrong : ChangeSpec := { name := "diskNil", fn := fun _ => fun
  | [d1, d2, d3] => { results := [.lit (.bool false)], args := [d1, d2, d3] }
  | _ => none }
def DiskNilWrongFalsely : Prop := diskNilRow.holds Try.pinned (OpenSpec.ofChange diskNilWrong)

/-- 'leatlaw05.JournalNil': WHATEVER THE INPUT: true; the input reads as it did. -/
def journalNilSpec : ChangeSpec := { name := "journalNil", fn := fun _ => fun
  | [d] => { results := [.lit (.bool true)], args := [d] }
  | _ => none }
def journalNilRow : OpenClaim := { program := "ytpgjejdgeodpcaa", sum := "297c4e2269f360cb1d6481352fc66f6035c6201a5d82a4a6af66be44302c971d", func := "leat/leatlaw05.JournalNil", spec := "journalNil", unfollowed := true, recurses := true, plainKeys := false, apart := false }
def JournalNilSaid : Prop := journalNilRow.holds Try.pinned (OpenSpec.ofChange journalNilSpec)

/-- ITS FALSE NEIGHBOUR: 'it returns false'. Refute it at one input. -/
def journalNilWrong : ChangeSpec := { name := "journalNil", fn := fun _ => fun
  | [d] => { results := [.lit (.bool false)], args := [d] }
  | _ => none }
def JournalNilWrongFalsely : Prop := journalNilRow.holds Try.pinned (OpenSpec.ofChange journalNilWrong)

/-- 'leatlaw09.TreeNil': WHATEVER THE INPUT: true; the input reads as it did. -/
def treeNilSpec : ChangeSpec := { name := "treeNil", fn := fun _ => fun
  | [d1, d2] => { results := [.lit (.bool true)], args := [d1, d2] }
  | _ => none }
def treeNilRow : OpenClaim := { program := "ytpgjejdgeodpcaa", sum := "297c4e2269f360cb1d6481352fc66f6035c6201a5d82a4a6af66be44302c971d", func := "leat/leatlaw09.TreeNil", spec := "treeNil", unfollowed := true, recurses := true, plainKeys := false, apart := false }
def TreeNilSaid : Prop := treeNilRow.holds Try.pinned (OpenSpec.ofChange treeNilSpec)

/-- ITS FALSE NEIGHBOUR: 'it returns false'. Refute it at one input. -/
def treeNilWrong : ChangeSpec := { name := "treeNil", fn := fun _ => fun
  | [d1, d2] => { results := [.lit (.bool false)], args := [d1, d2] }
  | _ => none }
def TreeNilWrongFalsely : Prop := treeNilRow.holds Try.pinned (OpenSpec.ofChange treeNilWrong)

/-- 'leatlaw18.DemandNil': WHATEVER THE INPUT: true; the input reads as it did. -/
def demandNilSpec : ChangeSpec := { name := "demandNil", fn := fun _ => fun
  | [d1, d2, d3] => { results := [.lit (.bool true)], args := [d1, d2, d3] }
  | _ => none }
def demandNilRow : OpenClaim := { program := "ytpgjejdgeodpcaa", sum := "297c4e2269f360cb1d6481352fc66f6035c6201a5d82a4a6af66be44302c971d", func := "leat/leatlaw18.DemandNil", spec := "demandNil", unfollowed := true, recurses := true, plainKeys := false, apart := false }
def DemandNilSaid : Prop := demandNilRow.holds Try.pinned (OpenSpec.ofChange demandNilSpec)

/-- ITS FALSE NEIGHBOUR: 'it returns false'. Refute it at one input. -/
def demandNilWrong : ChangeSpec := { name := "demandNil", fn := fun _ => fun
  | [d1, d2, d3] => { results := [.lit (.bool false)], args := [d1, d2, d3] }
  | _ => none }
def DemandNilWrongFalsely : Prop := demandNilRow.holds Try.pinned (OpenSpec.ofChange demandNilWrong)

/-- 'leatlaw12.AdmitNil': WHATEVER THE INPUT: true; the input reads as it did. -/
def admitNilSpec : ChangeSpec := { name := "admitNil", fn := fun _ => fun
  | [d1, d2] => { results := [.lit (.bool true)], args := [d1, d2] }
  | _ => none }
def admitNilRow : OpenClaim := { program := "ytpgjejdgeodpcaa", sum := "297c4e2269f360cb1d6481352fc66f6035c6201a5d82a4a6af66be44302c971d", func := "leat/leatlaw12.AdmitNil", spec := "admitNil", inPlace := ["slices.overlaps[leat/api.Grant]"], unfollowed := true, recurses := true, plainKeys := false, apart := false }
def AdmitNilSaid : Prop := admitNilRow.holds Try.pinned (OpenSpec.ofChange admitNilSpec)

/-- ITS FALSE NEIGHBOUR: 'it returns false'. Refute it at one input. -/
def admitNilWrong : ChangeSpec := { name := "admitNil", fn := fun _ => fun
  | [d1, d2] => { results := [.lit (.bool false)], args := [d1, d2] }
  | _ => none }
def AdmitNilWrongFalsely : Prop := admitNilRow.holds Try.pinned (OpenSpec.ofChange admitNilWrong)

/-- 'leatlaw26.AuditNil': WHATEVER THE INPUT: true; the input reads as it did. -/
def auditNilSpec : ChangeSpec := { name := "auditNil", fn := fun _ => fun
  | [d] => { results := [.lit (.bool true)], args := [d] }
  | _ => none }
def auditNilRow : OpenClaim := { program := "ytpgjejdgeodpcaa", sum := "297c4e2269f360cb1d6481352fc66f6035c6201a5d82a4a6af66be44302c971d", func := "leat/leatlaw26.AuditNil", spec := "auditNil", recurses := true, plainKeys := false, apart := false }
def AuditNilSaid : Prop := auditNilRow.holds Try.pinned (OpenSpec.ofChange auditNilSpec)

/-- ITS FALSE NEIGHBOUR: 'it returns false'. Refute it at one input. -/
def auditNilWrong : ChangeSpec := { name := "auditNil", fn := fun _ => fun
  | [d] => { results := [.lit (.bool false)], args := [d] }
  | _ => none }
def AuditNilWrongFalsely : Prop := auditNilRow.holds Try.pinned (OpenSpec.ofChange auditNilWrong)

/- THE SECOND FORM. 'bulk': how many values and letters a reading holds, each counted each time it is reached (what is shared counts as often as it is met; a slice's spare places count too). A statement '..UptoSaid' is the law's where the arguments, and the package variables that the reading takes, are together of bulk at most 1048576: NARROWER than '..Said'. Prove '..Said' where nothing that the law and all that it calls make is longer than what came in: it says more and counts as full. Else prove '..UptoSaid'. A law counts once. -/
mutual
def uptoBulk {H : Type} : DataW H → Nat
  | .lit (.string bytes) => bytes.length + 1
  | .lit _ => 1
  | .nil => 1
  | .ptr d => uptoBulk d + 1
  | .slice elems spare => uptoBulkAll elems + uptoBulkAll spare + 1
  | .agg parts => uptoBulkAll parts + 1
  | .iface _ d => uptoBulk d + 1
  | .map entries => uptoBulkEntries entries + 1
  | .held _ => 1
def uptoBulkAll {H : Type} : List (DataW H) → Nat
  | [] => 0
  | d :: r => uptoBulk d + uptoBulkAll r
def uptoBulkEntries {H : Type} : List (Lit × DataW H) → Nat
  | [] => 0
  | x :: r => uptoBulkEntry x + uptoBulkEntries r
def uptoBulkEntry {H : Type} : Lit × DataW H → Nat
  | (.string bytes, d) => bytes.length + uptoBulk d + 1
  | (_, d) => uptoBulk d + 1
 end
def uptoSmall : (H : Type) → List (DataW H) → Bool := fun _ ds => decide (uptoBulkAll ds ≤ 1048576)
def OpenSpec.upto (s : _root_.Go.ChangeSpec) : _root_.Go.OpenSpec := { _root_.Go.OpenSpec.ofChange s with cond := some uptoSmall }

/-- 'leatlaw04.DiskNil', WHERE WHAT IT READS IS OF BULK AT MOST 1048576: true; the input reads as it did. -/
def diskNilUptoRow : OpenClaim := { program := "ytpgjejdgeodpcaa", sum := "297c4e2269f360cb1d6481352fc66f6035c6201a5d82a4a6af66be44302c971d", func := "leat/leatlaw04.DiskNil", spec := "diskNil", unfollowed := true, recurses := true, plainKeys := false, apart := false, narrowed := true }
def DiskNilUptoSaid : Prop := diskNilUptoRow.holds Try.pinned (OpenSpec.upto diskNilSpec)

/-- 'leatlaw05.JournalNil', WHERE WHAT IT READS IS OF BULK AT MOST 1048576: true; the input reads as it did. -/
def journalNilUptoRow : OpenClaim := { program := "ytpgjejdgeodpcaa", sum := "297c4e2269f360cb1d6481352fc66f6035c6201a5d82a4a6af66be44302c971d", func := "leat/leatlaw05.JournalNil", spec := "journalNil", unfollowed := true, recurses := true, plainKeys := false, apart := false, narrowed := true }
def JournalNilUptoSaid : Prop := journalNilUptoRow.holds Try.pinned (OpenSpec.upto journalNilSpec)

/-- 'leatlaw09.TreeNil', WHERE WHAT IT READS IS OF BULK AT MOST 1048576: true; the input reads as it did. -/
def treeNilUptoRow : OpenClaim := { program := "ytpgjejdgeodpcaa", sum := "297c4e2269f360cb1d6481352fc66f6035c6201a5d82a4a6af66be44302c971d", func := "leat/leatlaw09.TreeNil", spec := "treeNil", unfollowed := true, recurses := true, plainKeys := false, apart := false, narrowed := true }
def TreeNilUptoSaid : Prop := treeNilUptoRow.holds Try.pinned (OpenSpec.upto treeNilSpec)

/-- 'leatlaw18.DemandNil', WHERE WHAT IT READS IS OF BULK AT MOST 1048576: true; the input reads as it did. -/
def demandNilUptoRow : OpenClaim := { program := "ytpgjejdgeodpcaa", sum := "297c4e2269f360cb1d6481352fc66f6035c6201a5d82a4a6af66be44302c971d", func := "leat/leatlaw18.DemandNil", spec := "demandNil", unfollowed := true, recurses := true, plainKeys := false, apart := false, narrowed := true }
def DemandNilUptoSaid : Prop := demandNilUptoRow.holds Try.pinned (OpenSpec.upto demandNilSpec)

/-- 'leatlaw12.AdmitNil', WHERE WHAT IT READS IS OF BULK AT MOST 1048576: true; the input reads as it did. -/
def admitNilUptoRow : OpenClaim := { program := "ytpgjejdgeodpcaa", sum := "297c4e2269f360cb1d6481352fc66f6035c6201a5d82a4a6af66be44302c971d", func := "leat/leatlaw12.AdmitNil", spec := "admitNil", inPlace := ["slices.overlaps[leat/api.Grant]"], unfollowed := true, recurses := true, plainKeys := false, apart := false, narrowed := true }
def AdmitNilUptoSaid : Prop := admitNilUptoRow.holds Try.pinned (OpenSpec.upto admitNilSpec)

/-- 'leatlaw26.AuditNil', WHERE WHAT IT READS IS OF BULK AT MOST 1048576: true; the input reads as it did. -/
def auditNilUptoRow : OpenClaim := { program := "ytpgjejdgeodpcaa", sum := "297c4e2269f360cb1d6481352fc66f6035c6201a5d82a4a6af66be44302c971d", func := "leat/leatlaw26.AuditNil", spec := "auditNil", recurses := true, plainKeys := false, apart := false, narrowed := true }
def AuditNilUptoSaid : Prop := auditNilUptoRow.holds Try.pinned (OpenSpec.upto auditNilSpec)

end Rows
end Go.Proofs.Ytpgjejdgeodpcaa
