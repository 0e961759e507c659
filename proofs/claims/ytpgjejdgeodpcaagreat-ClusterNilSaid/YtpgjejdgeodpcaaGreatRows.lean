/-
  No cell of these rows narrows 'for every input' (looked for: loops, veiled, ifaces, maps, wideKeys, modest, calm, conditions, laid).
  DERIVED. THE GIVEN ROWS OF THIS SEAT. 6 by the template 'for every input the law returns true; each argument reads behind the call as it read before'; 0 by the template 'total and deterministic' (their statements: YtpgjejdgeodpcaaGreatTotals.lean).
  GIVEN WITH THE SEED: the statements are not yours to turn. If you find one false, say at which input.
  Laid BY PROGRAM, IN A SANDBOX (cutbox-rows.mjs): the forced cells as the released guide's own fill.sh prints them over the translation eced1c3cd445a4d8… (all of the seat's roots in one cut). By AI agents, Wed Nov 11 2026. No macro, syntax, notation, axiom, sorry.
-/
import Derived.Test.YtpgjejdgeodpcaaGreatChecked
import GoSem.Claim
import GoSem.ClaimJoined
import GoSem.ClaimMapViews
import Derived.JoinedTies
import Derived.KernelRfl
namespace Go.Proofs.YtpgjejdgeodpcaaGreat
/- THE CELL 'sum', in the pinned program and in every row, IS THE sha256 OF THE DUMP (.gsa) THAT YtpgjejdgeodpcaaGreatProg.lean LOADS. Nothing in Lean hashes anything: it is a label: what it is worth is what the hold of that sum in a sandbox is worth. -/
noncomputable def Tryz.pinned : Pinned := { name := "ytpgjejdgeodpcaagreat", sum := "eced1c3cd445a4d84b22ccce3fb24aa10dcb3d647c9af7f3d1c1177b6097fe2a", checked := Tryz.checked }
namespace Rows
def none {H : Type} : Left H := { results := [], args := [] }

/-- 'leatlaw11.LedgerNil': WHATEVER THE INPUT: true; the input reads as it did. -/
def ledgerNilSpec : ChangeSpec := { name := "ledgerNil", fn := fun _ => fun
  | [d1, d2, d3] => { results := [.lit (.bool true)], args := [d1, d2, d3] }
  | _ => none }
def ledgerNilRow : OpenClaim := { program := "ytpgjejdgeodpcaagreat", sum := "eced1c3cd445a4d84b22ccce3fb24aa10dcb3d647c9af7f3d1c1177b6097fe2a", func := "leat/leatlaw11.LedgerNil", spec := "ledgerNil", inPlace := ["slices.overlaps[leat/api.Grant]"], unfollowed := true, recurses := true, plainKeys := false, apart := false }
def LedgerNilSaid : Prop := ledgerNilRow.holds Tryz.pinned (OpenSpec.ofChange ledgerNilSpec)

/-- ITS FALSE NEIGHBOUR: 'it returns false'. Refute it at one input. -/
def ledgerNilWrong : ChangeSpec := { name := "ledgerNil", fn := fun _ => fun
  | [d1, d2, d3] => { results := [.lit (.bool false)], args := [d1, d2, d3] }
  | _ => none }
def LedgerNilWrongFalsely : Prop := ledgerNilRow.holds Tryz.pinned (OpenSpec.ofChange ledgerNilWrong)

/-- 'leatlaw13.RequestNil': WHATEVER THE INPUT: true; the input reads as it did. -/
def requestNilSpec : ChangeSpec := { name := "requestNil", fn := fun _ => fun
  | [d1, d2] => { results := [.lit (.bool true)], args := [d1, d2] }
  | _ => none }
def requestNilRow : OpenClaim := { program := "ytpgjejdgeodpcaagreat", sum := "eced1c3cd445a4d84b22ccce3fb24aa10dcb3d647c9af7f3d1c1177b6097fe2a", func := "leat/leatlaw13.RequestNil", spec := "requestNil", inPlace := ["slices.overlaps[leat/api.Grant]"], unfollowed := true, recurses := true, plainKeys := false, apart := false }
def RequestNilSaid : Prop := requestNilRow.holds Tryz.pinned (OpenSpec.ofChange requestNilSpec)

/-- ITS FALSE NEIGHBOUR: 'it returns false'. Refute it at one input. -/
def requestNilWrong : ChangeSpec := { name := "requestNil", fn := fun _ => fun
  | [d1, d2] => { results := [.lit (.bool false)], args := [d1, d2] }
  | _ => none }
def RequestNilWrongFalsely : Prop := requestNilRow.holds Tryz.pinned (OpenSpec.ofChange requestNilWrong)

/-- 'leatlaw21.ReplicaNil': WHATEVER THE INPUT: true; the input reads as it did. -/
def replicaNilSpec : ChangeSpec := { name := "replicaNil", fn := fun _ => fun
  | [d1, d2, d3] => { results := [.lit (.bool true)], args := [d1, d2, d3] }
  | _ => none }
def replicaNilRow : OpenClaim := { program := "ytpgjejdgeodpcaagreat", sum := "eced1c3cd445a4d84b22ccce3fb24aa10dcb3d647c9af7f3d1c1177b6097fe2a", func := "leat/leatlaw21.ReplicaNil", spec := "replicaNil", inPlace := ["slices.overlaps[leat/api.Grant]"], unfollowed := true, recurses := true, plainKeys := false, apart := false }
def ReplicaNilSaid : Prop := replicaNilRow.holds Tryz.pinned (OpenSpec.ofChange replicaNilSpec)

/-- ITS FALSE NEIGHBOUR: 'it returns false'. Refute it at one input. -/
def replicaNilWrong : ChangeSpec := { name := "replicaNil", fn := fun _ => fun
  | [d1, d2, d3] => { results := [.lit (.bool false)], args := [d1, d2, d3] }
  | _ => none }
def ReplicaNilWrongFalsely : Prop := replicaNilRow.holds Tryz.pinned (OpenSpec.ofChange replicaNilWrong)

/-- 'leatlaw22.DurableNil': WHATEVER THE INPUT: true; the input reads as it did. -/
def durableNilSpec : ChangeSpec := { name := "durableNil", fn := fun _ => fun
  | [d1, d2, d3] => { results := [.lit (.bool true)], args := [d1, d2, d3] }
  | _ => none }
def durableNilRow : OpenClaim := { program := "ytpgjejdgeodpcaagreat", sum := "eced1c3cd445a4d84b22ccce3fb24aa10dcb3d647c9af7f3d1c1177b6097fe2a", func := "leat/leatlaw22.DurableNil", spec := "durableNil", inPlace := ["slices.overlaps[leat/api.Grant]"], unfollowed := true, recurses := true, plainKeys := false, apart := false }
def DurableNilSaid : Prop := durableNilRow.holds Tryz.pinned (OpenSpec.ofChange durableNilSpec)

/-- ITS FALSE NEIGHBOUR: 'it returns false'. Refute it at one input. -/
def durableNilWrong : ChangeSpec := { name := "durableNil", fn := fun _ => fun
  | [d1, d2, d3] => { results := [.lit (.bool false)], args := [d1, d2, d3] }
  | _ => none }
def DurableNilWrongFalsely : Prop := durableNilRow.holds Tryz.pinned (OpenSpec.ofChange durableNilWrong)

/-- 'leatlaw24.ClusterNil': WHATEVER THE INPUT: true; the input reads as it did. -/
def clusterNilSpec : ChangeSpec := { name := "clusterNil", fn := fun _ => fun
  | [d] => { results := [.lit (.bool true)], args := [d] }
  | _ => none }
def clusterNilRow : OpenClaim := { program := "ytpgjejdgeodpcaagreat", sum := "eced1c3cd445a4d84b22ccce3fb24aa10dcb3d647c9af7f3d1c1177b6097fe2a", func := "leat/leatlaw24.ClusterNil", spec := "clusterNil", inPlace := ["slices.overlaps[leat/api.Grant]"], unfollowed := true, recurses := true, plainKeys := false, apart := false }
def ClusterNilSaid : Prop := clusterNilRow.holds Tryz.pinned (OpenSpec.ofChange clusterNilSpec)

/-- ITS FALSE NEIGHBOUR: 'it returns false'. Refute it at one input. -/
def clusterNilWrong : ChangeSpec := { name := "clusterNil", fn := fun _ => fun
  | [d] => { results := [.lit (.bool false)], args := [d] }
  | _ => none }
def ClusterNilWrongFalsely : Prop := clusterNilRow.holds Tryz.pinned (OpenSpec.ofChange clusterNilWrong)

/-- 'leatlaw27.WorldNil': WHATEVER THE INPUT: true; the input reads as it did. -/
def worldNilSpec : ChangeSpec := { name := "worldNil", fn := fun _ => fun
  | [d1, d2] => { results := [.lit (.bool true)], args := [d1, d2] }
  | _ => none }
def worldNilRow : OpenClaim := { program := "ytpgjejdgeodpcaagreat", sum := "eced1c3cd445a4d84b22ccce3fb24aa10dcb3d647c9af7f3d1c1177b6097fe2a", func := "leat/leatlaw27.WorldNil", spec := "worldNil", inPlace := ["slices.overlaps[leat/api.Grant]"], unfollowed := true, recurses := true, plainKeys := false, apart := false }
def WorldNilSaid : Prop := worldNilRow.holds Tryz.pinned (OpenSpec.ofChange worldNilSpec)

/-- ITS FALSE NEIGHBOUR: 'it returns false'. Refute it at one input. -/
def worldNilWrong : ChangeSpec := { name := "worldNil", fn := fun _ => fun
  | [d1, d2] => { results := [.lit (.bool false)], args := [d1, d2] }
  | _ => none }
def WorldNilWrongFalsely : Prop := worldNilRow.holds Tryz.pinned (OpenSpec.ofChange worldNilWrong)

/- THE SECOND FORM. 'bulk': how many values and letters a reading holds, each counted each time it is reached (what is shared counts as often as it is met; a slice's spare places count too). A statement '..UptoSaid' is the law's where the arguments, and the package variables that the reading takes, are together of bulk at most 1048576: NARROWER than '..Said'. Prove '..Said' where nothing that the law and all that it calls make is longer than what came in: it says more and counts as full. Else prove '..UptoSaid'. A law counts once. -/
mutual
def uptoBulk {H : Type} : DataW H → Nat
  | .lit (.string bytes) => bytes.length + 1
  | .lit _ => 1
  | .nil => 1
  | .ptr d => uptoBulk d + 1
  | .slice elems spare => uptoBulkAll elems + uptoBulkAll spare + 1
  | .agg parts => uptoBulkAll parts + 1
  | .iface _ d => uptoBulk d + 1
  | .map entries => uptoBulkEntries entries + 1
  | .held _ => 1
def uptoBulkAll {H : Type} : List (DataW H) → Nat
  | [] => 0
  | d :: r => uptoBulk d + uptoBulkAll r
def uptoBulkEntries {H : Type} : List (Lit × DataW H) → Nat
  | [] => 0
  | x :: r => uptoBulkEntry x + uptoBulkEntries r
def uptoBulkEntry {H : Type} : Lit × DataW H → Nat
  | (.string bytes, d) => bytes.length + uptoBulk d + 1
  | (_, d) => uptoBulk d + 1
 end
def uptoSmall : (H : Type) → List (DataW H) → Bool := fun _ ds => decide (uptoBulkAll ds ≤ 1048576)
def OpenSpec.upto (s : _root_.Go.ChangeSpec) : _root_.Go.OpenSpec := { _root_.Go.OpenSpec.ofChange s with cond := some uptoSmall }

/-- 'leatlaw11.LedgerNil', WHERE WHAT IT READS IS OF BULK AT MOST 1048576: true; the input reads as it did. -/
def ledgerNilUptoRow : OpenClaim := { program := "ytpgjejdgeodpcaagreat", sum := "eced1c3cd445a4d84b22ccce3fb24aa10dcb3d647c9af7f3d1c1177b6097fe2a", func := "leat/leatlaw11.LedgerNil", spec := "ledgerNil", inPlace := ["slices.overlaps[leat/api.Grant]"], unfollowed := true, recurses := true, plainKeys := false, apart := false, narrowed := true }
def LedgerNilUptoSaid : Prop := ledgerNilUptoRow.holds Tryz.pinned (OpenSpec.upto ledgerNilSpec)

/-- 'leatlaw13.RequestNil', WHERE WHAT IT READS IS OF BULK AT MOST 1048576: true; the input reads as it did. -/
def requestNilUptoRow : OpenClaim := { program := "ytpgjejdgeodpcaagreat", sum := "eced1c3cd445a4d84b22ccce3fb24aa10dcb3d647c9af7f3d1c1177b6097fe2a", func := "leat/leatlaw13.RequestNil", spec := "requestNil", inPlace := ["slices.overlaps[leat/api.Grant]"], unfollowed := true, recurses := true, plainKeys := false, apart := false, narrowed := true }
def RequestNilUptoSaid : Prop := requestNilUptoRow.holds Tryz.pinned (OpenSpec.upto requestNilSpec)

/-- 'leatlaw21.ReplicaNil', WHERE WHAT IT READS IS OF BULK AT MOST 1048576: true; the input reads as it did. -/
def replicaNilUptoRow : OpenClaim := { program := "ytpgjejdgeodpcaagreat", sum := "eced1c3cd445a4d84b22ccce3fb24aa10dcb3d647c9af7f3d1c1177b6097fe2a", func := "leat/leatlaw21.ReplicaNil", spec := "replicaNil", inPlace := ["slices.overlaps[leat/api.Grant]"], unfollowed := true, recurses := true, plainKeys := false, apart := false, narrowed := true }
def ReplicaNilUptoSaid : Prop := replicaNilUptoRow.holds Tryz.pinned (OpenSpec.upto replicaNilSpec)

/-- 'leatlaw22.DurableNil', WHERE WHAT IT READS IS OF BULK AT MOST 1048576: true; the input reads as it did. -/
def durableNilUptoRow : OpenClaim := { program := "ytpgjejdgeodpcaagreat", sum := "eced1c3cd445a4d84b22ccce3fb24aa10dcb3d647c9af7f3d1c1177b6097fe2a", func := "leat/leatlaw22.DurableNil", spec := "durableNil", inPlace := ["slices.overlaps[leat/api.Grant]"], unfollowed := true, recurses := true, plainKeys := false, apart := false, narrowed := true }
def DurableNilUptoSaid : Prop := durableNilUptoRow.holds Tryz.pinned (OpenSpec.upto durableNilSpec)

/-- 'leatlaw24.ClusterNil', WHERE WHAT IT READS IS OF BULK AT MOST 1048576: true; the input reads as it did. -/
def clusterNilUptoRow : OpenClaim := { program := "ytpgjejdgeodpcaagreat", sum := "eced1c3cd445a4d84b22ccce3fb24aa10dcb3d647c9af7f3d1c1177b6097fe2a", func := "leat/leatlaw24.ClusterNil", spec := "clusterNil", inPlace := ["slices.overlaps[leat/api.Grant]"], unfollowed := true, recurses := true, plainKeys := false, apart := false, narrowed := true }
def ClusterNilUptoSaid : Prop := clusterNilUptoRow.holds Tryz.pinned (OpenSpec.upto clusterNilSpec)

/-- 'leatlaw27.WorldNil', WHERE WHAT IT READS IS OF BULK AT MOST 1048576: true; the input reads as it did. -/
def worldNilUptoRow : OpenClaim := { program := "ytpgjejdgeodpcaagreat", sum := "eced1c3cd445a4d84b22ccce3fb24aa10dcb3d647c9af7f3d1c1177b6097fe2a", func := "leat/leatlaw27.WorldNil", spec := "worldNil", inPlace := ["slices.overlaps[leat/api.Grant]"], unfollowed := true, recurses := true, plainKeys := false, apart := false, narrowed := true }
def WorldNilUptoSaid : Prop := worldNilUptoRow.holds Tryz.pinned (OpenSpec.upto worldNilSpec)

end Rows
end Go.Proofs.YtpgjejdgeodpcaaGreat
