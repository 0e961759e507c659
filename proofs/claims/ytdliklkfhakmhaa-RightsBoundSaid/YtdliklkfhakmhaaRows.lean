/-
  No cell of these rows narrows 'for every input' (looked for: loops, veiled, ifaces, maps, wideKeys, modest, calm, conditions, laid).
  DERIVED. THE GIVEN ROWS OF THIS SEAT. 12 by the template 'for every input the law returns true; each argument reads behind the call as it read before'; 0 by the template 'total and deterministic' (their statements: YtdliklkfhakmhaaTotals.lean).
  GIVEN WITH THE SEED: the statements are not yours to turn. If you find one false, say at which input.
  Laid BY PROGRAM, IN A SANDBOX (cutbox-rows.mjs): the forced cells as the released guide's own fill.sh prints them over the translation e6cf91a4c8cadc2b… (all of the seat's roots in one cut). By AI agents, Wed Nov 11 2026. No macro, syntax, notation, axiom, sorry.
-/
import Derived.Test.YtdliklkfhakmhaaChecked
import GoSem.Claim
import GoSem.ClaimJoined
import GoSem.ClaimMapViews
import Derived.JoinedTies
import Derived.KernelRfl
namespace Go.Proofs.Ytdliklkfhakmhaa
/- THE CELL 'sum', in the pinned program and in every row, IS THE sha256 OF THE DUMP (.gsa) THAT YtdliklkfhakmhaaProg.lean LOADS. Nothing in Lean hashes anything: it is a label: what it is worth is what the hold of that sum in a sandbox is worth. -/
noncomputable def Try.pinned : Pinned := { name := "ytdliklkfhakmhaa", sum := "e6cf91a4c8cadc2b22f6a3dc0017f5aad5e546f344eff26a85c57d24b56e9d07", checked := Try.checked }
namespace Rows
def none {H : Type} : Left H := { results := [], args := [] }

/-- 'leatlaw06.VectorPlays': WHATEVER THE INPUT: true; the input reads as it did. -/
def vectorPlaysSpec : ChangeSpec := { name := "vectorPlays", fn := fun _ => fun
  | [d1, d2, d3, d4, d5] => { results := [.lit (.bool true)], args := [d1, d2, d3, d4, d5] }
  | _ => none }
def vectorPlaysRow : OpenClaim := { program := "ytdliklkfhakmhaa", sum := "e6cf91a4c8cadc2b22f6a3dc0017f5aad5e546f344eff26a85c57d24b56e9d07", func := "leat/leatlaw06.VectorPlays", spec := "vectorPlays", unfollowed := true, recurses := true, apart := false }
def VectorPlaysSaid : Prop := vectorPlaysRow.holds Try.pinned (OpenSpec.ofChange vectorPlaysSpec)

/-- ITS FALSE NEIGHBOUR: 'it returns false'. Refute it at one input. -/
def vectorPlaysWrong : ChangeSpec := { name := "vectorPlays", fn := fun _ => fun
  | [d1, d2, d3, d4, d5] => { results := [.lit (.bool false)], args := [d1, d2, d3, d4, d5] }
  | _ => none }
def VectorPlaysWrongFalsely : Prop := vectorPlaysRow.holds Try.pinned (OpenSpec.ofChange vectorPlaysWrong)

/-- 'leatlaw06.VectorBytes': WHATEVER THE INPUT: true; the input reads as it did. -/
def vectorBytesSpec : ChangeSpec := { name := "vectorBytes", fn := fun _ => fun
  | [d1, d2] => { results := [.lit (.bool true)], args := [d1, d2] }
  | _ => none }
def vectorBytesRow : OpenClaim := { program := "ytdliklkfhakmhaa", sum := "e6cf91a4c8cadc2b22f6a3dc0017f5aad5e546f344eff26a85c57d24b56e9d07", func := "leat/leatlaw06.VectorBytes", spec := "vectorBytes", unfollowed := true, recurses := true, apart := false }
def VectorBytesSaid : Prop := vectorBytesRow.holds Try.pinned (OpenSpec.ofChange vectorBytesSpec)

/-- ITS FALSE NEIGHBOUR: 'it returns false'. Refute it at one input. -/
def vectorBytesWrong : ChangeSpec := { name := "vectorBytes", fn := fun _ => fun
  | [d1, d2] => { results := [.lit (.bool false)], args := [d1, d2] }
  | _ => none }
def VectorBytesWrongFalsely : Prop := vectorBytesRow.holds Try.pinned (OpenSpec.ofChange vectorBytesWrong)

/-- 'leatlaw06.VectorJoins': WHATEVER THE INPUT: true; the input reads as it did. -/
def vectorJoinsSpec : ChangeSpec := { name := "vectorJoins", fn := fun _ => fun
  | [d1, d2, d3, d4, d5] => { results := [.lit (.bool true)], args := [d1, d2, d3, d4, d5] }
  | _ => none }
def vectorJoinsRow : OpenClaim := { program := "ytdliklkfhakmhaa", sum := "e6cf91a4c8cadc2b22f6a3dc0017f5aad5e546f344eff26a85c57d24b56e9d07", func := "leat/leatlaw06.VectorJoins", spec := "vectorJoins", unfollowed := true, recurses := true, apart := false }
def VectorJoinsSaid : Prop := vectorJoinsRow.holds Try.pinned (OpenSpec.ofChange vectorJoinsSpec)

/-- ITS FALSE NEIGHBOUR: 'it returns false'. Refute it at one input. -/
def vectorJoinsWrong : ChangeSpec := { name := "vectorJoins", fn := fun _ => fun
  | [d1, d2, d3, d4, d5] => { results := [.lit (.bool false)], args := [d1, d2, d3, d4, d5] }
  | _ => none }
def VectorJoinsWrongFalsely : Prop := vectorJoinsRow.holds Try.pinned (OpenSpec.ofChange vectorJoinsWrong)

/-- 'leatlaw06.VectorNext': WHATEVER THE INPUT: true; the input reads as it did. -/
def vectorNextSpec : ChangeSpec := { name := "vectorNext", fn := fun _ => fun
  | [d1, d2] => { results := [.lit (.bool true)], args := [d1, d2] }
  | _ => none }
def vectorNextRow : OpenClaim := { program := "ytdliklkfhakmhaa", sum := "e6cf91a4c8cadc2b22f6a3dc0017f5aad5e546f344eff26a85c57d24b56e9d07", func := "leat/leatlaw06.VectorNext", spec := "vectorNext", unfollowed := true, recurses := true, apart := false }
def VectorNextSaid : Prop := vectorNextRow.holds Try.pinned (OpenSpec.ofChange vectorNextSpec)

/-- ITS FALSE NEIGHBOUR: 'it returns false'. Refute it at one input. -/
def vectorNextWrong : ChangeSpec := { name := "vectorNext", fn := fun _ => fun
  | [d1, d2] => { results := [.lit (.bool false)], args := [d1, d2] }
  | _ => none }
def VectorNextWrongFalsely : Prop := vectorNextRow.holds Try.pinned (OpenSpec.ofChange vectorNextWrong)

/-- 'leatlaw06.VectorLattice': WHATEVER THE INPUT: true; the input reads as it did. -/
def vectorLatticeSpec : ChangeSpec := { name := "vectorLattice", fn := fun _ => fun
  | [d1, d2, d3] => { results := [.lit (.bool true)], args := [d1, d2, d3] }
  | _ => none }
def vectorLatticeRow : OpenClaim := { program := "ytdliklkfhakmhaa", sum := "e6cf91a4c8cadc2b22f6a3dc0017f5aad5e546f344eff26a85c57d24b56e9d07", func := "leat/leatlaw06.VectorLattice", spec := "vectorLattice", unfollowed := true, recurses := true, apart := false }
def VectorLatticeSaid : Prop := vectorLatticeRow.holds Try.pinned (OpenSpec.ofChange vectorLatticeSpec)

/-- ITS FALSE NEIGHBOUR: 'it returns false'. Refute it at one input. -/
def vectorLatticeWrong : ChangeSpec := { name := "vectorLattice", fn := fun _ => fun
  | [d1, d2, d3] => { results := [.lit (.bool false)], args := [d1, d2, d3] }
  | _ => none }
def VectorLatticeWrongFalsely : Prop := vectorLatticeRow.holds Try.pinned (OpenSpec.ofChange vectorLatticeWrong)

/-- 'leatlaw17.GossipRises': WHATEVER THE INPUT: true; the input reads as it did. -/
def gossipRisesSpec : ChangeSpec := { name := "gossipRises", fn := fun _ => fun
  | [d1, d2] => { results := [.lit (.bool true)], args := [d1, d2] }
  | _ => none }
def gossipRisesRow : OpenClaim := { program := "ytdliklkfhakmhaa", sum := "e6cf91a4c8cadc2b22f6a3dc0017f5aad5e546f344eff26a85c57d24b56e9d07", func := "leat/leatlaw17.GossipRises", spec := "gossipRises", unfollowed := true, recurses := true, apart := false }
def GossipRisesSaid : Prop := gossipRisesRow.holds Try.pinned (OpenSpec.ofChange gossipRisesSpec)

/-- ITS FALSE NEIGHBOUR: 'it returns false'. Refute it at one input. -/
def gossipRisesWrong : ChangeSpec := { name := "gossipRises", fn := fun _ => fun
  | [d1, d2] => { results := [.lit (.bool false)], args := [d1, d2] }
  | _ => none }
def GossipRisesWrongFalsely : Prop := gossipRisesRow.holds Try.pinned (OpenSpec.ofChange gossipRisesWrong)

/-- 'leatlaw17.GossipNil': WHATEVER THE INPUT: true; the input reads as it did. -/
def gossipNilSpec : ChangeSpec := { name := "gossipNil", fn := fun _ => fun
  | [d1, d2, d3] => { results := [.lit (.bool true)], args := [d1, d2, d3] }
  | _ => none }
def gossipNilRow : OpenClaim := { program := "ytdliklkfhakmhaa", sum := "e6cf91a4c8cadc2b22f6a3dc0017f5aad5e546f344eff26a85c57d24b56e9d07", func := "leat/leatlaw17.GossipNil", spec := "gossipNil", unfollowed := true, recurses := true, apart := false }
def GossipNilSaid : Prop := gossipNilRow.holds Try.pinned (OpenSpec.ofChange gossipNilSpec)

/-- ITS FALSE NEIGHBOUR: 'it returns false'. Refute it at one input. -/
def gossipNilWrong : ChangeSpec := { name := "gossipNil", fn := fun _ => fun
  | [d1, d2, d3] => { results := [.lit (.bool false)], args := [d1, d2, d3] }
  | _ => none }
def GossipNilWrongFalsely : Prop := gossipNilRow.holds Try.pinned (OpenSpec.ofChange gossipNilWrong)

/-- 'leatlaw14.DonorAll': WHATEVER THE INPUT: true; the input reads as it did. -/
def donorAllSpec : ChangeSpec := { name := "donorAll", fn := fun _ => fun
  | [d1, d2] => { results := [.lit (.bool true)], args := [d1, d2] }
  | _ => none }
def donorAllRow : OpenClaim := { program := "ytdliklkfhakmhaa", sum := "e6cf91a4c8cadc2b22f6a3dc0017f5aad5e546f344eff26a85c57d24b56e9d07", func := "leat/leatlaw14.DonorAll", spec := "donorAll", unfollowed := true, recurses := true, apart := false }
def DonorAllSaid : Prop := donorAllRow.holds Try.pinned (OpenSpec.ofChange donorAllSpec)

/-- ITS FALSE NEIGHBOUR: 'it returns false'. Refute it at one input. -/
def donorAllWrong : ChangeSpec := { name := "donorAll", fn := fun _ => fun
  | [d1, d2] => { results := [.lit (.bool false)], args := [d1, d2] }
  | _ => none }
def DonorAllWrongFalsely : Prop := donorAllRow.holds Try.pinned (OpenSpec.ofChange donorAllWrong)

/-- 'leatlaw07.RightsBound': WHATEVER THE INPUT: true; the input reads as it did. -/
def rightsBoundSpec : ChangeSpec := { name := "rightsBound", fn := fun _ => fun
  | [d] => { results := [.lit (.bool true)], args := [d] }
  | _ => none }
def rightsBoundRow : OpenClaim := { program := "ytdliklkfhakmhaa", sum := "e6cf91a4c8cadc2b22f6a3dc0017f5aad5e546f344eff26a85c57d24b56e9d07", func := "leat/leatlaw07.RightsBound", spec := "rightsBound", unfollowed := true, recurses := true, apart := false }
def RightsBoundSaid : Prop := rightsBoundRow.holds Try.pinned (OpenSpec.ofChange rightsBoundSpec)

/-- ITS FALSE NEIGHBOUR: 'it returns false'. Refute it at one input. -/
def rightsBoundWrong : ChangeSpec := { name := "rightsBound", fn := fun _ => fun
  | [d] => { results := [.lit (.bool false)], args := [d] }
  | _ => none }
def RightsBoundWrongFalsely : Prop := rightsBoundRow.holds Try.pinned (OpenSpec.ofChange rightsBoundWrong)

/-- 'leatlaw07.RightsJoins': WHATEVER THE INPUT: true; the input reads as it did. -/
def rightsJoinsSpec : ChangeSpec := { name := "rightsJoins", fn := fun _ => fun
  | [d1, d2, d3, d4] => { results := [.lit (.bool true)], args := [d1, d2, d3, d4] }
  | _ => none }
def rightsJoinsRow : OpenClaim := { program := "ytdliklkfhakmhaa", sum := "e6cf91a4c8cadc2b22f6a3dc0017f5aad5e546f344eff26a85c57d24b56e9d07", func := "leat/leatlaw07.RightsJoins", spec := "rightsJoins", unfollowed := true, recurses := true, apart := false }
def RightsJoinsSaid : Prop := rightsJoinsRow.holds Try.pinned (OpenSpec.ofChange rightsJoinsSpec)

/-- ITS FALSE NEIGHBOUR: 'it returns false'. Refute it at one input. -/
def rightsJoinsWrong : ChangeSpec := { name := "rightsJoins", fn := fun _ => fun
  | [d1, d2, d3, d4] => { results := [.lit (.bool false)], args := [d1, d2, d3, d4] }
  | _ => none }
def RightsJoinsWrongFalsely : Prop := rightsJoinsRow.holds Try.pinned (OpenSpec.ofChange rightsJoinsWrong)

/-- 'leatlaw07.RightsBack': WHATEVER THE INPUT: true; the input reads as it did. -/
def rightsBackSpec : ChangeSpec := { name := "rightsBack", fn := fun _ => fun
  | [d1, d2, d3, d4, d5] => { results := [.lit (.bool true)], args := [d1, d2, d3, d4, d5] }
  | _ => none }
def rightsBackRow : OpenClaim := { program := "ytdliklkfhakmhaa", sum := "e6cf91a4c8cadc2b22f6a3dc0017f5aad5e546f344eff26a85c57d24b56e9d07", func := "leat/leatlaw07.RightsBack", spec := "rightsBack", unfollowed := true, recurses := true, apart := false }
def RightsBackSaid : Prop := rightsBackRow.holds Try.pinned (OpenSpec.ofChange rightsBackSpec)

/-- ITS FALSE NEIGHBOUR: 'it returns false'. Refute it at one input. -/
def rightsBackWrong : ChangeSpec := { name := "rightsBack", fn := fun _ => fun
  | [d1, d2, d3, d4, d5] => { results := [.lit (.bool false)], args := [d1, d2, d3, d4, d5] }
  | _ => none }
def RightsBackWrongFalsely : Prop := rightsBackRow.holds Try.pinned (OpenSpec.ofChange rightsBackWrong)

/-- 'leatlaw07.RightsTakes': WHATEVER THE INPUT: true; the input reads as it did. -/
def rightsTakesSpec : ChangeSpec := { name := "rightsTakes", fn := fun _ => fun
  | [d1, d2, d3] => { results := [.lit (.bool true)], args := [d1, d2, d3] }
  | _ => none }
def rightsTakesRow : OpenClaim := { program := "ytdliklkfhakmhaa", sum := "e6cf91a4c8cadc2b22f6a3dc0017f5aad5e546f344eff26a85c57d24b56e9d07", func := "leat/leatlaw07.RightsTakes", spec := "rightsTakes", unfollowed := true, recurses := true, apart := false }
def RightsTakesSaid : Prop := rightsTakesRow.holds Try.pinned (OpenSpec.ofChange rightsTakesSpec)

/-- ITS FALSE NEIGHBOUR: 'it returns false'. Refute it at one input. -/
def rightsTakesWrong : ChangeSpec := { name := "rightsTakes", fn := fun _ => fun
  | [d1, d2, d3] => { results := [.lit (.bool false)], args := [d1, d2, d3] }
  | _ => none }
def RightsTakesWrongFalsely : Prop := rightsTakesRow.holds Try.pinned (OpenSpec.ofChange rightsTakesWrong)

/- THE SECOND FORM. 'bulk': how many values and letters a reading holds, each counted each time it is reached (what is shared counts as often as it is met; a slice's spare places count too). A statement '..UptoSaid' is the law's where the arguments, and the package variables that the reading takes, are together of bulk at most 1048576: NARROWER than '..Said'. Prove '..Said' where nothing that the law and all that it calls make is longer than what came in: it says more and counts as full. Else prove '..UptoSaid'. A law counts once. -/
mutual
def uptoBulk {H : Type} : DataW H → Nat
  | .lit (.string bytes) => bytes.length + 1
  | .lit _ => 1
  | .nil => 1
  | .ptr d => uptoBulk d + 1
  | .slice elems spare => uptoBulkAll elems + uptoBulkAll spare + 1
  | .agg parts => uptoBulkAll parts + 1
  | .iface _ d => uptoBulk d + 1
  | .map entries => uptoBulkEntries entries + 1
  | .held _ => 1
def uptoBulkAll {H : Type} : List (DataW H) → Nat
  | [] => 0
  | d :: r => uptoBulk d + uptoBulkAll r
def uptoBulkEntries {H : Type} : List (Lit × DataW H) → Nat
  | [] => 0
  | x :: r => uptoBulkEntry x + uptoBulkEntries r
def uptoBulkEntry {H : Type} : Lit × DataW H → Nat
  | (.string bytes, d) => bytes.length + uptoBulk d + 1
  | (_, d) => uptoBulk d + 1
 end
def uptoSmall : (H : Type) → List (DataW H) → Bool := fun _ ds => decide (uptoBulkAll ds ≤ 1048576)
def OpenSpec.upto (s : _root_.Go.ChangeSpec) : _root_.Go.OpenSpec := { _root_.Go.OpenSpec.ofChange s with cond := some uptoSmall }

/-- 'leatlaw06.VectorPlays', WHERE WHAT IT READS IS OF BULK AT MOST 1048576: true; the input reads as it did. -/
def vectorPlaysUptoRow : OpenClaim := { program := "ytdliklkfhakmhaa", sum := "e6cf91a4c8cadc2b22f6a3dc0017f5aad5e546f344eff26a85c57d24b56e9d07", func := "leat/leatlaw06.VectorPlays", spec := "vectorPlays", unfollowed := true, recurses := true, apart := false, narrowed := true }
def VectorPlaysUptoSaid : Prop := vectorPlaysUptoRow.holds Try.pinned (OpenSpec.upto vectorPlaysSpec)

/-- 'leatlaw06.VectorBytes', WHERE WHAT IT READS IS OF BULK AT MOST 1048576: true; the input reads as it did. -/
def vectorBytesUptoRow : OpenClaim := { program := "ytdliklkfhakmhaa", sum := "e6cf91a4c8cadc2b22f6a3dc0017f5aad5e546f344eff26a85c57d24b56e9d07", func := "leat/leatlaw06.VectorBytes", spec := "vectorBytes", unfollowed := true, recurses := true, apart := false, narrowed := true }
def VectorBytesUptoSaid : Prop := vectorBytesUptoRow.holds Try.pinned (OpenSpec.upto vectorBytesSpec)

/-- 'leatlaw06.VectorJoins', WHERE WHAT IT READS IS OF BULK AT MOST 1048576: true; the input reads as it did. -/
def vectorJoinsUptoRow : OpenClaim := { program := "ytdliklkfhakmhaa", sum := "e6cf91a4c8cadc2b22f6a3dc0017f5aad5e546f344eff26a85c57d24b56e9d07", func := "leat/leatlaw06.VectorJoins", spec := "vectorJoins", unfollowed := true, recurses := true, apart := false, narrowed := true }
def VectorJoinsUptoSaid : Prop := vectorJoinsUptoRow.holds Try.pinned (OpenSpec.upto vectorJoinsSpec)

/-- 'leatlaw06.VectorNext', WHERE WHAT IT READS IS OF BULK AT MOST 1048576: true; the input reads as it did. -/
def vectorNextUptoRow : OpenClaim := { program := "ytdliklkfhakmhaa", sum := "e6cf91a4c8cadc2b22f6a3dc0017f5aad5e546f344eff26a85c57d24b56e9d07", func := "leat/leatlaw06.VectorNext", spec := "vectorNext", unfollowed := true, recurses := true, apart := false, narrowed := true }
def VectorNextUptoSaid : Prop := vectorNextUptoRow.holds Try.pinned (OpenSpec.upto vectorNextSpec)

/-- 'leatlaw06.VectorLattice', WHERE WHAT IT READS IS OF BULK AT MOST 1048576: true; the input reads as it did. -/
def vectorLatticeUptoRow : OpenClaim := { program := "ytdliklkfhakmhaa", sum := "e6cf91a4c8cadc2b22f6a3dc0017f5aad5e546f344eff26a85c57d24b56e9d07", func := "leat/leatlaw06.VectorLattice", spec := "vectorLattice", unfollowed := true, recurses := true, apart := false, narrowed := true }
def VectorLatticeUptoSaid : Prop := vectorLatticeUptoRow.holds Try.pinned (OpenSpec.upto vectorLatticeSpec)

/-- 'leatlaw17.GossipRises', WHERE WHAT IT READS IS OF BULK AT MOST 1048576: true; the input reads as it did. -/
def gossipRisesUptoRow : OpenClaim := { program := "ytdliklkfhakmhaa", sum := "e6cf91a4c8cadc2b22f6a3dc0017f5aad5e546f344eff26a85c57d24b56e9d07", func := "leat/leatlaw17.GossipRises", spec := "gossipRises", unfollowed := true, recurses := true, apart := false, narrowed := true }
def GossipRisesUptoSaid : Prop := gossipRisesUptoRow.holds Try.pinned (OpenSpec.upto gossipRisesSpec)

/-- 'leatlaw17.GossipNil', WHERE WHAT IT READS IS OF BULK AT MOST 1048576: true; the input reads as it did. -/
def gossipNilUptoRow : OpenClaim := { program := "ytdliklkfhakmhaa", sum := "e6cf91a4c8cadc2b22f6a3dc0017f5aad5e546f344eff26a85c57d24b56e9d07", func := "leat/leatlaw17.GossipNil", spec := "gossipNil", unfollowed := true, recurses := true, apart := false, narrowed := true }
def GossipNilUptoSaid : Prop := gossipNilUptoRow.holds Try.pinned (OpenSpec.upto gossipNilSpec)

/-- 'leatlaw14.DonorAll', WHERE WHAT IT READS IS OF BULK AT MOST 1048576: true; the input reads as it did. -/
def donorAllUptoRow : OpenClaim := { program := "ytdliklkfhakmhaa", sum := "e6cf91a4c8cadc2b22f6a3dc0017f5aad5e546f344eff26a85c57d24b56e9d07", func := "leat/leatlaw14.DonorAll", spec := "donorAll", unfollowed := true, recurses := true, apart := false, narrowed := true }
def DonorAllUptoSaid : Prop := donorAllUptoRow.holds Try.pinned (OpenSpec.upto donorAllSpec)

/-- 'leatlaw07.RightsBound', WHERE WHAT IT READS IS OF BULK AT MOST 1048576: true; the input reads as it did. -/
def rightsBoundUptoRow : OpenClaim := { program := "ytdliklkfhakmhaa", sum := "e6cf91a4c8cadc2b22f6a3dc0017f5aad5e546f344eff26a85c57d24b56e9d07", func := "leat/leatlaw07.RightsBound", spec := "rightsBound", unfollowed := true, recurses := true, apart := false, narrowed := true }
def RightsBoundUptoSaid : Prop := rightsBoundUptoRow.holds Try.pinned (OpenSpec.upto rightsBoundSpec)

/-- 'leatlaw07.RightsJoins', WHERE WHAT IT READS IS OF BULK AT MOST 1048576: true; the input reads as it did. -/
def rightsJoinsUptoRow : OpenClaim := { program := "ytdliklkfhakmhaa", sum := "e6cf91a4c8cadc2b22f6a3dc0017f5aad5e546f344eff26a85c57d24b56e9d07", func := "leat/leatlaw07.RightsJoins", spec := "rightsJoins", unfollowed := true, recurses := true, apart := false, narrowed := true }
def RightsJoinsUptoSaid : Prop := rightsJoinsUptoRow.holds Try.pinned (OpenSpec.upto rightsJoinsSpec)

/-- 'leatlaw07.RightsBack', WHERE WHAT IT READS IS OF BULK AT MOST 1048576: true; the input reads as it did. -/
def rightsBackUptoRow : OpenClaim := { program := "ytdliklkfhakmhaa", sum := "e6cf91a4c8cadc2b22f6a3dc0017f5aad5e546f344eff26a85c57d24b56e9d07", func := "leat/leatlaw07.RightsBack", spec := "rightsBack", unfollowed := true, recurses := true, apart := false, narrowed := true }
def RightsBackUptoSaid : Prop := rightsBackUptoRow.holds Try.pinned (OpenSpec.upto rightsBackSpec)

/-- 'leatlaw07.RightsTakes', WHERE WHAT IT READS IS OF BULK AT MOST 1048576: true; the input reads as it did. -/
def rightsTakesUptoRow : OpenClaim := { program := "ytdliklkfhakmhaa", sum := "e6cf91a4c8cadc2b22f6a3dc0017f5aad5e546f344eff26a85c57d24b56e9d07", func := "leat/leatlaw07.RightsTakes", spec := "rightsTakes", unfollowed := true, recurses := true, apart := false, narrowed := true }
def RightsTakesUptoSaid : Prop := rightsTakesUptoRow.holds Try.pinned (OpenSpec.upto rightsTakesSpec)

end Rows
end Go.Proofs.Ytdliklkfhakmhaa
