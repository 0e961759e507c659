/-
  No cell of these rows narrows 'for every input' (looked for: loops, veiled, ifaces, maps, wideKeys, modest, calm, conditions, laid).
  DERIVED. THE GIVEN ROWS OF THIS SEAT. 12 by the template 'for every input the law returns true; each argument reads behind the call as it read before'; 0 by the template 'total and deterministic' (their statements: YtjihbjjekhncaaaTotals.lean).
  GIVEN WITH THE SEED: the statements are not yours to turn. If you find one false, say at which input.
  Laid BY PROGRAM, IN A SANDBOX (cutbox-rows.mjs): the forced cells as the released guide's own fill.sh prints them over the translation 34ffb1c84b70c42c… (all of the seat's roots in one cut). By AI agents, Wed Nov 11 2026. No macro, syntax, notation, axiom, sorry.
-/
import Derived.Test.YtjihbjjekhncaaaChecked
import GoSem.Claim
import GoSem.ClaimJoined
import GoSem.ClaimMapViews
import Derived.JoinedTies
import Derived.KernelRfl
namespace Go.Proofs.Ytjihbjjekhncaaa
/- THE CELL 'sum', in the pinned program and in every row, IS THE sha256 OF THE DUMP (.gsa) THAT YtjihbjjekhncaaaProg.lean LOADS. Nothing in Lean hashes anything: it is a label: what it is worth is what the hold of that sum in a sandbox is worth. -/
noncomputable def Try.pinned : Pinned := { name := "ytjihbjjekhncaaa", sum := "34ffb1c84b70c42cd2b73a72db4efbd553055ada02dcb0f3c84e5d3dff2b0470", checked := Try.checked }
namespace Rows
def none {H : Type} : Left H := { results := [], args := [] }

/-- 'leatlaw08.EventPlays': WHATEVER THE INPUT: true; the input reads as it did. -/
def eventPlaysSpec : ChangeSpec := { name := "eventPlays", fn := fun _ => fun
  | [d1, d2, d3] => { results := [.lit (.bool true)], args := [d1, d2, d3] }
  | _ => none }
def eventPlaysRow : OpenClaim := { program := "ytjihbjjekhncaaa", sum := "34ffb1c84b70c42cd2b73a72db4efbd553055ada02dcb0f3c84e5d3dff2b0470", func := "leat/leatlaw08.EventPlays", spec := "eventPlays", plainKeys := false, apart := false }
def EventPlaysSaid : Prop := eventPlaysRow.holds Try.pinned (OpenSpec.ofChange eventPlaysSpec)

/-- ITS FALSE NEIGHBOUR: 'it returns false'. Refute it at one input. -/
def eventPlaysWrong : ChangeSpec := { name := "eventPlays", fn := fun _ => fun
  | [d1, d2, d3] => { results := [.lit (.bool false)], args := [d1, d2, d3] }
  | _ => none }
def EventPlaysWrongFalsely : Prop := eventPlaysRow.holds Try.pinned (OpenSpec.ofChange eventPlaysWrong)

/-- 'leatlaw08.EventBack': WHATEVER THE INPUT: true; the input reads as it did. -/
def eventBackSpec : ChangeSpec := { name := "eventBack", fn := fun _ => fun
  | [d1, d2, d3, d4] => { results := [.lit (.bool true)], args := [d1, d2, d3, d4] }
  | _ => none }
def eventBackRow : OpenClaim := { program := "ytjihbjjekhncaaa", sum := "34ffb1c84b70c42cd2b73a72db4efbd553055ada02dcb0f3c84e5d3dff2b0470", func := "leat/leatlaw08.EventBack", spec := "eventBack", plainKeys := false, apart := false }
def EventBackSaid : Prop := eventBackRow.holds Try.pinned (OpenSpec.ofChange eventBackSpec)

/-- ITS FALSE NEIGHBOUR: 'it returns false'. Refute it at one input. -/
def eventBackWrong : ChangeSpec := { name := "eventBack", fn := fun _ => fun
  | [d1, d2, d3, d4] => { results := [.lit (.bool false)], args := [d1, d2, d3, d4] }
  | _ => none }
def EventBackWrongFalsely : Prop := eventBackRow.holds Try.pinned (OpenSpec.ofChange eventBackWrong)

/-- 'leatlaw08.EventIds': WHATEVER THE INPUT: true; the input reads as it did. -/
def eventIdsSpec : ChangeSpec := { name := "eventIds", fn := fun _ => fun
  | [d1, d2] => { results := [.lit (.bool true)], args := [d1, d2] }
  | _ => none }
def eventIdsRow : OpenClaim := { program := "ytjihbjjekhncaaa", sum := "34ffb1c84b70c42cd2b73a72db4efbd553055ada02dcb0f3c84e5d3dff2b0470", func := "leat/leatlaw08.EventIds", spec := "eventIds", plainKeys := false, apart := false }
def EventIdsSaid : Prop := eventIdsRow.holds Try.pinned (OpenSpec.ofChange eventIdsSpec)

/-- ITS FALSE NEIGHBOUR: 'it returns false'. Refute it at one input. -/
def eventIdsWrong : ChangeSpec := { name := "eventIds", fn := fun _ => fun
  | [d1, d2] => { results := [.lit (.bool false)], args := [d1, d2] }
  | _ => none }
def EventIdsWrongFalsely : Prop := eventIdsRow.holds Try.pinned (OpenSpec.ofChange eventIdsWrong)

/-- 'leatlaw08.EventTurned': WHATEVER THE INPUT: true; the input reads as it did. -/
def eventTurnedSpec : ChangeSpec := { name := "eventTurned", fn := fun _ => fun
  | [d1, d2, d3] => { results := [.lit (.bool true)], args := [d1, d2, d3] }
  | _ => none }
def eventTurnedRow : OpenClaim := { program := "ytjihbjjekhncaaa", sum := "34ffb1c84b70c42cd2b73a72db4efbd553055ada02dcb0f3c84e5d3dff2b0470", func := "leat/leatlaw08.EventTurned", spec := "eventTurned", plainKeys := false, apart := false }
def EventTurnedSaid : Prop := eventTurnedRow.holds Try.pinned (OpenSpec.ofChange eventTurnedSpec)

/-- ITS FALSE NEIGHBOUR: 'it returns false'. Refute it at one input. -/
def eventTurnedWrong : ChangeSpec := { name := "eventTurned", fn := fun _ => fun
  | [d1, d2, d3] => { results := [.lit (.bool false)], args := [d1, d2, d3] }
  | _ => none }
def EventTurnedWrongFalsely : Prop := eventTurnedRow.holds Try.pinned (OpenSpec.ofChange eventTurnedWrong)

/-- 'leatlaw08.EventRows': WHATEVER THE INPUT: true; the input reads as it did. -/
def eventRowsSpec : ChangeSpec := { name := "eventRows", fn := fun _ => fun
  | [d1, d2] => { results := [.lit (.bool true)], args := [d1, d2] }
  | _ => none }
def eventRowsRow : OpenClaim := { program := "ytjihbjjekhncaaa", sum := "34ffb1c84b70c42cd2b73a72db4efbd553055ada02dcb0f3c84e5d3dff2b0470", func := "leat/leatlaw08.EventRows", spec := "eventRows", plainKeys := false, apart := false }
def EventRowsSaid : Prop := eventRowsRow.holds Try.pinned (OpenSpec.ofChange eventRowsSpec)

/-- ITS FALSE NEIGHBOUR: 'it returns false'. Refute it at one input. -/
def eventRowsWrong : ChangeSpec := { name := "eventRows", fn := fun _ => fun
  | [d1, d2] => { results := [.lit (.bool false)], args := [d1, d2] }
  | _ => none }
def EventRowsWrongFalsely : Prop := eventRowsRow.holds Try.pinned (OpenSpec.ofChange eventRowsWrong)

/-- 'leatlaw20.MessagePlays': WHATEVER THE INPUT: true; the input reads as it did. -/
def messagePlaysSpec : ChangeSpec := { name := "messagePlays", fn := fun _ => fun
  | [d1, d2] => { results := [.lit (.bool true)], args := [d1, d2] }
  | _ => none }
def messagePlaysRow : OpenClaim := { program := "ytjihbjjekhncaaa", sum := "34ffb1c84b70c42cd2b73a72db4efbd553055ada02dcb0f3c84e5d3dff2b0470", func := "leat/leatlaw20.MessagePlays", spec := "messagePlays", unfollowed := true, recurses := true, plainKeys := false, apart := false }
def MessagePlaysSaid : Prop := messagePlaysRow.holds Try.pinned (OpenSpec.ofChange messagePlaysSpec)

/-- ITS FALSE NEIGHBOUR: 'it returns false'. Refute it at one input. -/
def messagePlaysWrong : ChangeSpec := { name := "messagePlays", fn := fun _ => fun
  | [d1, d2] => { results := [.lit (.bool false)], args := [d1, d2] }
  | _ => none }
def MessagePlaysWrongFalsely : Prop := messagePlaysRow.holds Try.pinned (OpenSpec.ofChange messagePlaysWrong)

/-- 'leatlaw20.MessageBack': WHATEVER THE INPUT: true; the input reads as it did. -/
def messageBackSpec : ChangeSpec := { name := "messageBack", fn := fun _ => fun
  | [d1, d2] => { results := [.lit (.bool true)], args := [d1, d2] }
  | _ => none }
def messageBackRow : OpenClaim := { program := "ytjihbjjekhncaaa", sum := "34ffb1c84b70c42cd2b73a72db4efbd553055ada02dcb0f3c84e5d3dff2b0470", func := "leat/leatlaw20.MessageBack", spec := "messageBack", unfollowed := true, recurses := true, plainKeys := false, apart := false }
def MessageBackSaid : Prop := messageBackRow.holds Try.pinned (OpenSpec.ofChange messageBackSpec)

/-- ITS FALSE NEIGHBOUR: 'it returns false'. Refute it at one input. -/
def messageBackWrong : ChangeSpec := { name := "messageBack", fn := fun _ => fun
  | [d1, d2] => { results := [.lit (.bool false)], args := [d1, d2] }
  | _ => none }
def MessageBackWrongFalsely : Prop := messageBackRow.holds Try.pinned (OpenSpec.ofChange messageBackWrong)

/-- 'leatlaw20.MessageSizes': WHATEVER THE INPUT: true; the input reads as it did. -/
def messageSizesSpec : ChangeSpec := { name := "messageSizes", fn := fun _ => fun
  | [d1, d2, d3] => { results := [.lit (.bool true)], args := [d1, d2, d3] }
  | _ => none }
def messageSizesRow : OpenClaim := { program := "ytjihbjjekhncaaa", sum := "34ffb1c84b70c42cd2b73a72db4efbd553055ada02dcb0f3c84e5d3dff2b0470", func := "leat/leatlaw20.MessageSizes", spec := "messageSizes", unfollowed := true, recurses := true, plainKeys := false, apart := false }
def MessageSizesSaid : Prop := messageSizesRow.holds Try.pinned (OpenSpec.ofChange messageSizesSpec)

/-- ITS FALSE NEIGHBOUR: 'it returns false'. Refute it at one input. -/
def messageSizesWrong : ChangeSpec := { name := "messageSizes", fn := fun _ => fun
  | [d1, d2, d3] => { results := [.lit (.bool false)], args := [d1, d2, d3] }
  | _ => none }
def MessageSizesWrongFalsely : Prop := messageSizesRow.holds Try.pinned (OpenSpec.ofChange messageSizesWrong)

/-- 'leatlaw20.MessageOwn': WHATEVER THE INPUT: true; the input reads as it did. -/
def messageOwnSpec : ChangeSpec := { name := "messageOwn", fn := fun _ => fun
  | [d] => { results := [.lit (.bool true)], args := [d] }
  | _ => none }
def messageOwnRow : OpenClaim := { program := "ytjihbjjekhncaaa", sum := "34ffb1c84b70c42cd2b73a72db4efbd553055ada02dcb0f3c84e5d3dff2b0470", func := "leat/leatlaw20.MessageOwn", spec := "messageOwn", unfollowed := true, recurses := true, plainKeys := false, apart := false }
def MessageOwnSaid : Prop := messageOwnRow.holds Try.pinned (OpenSpec.ofChange messageOwnSpec)

/-- ITS FALSE NEIGHBOUR: 'it returns false'. Refute it at one input. -/
def messageOwnWrong : ChangeSpec := { name := "messageOwn", fn := fun _ => fun
  | [d] => { results := [.lit (.bool false)], args := [d] }
  | _ => none }
def MessageOwnWrongFalsely : Prop := messageOwnRow.holds Try.pinned (OpenSpec.ofChange messageOwnWrong)

/-- 'leatlaw23.NetNil': WHATEVER THE INPUT: true; the input reads as it did. -/
def netNilSpec : ChangeSpec := { name := "netNil", fn := fun _ => fun
  | [d1, d2] => { results := [.lit (.bool true)], args := [d1, d2] }
  | _ => none }
def netNilRow : OpenClaim := { program := "ytjihbjjekhncaaa", sum := "34ffb1c84b70c42cd2b73a72db4efbd553055ada02dcb0f3c84e5d3dff2b0470", func := "leat/leatlaw23.NetNil", spec := "netNil", plainKeys := false, apart := false }
def NetNilSaid : Prop := netNilRow.holds Try.pinned (OpenSpec.ofChange netNilSpec)

/-- ITS FALSE NEIGHBOUR: 'it returns false'. Refute it at one input. -/
def netNilWrong : ChangeSpec := { name := "netNil", fn := fun _ => fun
  | [d1, d2] => { results := [.lit (.bool false)], args := [d1, d2] }
  | _ => none }
def NetNilWrongFalsely : Prop := netNilRow.holds Try.pinned (OpenSpec.ofChange netNilWrong)

/-- 'leatlaw16.OriginNil': WHATEVER THE INPUT: true; the input reads as it did. -/
def originNilSpec : ChangeSpec := { name := "originNil", fn := fun _ => fun
  | [d1, d2, d3] => { results := [.lit (.bool true)], args := [d1, d2, d3] }
  | _ => none }
def originNilRow : OpenClaim := { program := "ytjihbjjekhncaaa", sum := "34ffb1c84b70c42cd2b73a72db4efbd553055ada02dcb0f3c84e5d3dff2b0470", func := "leat/leatlaw16.OriginNil", spec := "originNil", plainKeys := false, apart := false }
def OriginNilSaid : Prop := originNilRow.holds Try.pinned (OpenSpec.ofChange originNilSpec)

/-- ITS FALSE NEIGHBOUR: 'it returns false'. Refute it at one input. -/
def originNilWrong : ChangeSpec := { name := "originNil", fn := fun _ => fun
  | [d1, d2, d3] => { results := [.lit (.bool false)], args := [d1, d2, d3] }
  | _ => none }
def OriginNilWrongFalsely : Prop := originNilRow.holds Try.pinned (OpenSpec.ofChange originNilWrong)

/-- 'leatlaw15.HoldNil': WHATEVER THE INPUT: true; the input reads as it did. -/
def holdNilSpec : ChangeSpec := { name := "holdNil", fn := fun _ => fun
  | [d1, d2] => { results := [.lit (.bool true)], args := [d1, d2] }
  | _ => none }
def holdNilRow : OpenClaim := { program := "ytjihbjjekhncaaa", sum := "34ffb1c84b70c42cd2b73a72db4efbd553055ada02dcb0f3c84e5d3dff2b0470", func := "leat/leatlaw15.HoldNil", spec := "holdNil", unfollowed := true, recurses := true, plainKeys := false, apart := false }
def HoldNilSaid : Prop := holdNilRow.holds Try.pinned (OpenSpec.ofChange holdNilSpec)

/-- ITS FALSE NEIGHBOUR: 'it returns false'. Refute it at one input. -/
def holdNilWrong : ChangeSpec := { name := "holdNil", fn := fun _ => fun
  | [d1, d2] => { results := [.lit (.bool false)], args := [d1, d2] }
  | _ => none }
def HoldNilWrongFalsely : Prop := holdNilRow.holds Try.pinned (OpenSpec.ofChange holdNilWrong)

/- THE SECOND FORM. 'bulk': how many values and letters a reading holds, each counted each time it is reached (what is shared counts as often as it is met; a slice's spare places count too). A statement '..UptoSaid' is the law's where the arguments, and the package variables that the reading takes, are together of bulk at most 1048576: NARROWER than '..Said'. Prove '..Said' where nothing that the law and all that it calls make is longer than what came in: it says more and counts as full. Else prove '..UptoSaid'. A law counts once. -/
mutual
def uptoBulk {H : Type} : DataW H → Nat
  | .lit (.string bytes) => bytes.length + 1
  | .lit _ => 1
  | .nil => 1
  | .ptr d => uptoBulk d + 1
  | .slice elems spare => uptoBulkAll elems + uptoBulkAll spare + 1
  | .agg parts => uptoBulkAll parts + 1
  | .iface _ d => uptoBulk d + 1
  | .map entries => uptoBulkEntries entries + 1
  | .held _ => 1
def uptoBulkAll {H : Type} : List (DataW H) → Nat
  | [] => 0
  | d :: r => uptoBulk d + uptoBulkAll r
def uptoBulkEntries {H : Type} : List (Lit × DataW H) → Nat
  | [] => 0
  | x :: r => uptoBulkEntry x + uptoBulkEntries r
def uptoBulkEntry {H : Type} : Lit × DataW H → Nat
  | (.string bytes, d) => bytes.length + uptoBulk d + 1
  | (_, d) => uptoBulk d + 1
 end
def uptoSmall : (H : Type) → List (DataW H) → Bool := fun _ ds => decide (uptoBulkAll ds ≤ 1048576)
def OpenSpec.upto (s : _root_.Go.ChangeSpec) : _root_.Go.OpenSpec := { _root_.Go.OpenSpec.ofChange s with cond := some uptoSmall }

/-- 'leatlaw08.EventPlays', WHERE WHAT IT READS IS OF BULK AT MOST 1048576: true; the input reads as it did. -/
def eventPlaysUptoRow : OpenClaim := { program := "ytjihbjjekhncaaa", sum := "34ffb1c84b70c42cd2b73a72db4efbd553055ada02dcb0f3c84e5d3dff2b0470", func := "leat/leatlaw08.EventPlays", spec := "eventPlays", plainKeys := false, apart := false, narrowed := true }
def EventPlaysUptoSaid : Prop := eventPlaysUptoRow.holds Try.pinned (OpenSpec.upto eventPlaysSpec)

/-- 'leatlaw08.EventBack', WHERE WHAT IT READS IS OF BULK AT MOST 1048576: true; the input reads as it did. -/
def eventBackUptoRow : OpenClaim := { program := "ytjihbjjekhncaaa", sum := "34ffb1c84b70c42cd2b73a72db4efbd553055ada02dcb0f3c84e5d3dff2b0470", func := "leat/leatlaw08.EventBack", spec := "eventBack", plainKeys := false, apart := false, narrowed := true }
def EventBackUptoSaid : Prop := eventBackUptoRow.holds Try.pinned (OpenSpec.upto eventBackSpec)

/-- 'leatlaw08.EventIds', WHERE WHAT IT READS IS OF BULK AT MOST 1048576: true; the input reads as it did. -/
def eventIdsUptoRow : OpenClaim := { program := "ytjihbjjekhncaaa", sum := "34ffb1c84b70c42cd2b73a72db4efbd553055ada02dcb0f3c84e5d3dff2b0470", func := "leat/leatlaw08.EventIds", spec := "eventIds", plainKeys := false, apart := false, narrowed := true }
def EventIdsUptoSaid : Prop := eventIdsUptoRow.holds Try.pinned (OpenSpec.upto eventIdsSpec)

/-- 'leatlaw08.EventTurned', WHERE WHAT IT READS IS OF BULK AT MOST 1048576: true; the input reads as it did. -/
def eventTurnedUptoRow : OpenClaim := { program := "ytjihbjjekhncaaa", sum := "34ffb1c84b70c42cd2b73a72db4efbd553055ada02dcb0f3c84e5d3dff2b0470", func := "leat/leatlaw08.EventTurned", spec := "eventTurned", plainKeys := false, apart := false, narrowed := true }
def EventTurnedUptoSaid : Prop := eventTurnedUptoRow.holds Try.pinned (OpenSpec.upto eventTurnedSpec)

/-- 'leatlaw08.EventRows', WHERE WHAT IT READS IS OF BULK AT MOST 1048576: true; the input reads as it did. -/
def eventRowsUptoRow : OpenClaim := { program := "ytjihbjjekhncaaa", sum := "34ffb1c84b70c42cd2b73a72db4efbd553055ada02dcb0f3c84e5d3dff2b0470", func := "leat/leatlaw08.EventRows", spec := "eventRows", plainKeys := false, apart := false, narrowed := true }
def EventRowsUptoSaid : Prop := eventRowsUptoRow.holds Try.pinned (OpenSpec.upto eventRowsSpec)

/-- 'leatlaw20.MessagePlays', WHERE WHAT IT READS IS OF BULK AT MOST 1048576: true; the input reads as it did. -/
def messagePlaysUptoRow : OpenClaim := { program := "ytjihbjjekhncaaa", sum := "34ffb1c84b70c42cd2b73a72db4efbd553055ada02dcb0f3c84e5d3dff2b0470", func := "leat/leatlaw20.MessagePlays", spec := "messagePlays", unfollowed := true, recurses := true, plainKeys := false, apart := false, narrowed := true }
def MessagePlaysUptoSaid : Prop := messagePlaysUptoRow.holds Try.pinned (OpenSpec.upto messagePlaysSpec)

/-- 'leatlaw20.MessageBack', WHERE WHAT IT READS IS OF BULK AT MOST 1048576: true; the input reads as it did. -/
def messageBackUptoRow : OpenClaim := { program := "ytjihbjjekhncaaa", sum := "34ffb1c84b70c42cd2b73a72db4efbd553055ada02dcb0f3c84e5d3dff2b0470", func := "leat/leatlaw20.MessageBack", spec := "messageBack", unfollowed := true, recurses := true, plainKeys := false, apart := false, narrowed := true }
def MessageBackUptoSaid : Prop := messageBackUptoRow.holds Try.pinned (OpenSpec.upto messageBackSpec)

/-- 'leatlaw20.MessageSizes', WHERE WHAT IT READS IS OF BULK AT MOST 1048576: true; the input reads as it did. -/
def messageSizesUptoRow : OpenClaim := { program := "ytjihbjjekhncaaa", sum := "34ffb1c84b70c42cd2b73a72db4efbd553055ada02dcb0f3c84e5d3dff2b0470", func := "leat/leatlaw20.MessageSizes", spec := "messageSizes", unfollowed := true, recurses := true, plainKeys := false, apart := false, narrowed := true }
def MessageSizesUptoSaid : Prop := messageSizesUptoRow.holds Try.pinned (OpenSpec.upto messageSizesSpec)

/-- 'leatlaw20.MessageOwn', WHERE WHAT IT READS IS OF BULK AT MOST 1048576: true; the input reads as it did. -/
def messageOwnUptoRow : OpenClaim := { program := "ytjihbjjekhncaaa", sum := "34ffb1c84b70c42cd2b73a72db4efbd553055ada02dcb0f3c84e5d3dff2b0470", func := "leat/leatlaw20.MessageOwn", spec := "messageOwn", unfollowed := true, recurses := true, plainKeys := false, apart := false, narrowed := true }
def MessageOwnUptoSaid : Prop := messageOwnUptoRow.holds Try.pinned (OpenSpec.upto messageOwnSpec)

/-- 'leatlaw23.NetNil', WHERE WHAT IT READS IS OF BULK AT MOST 1048576: true; the input reads as it did. -/
def netNilUptoRow : OpenClaim := { program := "ytjihbjjekhncaaa", sum := "34ffb1c84b70c42cd2b73a72db4efbd553055ada02dcb0f3c84e5d3dff2b0470", func := "leat/leatlaw23.NetNil", spec := "netNil", plainKeys := false, apart := false, narrowed := true }
def NetNilUptoSaid : Prop := netNilUptoRow.holds Try.pinned (OpenSpec.upto netNilSpec)

/-- 'leatlaw16.OriginNil', WHERE WHAT IT READS IS OF BULK AT MOST 1048576: true; the input reads as it did. -/
def originNilUptoRow : OpenClaim := { program := "ytjihbjjekhncaaa", sum := "34ffb1c84b70c42cd2b73a72db4efbd553055ada02dcb0f3c84e5d3dff2b0470", func := "leat/leatlaw16.OriginNil", spec := "originNil", plainKeys := false, apart := false, narrowed := true }
def OriginNilUptoSaid : Prop := originNilUptoRow.holds Try.pinned (OpenSpec.upto originNilSpec)

/-- 'leatlaw15.HoldNil', WHERE WHAT IT READS IS OF BULK AT MOST 1048576: true; the input reads as it did. -/
def holdNilUptoRow : OpenClaim := { program := "ytjihbjjekhncaaa", sum := "34ffb1c84b70c42cd2b73a72db4efbd553055ada02dcb0f3c84e5d3dff2b0470", func := "leat/leatlaw15.HoldNil", spec := "holdNil", unfollowed := true, recurses := true, plainKeys := false, apart := false, narrowed := true }
def HoldNilUptoSaid : Prop := holdNilUptoRow.holds Try.pinned (OpenSpec.upto holdNilSpec)

end Rows
end Go.Proofs.Ytjihbjjekhncaaa
