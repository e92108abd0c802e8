/-
  NARROWER THAN 'FOR EVERY INPUT', by the rows' own cells (each row's printed sentence says how): AllocMay: laid · AllocSees: laid · AllocTakes: laid · AllocLives: laid · AllocRoom: laid · AllocGives: laid.
  DERIVED. THE GIVEN ROWS OF THIS SEAT. 6 by the template 'for every input the law returns true; each argument reads behind the call as it read before'; 0 by the template 'total and deterministic' (their statements: YtaglhajlgnjhcaaDoorTotals.lean).
  GIVEN WITH THE SEED: the statements are not yours to turn. If you find one false, say at which input.
  Laid BY PROGRAM, IN A SANDBOX (cutbox-rows.mjs): the forced cells as the released guide's own fill.sh prints them over the translation 9c13ea9991323700… (all of the seat's roots in one cut). By AI agents, Wed Nov 11 2026. No macro, syntax, notation, axiom, sorry.
-/
import Derived.Test.YtaglhajlgnjhcaaDoorChecked
import GoSem.Claim
import GoSem.ClaimJoined
import GoSem.ClaimMapViews
import Derived.JoinedTies
import Derived.KernelRfl
namespace Go.Proofs.YtaglhajlgnjhcaaDoor
/- THE CELL 'sum', in the pinned program and in every row, IS THE sha256 OF THE DUMP (.gsa) THAT YtaglhajlgnjhcaaDoorProg.lean LOADS. Nothing in Lean hashes anything: it is a label: what it is worth is what the hold of that sum in a sandbox is worth. -/
noncomputable def Tryd.pinned : Pinned := { name := "ytaglhajlgnjhcaadoor", sum := "9c13ea9991323700bb2bdd07693d81512890eb8d778f175d5ff6cfc63cb60991", checked := Tryd.checked }
namespace Rows
def none {H : Type} : Left H := { results := [], args := [] }

/- WHAT THE LISTED PACKAGE-LEVEL VARIABLES READ AS WHEN THE CALL BEGINS. Each datum BY PROGRAM (the guide's laid-datum.mjs) off the statement by which the dump's own 'gosem.cut.vars' lays the variable. In a bare row this is a premise. The card (YtaglhajlgnjhcaaDoorCards.lean) ties it to the program's text. -/
def laid_windrose_alloc_fresh {H : Type} : DataW H := .agg [.lit (.int .i64 0), .lit (.bool true)]

/-- 'windroselaw02.AllocMay': WHATEVER THE INPUT: true; the input reads as it did. -/
def allocMaySpec : ChangeSpec := { name := "allocMay", fn := fun _ => fun
  | [d1, d2, d3] => { results := [.lit (.bool true)], args := [d1, d2, d3] }
  | _ => none }
def allocMayRow : OpenClaim := { program := "ytaglhajlgnjhcaadoor", sum := "9c13ea9991323700bb2bdd07693d81512890eb8d778f175d5ff6cfc63cb60991", func := "windrose/windroselaw02.AllocMay", spec := "allocMay", unfollowed := true, recurses := true, named := ["windrose/alloc.fresh"], apart := false, laid := [("windrose/alloc.fresh", laid_windrose_alloc_fresh)] }
def AllocMaySaid : Prop := allocMayRow.holds Tryd.pinned (OpenSpec.ofChange allocMaySpec)

/-- ITS FALSE NEIGHBOUR: 'it returns false'. Refute it at one input. -/
def allocMayWrong : ChangeSpec := { name := "allocMay", fn := fun _ => fun
  | [d1, d2, d3] => { results := [.lit (.bool false)], args := [d1, d2, d3] }
  | _ => none }
def AllocMayWrongFalsely : Prop := allocMayRow.holds Tryd.pinned (OpenSpec.ofChange allocMayWrong)

/-- 'windroselaw02.AllocSees': WHATEVER THE INPUT: true; the input reads as it did. -/
def allocSeesSpec : ChangeSpec := { name := "allocSees", fn := fun _ => fun
  | [d1, d2] => { results := [.lit (.bool true)], args := [d1, d2] }
  | _ => none }
def allocSeesRow : OpenClaim := { program := "ytaglhajlgnjhcaadoor", sum := "9c13ea9991323700bb2bdd07693d81512890eb8d778f175d5ff6cfc63cb60991", func := "windrose/windroselaw02.AllocSees", spec := "allocSees", unfollowed := true, recurses := true, named := ["windrose/alloc.fresh"], apart := false, laid := [("windrose/alloc.fresh", laid_windrose_alloc_fresh)] }
def AllocSeesSaid : Prop := allocSeesRow.holds Tryd.pinned (OpenSpec.ofChange allocSeesSpec)

/-- ITS FALSE NEIGHBOUR: 'it returns false'. Refute it at one input. -/
def allocSeesWrong : ChangeSpec := { name := "allocSees", fn := fun _ => fun
  | [d1, d2] => { results := [.lit (.bool false)], args := [d1, d2] }
  | _ => none }
def AllocSeesWrongFalsely : Prop := allocSeesRow.holds Tryd.pinned (OpenSpec.ofChange allocSeesWrong)

/-- 'windroselaw02.AllocTakes': WHATEVER THE INPUT: true; the input reads as it did. -/
def allocTakesSpec : ChangeSpec := { name := "allocTakes", fn := fun _ => fun
  | [d1, d2] => { results := [.lit (.bool true)], args := [d1, d2] }
  | _ => none }
def allocTakesRow : OpenClaim := { program := "ytaglhajlgnjhcaadoor", sum := "9c13ea9991323700bb2bdd07693d81512890eb8d778f175d5ff6cfc63cb60991", func := "windrose/windroselaw02.AllocTakes", spec := "allocTakes", unfollowed := true, recurses := true, named := ["windrose/alloc.fresh"], apart := false, laid := [("windrose/alloc.fresh", laid_windrose_alloc_fresh)] }
def AllocTakesSaid : Prop := allocTakesRow.holds Tryd.pinned (OpenSpec.ofChange allocTakesSpec)

/-- ITS FALSE NEIGHBOUR: 'it returns false'. Refute it at one input. -/
def allocTakesWrong : ChangeSpec := { name := "allocTakes", fn := fun _ => fun
  | [d1, d2] => { results := [.lit (.bool false)], args := [d1, d2] }
  | _ => none }
def AllocTakesWrongFalsely : Prop := allocTakesRow.holds Tryd.pinned (OpenSpec.ofChange allocTakesWrong)

/-- 'windroselaw02.AllocLives': WHATEVER THE INPUT: true; the input reads as it did. -/
def allocLivesSpec : ChangeSpec := { name := "allocLives", fn := fun _ => fun
  | [d1, d2] => { results := [.lit (.bool true)], args := [d1, d2] }
  | _ => none }
def allocLivesRow : OpenClaim := { program := "ytaglhajlgnjhcaadoor", sum := "9c13ea9991323700bb2bdd07693d81512890eb8d778f175d5ff6cfc63cb60991", func := "windrose/windroselaw02.AllocLives", spec := "allocLives", unfollowed := true, recurses := true, named := ["windrose/alloc.fresh"], apart := false, laid := [("windrose/alloc.fresh", laid_windrose_alloc_fresh)] }
def AllocLivesSaid : Prop := allocLivesRow.holds Tryd.pinned (OpenSpec.ofChange allocLivesSpec)

/-- ITS FALSE NEIGHBOUR: 'it returns false'. Refute it at one input. -/
def allocLivesWrong : ChangeSpec := { name := "allocLives", fn := fun _ => fun
  | [d1, d2] => { results := [.lit (.bool false)], args := [d1, d2] }
  | _ => none }
def AllocLivesWrongFalsely : Prop := allocLivesRow.holds Tryd.pinned (OpenSpec.ofChange allocLivesWrong)

/-- 'windroselaw02.AllocRoom': WHATEVER THE INPUT: true; the input reads as it did. -/
def allocRoomSpec : ChangeSpec := { name := "allocRoom", fn := fun _ => fun
  | [d] => { results := [.lit (.bool true)], args := [d] }
  | _ => none }
def allocRoomRow : OpenClaim := { program := "ytaglhajlgnjhcaadoor", sum := "9c13ea9991323700bb2bdd07693d81512890eb8d778f175d5ff6cfc63cb60991", func := "windrose/windroselaw02.AllocRoom", spec := "allocRoom", unfollowed := true, recurses := true, named := ["windrose/alloc.fresh"], apart := false, laid := [("windrose/alloc.fresh", laid_windrose_alloc_fresh)] }
def AllocRoomSaid : Prop := allocRoomRow.holds Tryd.pinned (OpenSpec.ofChange allocRoomSpec)

/-- ITS FALSE NEIGHBOUR: 'it returns false'. Refute it at one input. -/
def allocRoomWrong : ChangeSpec := { name := "allocRoom", fn := fun _ => fun
  | [d] => { results := [.lit (.bool false)], args := [d] }
  | _ => none }
def AllocRoomWrongFalsely : Prop := allocRoomRow.holds Tryd.pinned (OpenSpec.ofChange allocRoomWrong)

/-- 'windroselaw02.AllocGives': WHATEVER THE INPUT: true; the input reads as it did. -/
def allocGivesSpec : ChangeSpec := { name := "allocGives", fn := fun _ => fun
  | [d1, d2] => { results := [.lit (.bool true)], args := [d1, d2] }
  | _ => none }
def allocGivesRow : OpenClaim := { program := "ytaglhajlgnjhcaadoor", sum := "9c13ea9991323700bb2bdd07693d81512890eb8d778f175d5ff6cfc63cb60991", func := "windrose/windroselaw02.AllocGives", spec := "allocGives", unfollowed := true, recurses := true, named := ["windrose/alloc.fresh"], apart := false, laid := [("windrose/alloc.fresh", laid_windrose_alloc_fresh)] }
def AllocGivesSaid : Prop := allocGivesRow.holds Tryd.pinned (OpenSpec.ofChange allocGivesSpec)

/-- ITS FALSE NEIGHBOUR: 'it returns false'. Refute it at one input. -/
def allocGivesWrong : ChangeSpec := { name := "allocGives", fn := fun _ => fun
  | [d1, d2] => { results := [.lit (.bool false)], args := [d1, d2] }
  | _ => none }
def AllocGivesWrongFalsely : Prop := allocGivesRow.holds Tryd.pinned (OpenSpec.ofChange allocGivesWrong)

/- THE SECOND FORM. 'bulk': how many values and letters a reading holds, each counted each time it is reached (what is shared counts as often as it is met; a slice's spare places count too). A statement '..UptoSaid' is the law's where the arguments, and the package variables that the reading takes, are together of bulk at most 1048576: NARROWER than '..Said'. Prove '..Said' where nothing that the law and all that it calls make is longer than what came in: it says more and counts as full. Else prove '..UptoSaid'. A law counts once. -/
mutual
def uptoBulk {H : Type} : DataW H → Nat
  | .lit (.string bytes) => bytes.length + 1
  | .lit _ => 1
  | .nil => 1
  | .ptr d => uptoBulk d + 1
  | .slice elems spare => uptoBulkAll elems + uptoBulkAll spare + 1
  | .agg parts => uptoBulkAll parts + 1
  | .iface _ d => uptoBulk d + 1
  | .map entries => uptoBulkEntries entries + 1
  | .held _ => 1
def uptoBulkAll {H : Type} : List (DataW H) → Nat
  | [] => 0
  | d :: r => uptoBulk d + uptoBulkAll r
def uptoBulkEntries {H : Type} : List (Lit × DataW H) → Nat
  | [] => 0
  | x :: r => uptoBulkEntry x + uptoBulkEntries r
def uptoBulkEntry {H : Type} : Lit × DataW H → Nat
  | (.string bytes, d) => bytes.length + uptoBulk d + 1
  | (_, d) => uptoBulk d + 1
 end
def uptoSmall : (H : Type) → List (DataW H) → Bool := fun _ ds => decide (uptoBulkAll ds ≤ 1048576)
def OpenSpec.upto (s : _root_.Go.ChangeSpec) : _root_.Go.OpenSpec := { _root_.Go.OpenSpec.ofChange s with cond := some uptoSmall }

/-- 'windroselaw02.AllocMay', WHERE WHAT IT READS IS OF BULK AT MOST 1048576: true; the input reads as it did. -/
def allocMayUptoRow : OpenClaim := { program := "ytaglhajlgnjhcaadoor", sum := "9c13ea9991323700bb2bdd07693d81512890eb8d778f175d5ff6cfc63cb60991", func := "windrose/windroselaw02.AllocMay", spec := "allocMay", unfollowed := true, recurses := true, named := ["windrose/alloc.fresh"], apart := false, laid := [("windrose/alloc.fresh", laid_windrose_alloc_fresh)], narrowed := true }
def AllocMayUptoSaid : Prop := allocMayUptoRow.holds Tryd.pinned (OpenSpec.upto allocMaySpec)

/-- 'windroselaw02.AllocSees', WHERE WHAT IT READS IS OF BULK AT MOST 1048576: true; the input reads as it did. -/
def allocSeesUptoRow : OpenClaim := { program := "ytaglhajlgnjhcaadoor", sum := "9c13ea9991323700bb2bdd07693d81512890eb8d778f175d5ff6cfc63cb60991", func := "windrose/windroselaw02.AllocSees", spec := "allocSees", unfollowed := true, recurses := true, named := ["windrose/alloc.fresh"], apart := false, laid := [("windrose/alloc.fresh", laid_windrose_alloc_fresh)], narrowed := true }
def AllocSeesUptoSaid : Prop := allocSeesUptoRow.holds Tryd.pinned (OpenSpec.upto allocSeesSpec)

/-- 'windroselaw02.AllocTakes', WHERE WHAT IT READS IS OF BULK AT MOST 1048576: true; the input reads as it did. -/
def allocTakesUptoRow : OpenClaim := { program := "ytaglhajlgnjhcaadoor", sum := "9c13ea9991323700bb2bdd07693d81512890eb8d778f175d5ff6cfc63cb60991", func := "windrose/windroselaw02.AllocTakes", spec := "allocTakes", unfollowed := true, recurses := true, named := ["windrose/alloc.fresh"], apart := false, laid := [("windrose/alloc.fresh", laid_windrose_alloc_fresh)], narrowed := true }
def AllocTakesUptoSaid : Prop := allocTakesUptoRow.holds Tryd.pinned (OpenSpec.upto allocTakesSpec)

/-- 'windroselaw02.AllocLives', WHERE WHAT IT READS IS OF BULK AT MOST 1048576: true; the input reads as it did. -/
def allocLivesUptoRow : OpenClaim := { program := "ytaglhajlgnjhcaadoor", sum := "9c13ea9991323700bb2bdd07693d81512890eb8d778f175d5ff6cfc63cb60991", func := "windrose/windroselaw02.AllocLives", spec := "allocLives", unfollowed := true, recurses := true, named := ["windrose/alloc.fresh"], apart := false, laid := [("windrose/alloc.fresh", laid_windrose_alloc_fresh)], narrowed := true }
def AllocLivesUptoSaid : Prop := allocLivesUptoRow.holds Tryd.pinned (OpenSpec.upto allocLivesSpec)

/-- 'windroselaw02.AllocRoom', WHERE WHAT IT READS IS OF BULK AT MOST 1048576: true; the input reads as it did. -/
def allocRoomUptoRow : OpenClaim := { program := "ytaglhajlgnjhcaadoor", sum := "9c13ea9991323700bb2bdd07693d81512890eb8d778f175d5ff6cfc63cb60991", func := "windrose/windroselaw02.AllocRoom", spec := "allocRoom", unfollowed := true, recurses := true, named := ["windrose/alloc.fresh"], apart := false, laid := [("windrose/alloc.fresh", laid_windrose_alloc_fresh)], narrowed := true }
def AllocRoomUptoSaid : Prop := allocRoomUptoRow.holds Tryd.pinned (OpenSpec.upto allocRoomSpec)

/-- 'windroselaw02.AllocGives', WHERE WHAT IT READS IS OF BULK AT MOST 1048576: true; the input reads as it did. -/
def allocGivesUptoRow : OpenClaim := { program := "ytaglhajlgnjhcaadoor", sum := "9c13ea9991323700bb2bdd07693d81512890eb8d778f175d5ff6cfc63cb60991", func := "windrose/windroselaw02.AllocGives", spec := "allocGives", unfollowed := true, recurses := true, named := ["windrose/alloc.fresh"], apart := false, laid := [("windrose/alloc.fresh", laid_windrose_alloc_fresh)], narrowed := true }
def AllocGivesUptoSaid : Prop := allocGivesUptoRow.holds Tryd.pinned (OpenSpec.upto allocGivesSpec)

end Rows
end Go.Proofs.YtaglhajlgnjhcaaDoor
