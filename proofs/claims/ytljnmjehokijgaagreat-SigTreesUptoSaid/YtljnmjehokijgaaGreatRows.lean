/-
  NARROWER THAN 'FOR EVERY INPUT', by the rows' own cells (each row's printed sentence says how): SigTrees: loops · SigPlaces: loops · SigMostGeneral: loops · SigPutSorts: loops · SigInstances: loops.
  DERIVED. THE GIVEN ROWS OF THIS SEAT. 5 by the template 'for every input the law returns true; each argument reads behind the call as it read before'; 0 by the template 'total and deterministic' (their statements: YtljnmjehokijgaaGreatTotals.lean).
  GIVEN WITH THE SEED: the statements are not yours to turn. If you find one false, say at which input.
  Laid BY PROGRAM, IN A SANDBOX (cutbox-rows.mjs): the forced cells as the released guide's own fill.sh prints them over the translation d5f6baa17e804509… (all of the seat's roots in one cut). By AI agents, Wed Nov 11 2026. No macro, syntax, notation, axiom, sorry.
-/
import Derived.Test.YtljnmjehokijgaaGreatChecked
import GoSem.Claim
import GoSem.ClaimJoined
import GoSem.ClaimMapViews
import Derived.JoinedTies
import Derived.KernelRfl
namespace Go.Proofs.YtljnmjehokijgaaGreat
/- THE CELL 'sum', in the pinned program and in every row, IS THE sha256 OF THE DUMP (.gsa) THAT YtljnmjehokijgaaGreatProg.lean LOADS. Nothing in Lean hashes anything: it is a label: what it is worth is what the hold of that sum in a sandbox is worth. -/
noncomputable def Tryz.pinned : Pinned := { name := "ytljnmjehokijgaagreat", sum := "d5f6baa17e80450930de16daca0f86662c1a52b94d5ba40ac7ca437557752f38", checked := Tryz.checked }
namespace Rows
def none {H : Type} : Left H := { results := [], args := [] }

/-- 'madrigallaw04.SigTrees': WHATEVER THE INPUT: true; the input reads as it did. -/
def sigTreesSpec : ChangeSpec := { name := "sigTrees", fn := fun _ => fun
  | [d1, d2, d3] => { results := [.lit (.bool true)], args := [d1, d2, d3] }
  | _ => none }
def sigTreesRow : OpenClaim := { program := "ytljnmjehokijgaagreat", sum := "d5f6baa17e80450930de16daca0f86662c1a52b94d5ba40ac7ca437557752f38", func := "madrigal/madrigallaw04.SigTrees", spec := "sigTrees", inPlace := ["internal/bytealg.IndexByteString", "internal/bytealg.IndexString", "internal/bytealg.CountString"], unfollowed := true, recurses := true, named := ["internal/bytealg.MaxLen"], loops := true, plainKeys := false, apart := false }
def SigTreesSaid : Prop := sigTreesRow.holds Tryz.pinned (OpenSpec.ofChange sigTreesSpec)

/-- ITS FALSE NEIGHBOUR: 'it returns false'. Refute it at one input. -/
def sigTreesWrong : ChangeSpec := { name := "sigTrees", fn := fun _ => fun
  | [d1, d2, d3] => { results := [.lit (.bool false)], args := [d1, d2, d3] }
  | _ => none }
def SigTreesWrongFalsely : Prop := sigTreesRow.holds Tryz.pinned (OpenSpec.ofChange sigTreesWrong)

/-- 'madrigallaw04.SigPlaces': WHATEVER THE INPUT: true; the input reads as it did. -/
def sigPlacesSpec : ChangeSpec := { name := "sigPlaces", fn := fun _ => fun
  | [d1, d2, d3, d4, d5] => { results := [.lit (.bool true)], args := [d1, d2, d3, d4, d5] }
  | _ => none }
def sigPlacesRow : OpenClaim := { program := "ytljnmjehokijgaagreat", sum := "d5f6baa17e80450930de16daca0f86662c1a52b94d5ba40ac7ca437557752f38", func := "madrigal/madrigallaw04.SigPlaces", spec := "sigPlaces", inPlace := ["internal/bytealg.IndexByteString", "internal/bytealg.IndexString", "internal/bytealg.CountString"], unfollowed := true, recurses := true, named := ["internal/bytealg.MaxLen"], loops := true, plainKeys := false, apart := false }
def SigPlacesSaid : Prop := sigPlacesRow.holds Tryz.pinned (OpenSpec.ofChange sigPlacesSpec)

/-- ITS FALSE NEIGHBOUR: 'it returns false'. Refute it at one input. -/
def sigPlacesWrong : ChangeSpec := { name := "sigPlaces", fn := fun _ => fun
  | [d1, d2, d3, d4, d5] => { results := [.lit (.bool false)], args := [d1, d2, d3, d4, d5] }
  | _ => none }
def SigPlacesWrongFalsely : Prop := sigPlacesRow.holds Tryz.pinned (OpenSpec.ofChange sigPlacesWrong)

/-- 'madrigallaw04.SigMostGeneral': WHATEVER THE INPUT: true; the input reads as it did. -/
def sigMostGeneralSpec : ChangeSpec := { name := "sigMostGeneral", fn := fun _ => fun
  | [d1, d2, d3] => { results := [.lit (.bool true)], args := [d1, d2, d3] }
  | _ => none }
def sigMostGeneralRow : OpenClaim := { program := "ytljnmjehokijgaagreat", sum := "d5f6baa17e80450930de16daca0f86662c1a52b94d5ba40ac7ca437557752f38", func := "madrigal/madrigallaw04.SigMostGeneral", spec := "sigMostGeneral", inPlace := ["internal/bytealg.IndexByteString", "internal/bytealg.IndexString", "internal/bytealg.CountString"], unfollowed := true, recurses := true, named := ["internal/bytealg.MaxLen"], loops := true, plainKeys := false, apart := false }
def SigMostGeneralSaid : Prop := sigMostGeneralRow.holds Tryz.pinned (OpenSpec.ofChange sigMostGeneralSpec)

/-- ITS FALSE NEIGHBOUR: 'it returns false'. Refute it at one input. -/
def sigMostGeneralWrong : ChangeSpec := { name := "sigMostGeneral", fn := fun _ => fun
  | [d1, d2, d3] => { results := [.lit (.bool false)], args := [d1, d2, d3] }
  | _ => none }
def SigMostGeneralWrongFalsely : Prop := sigMostGeneralRow.holds Tryz.pinned (OpenSpec.ofChange sigMostGeneralWrong)

/-- 'madrigallaw04.SigPutSorts': WHATEVER THE INPUT: true; the input reads as it did. -/
def sigPutSortsSpec : ChangeSpec := { name := "sigPutSorts", fn := fun _ => fun
  | [d1, d2] => { results := [.lit (.bool true)], args := [d1, d2] }
  | _ => none }
def sigPutSortsRow : OpenClaim := { program := "ytljnmjehokijgaagreat", sum := "d5f6baa17e80450930de16daca0f86662c1a52b94d5ba40ac7ca437557752f38", func := "madrigal/madrigallaw04.SigPutSorts", spec := "sigPutSorts", inPlace := ["internal/bytealg.IndexByteString", "internal/bytealg.IndexString", "internal/bytealg.CountString"], unfollowed := true, recurses := true, named := ["internal/bytealg.MaxLen"], loops := true, plainKeys := false, apart := false }
def SigPutSortsSaid : Prop := sigPutSortsRow.holds Tryz.pinned (OpenSpec.ofChange sigPutSortsSpec)

/-- ITS FALSE NEIGHBOUR: 'it returns false'. Refute it at one input. -/
def sigPutSortsWrong : ChangeSpec := { name := "sigPutSorts", fn := fun _ => fun
  | [d1, d2] => { results := [.lit (.bool false)], args := [d1, d2] }
  | _ => none }
def SigPutSortsWrongFalsely : Prop := sigPutSortsRow.holds Tryz.pinned (OpenSpec.ofChange sigPutSortsWrong)

/-- 'madrigallaw04.SigInstances': WHATEVER THE INPUT: true; the input reads as it did. -/
def sigInstancesSpec : ChangeSpec := { name := "sigInstances", fn := fun _ => fun
  | [d1, d2, d3] => { results := [.lit (.bool true)], args := [d1, d2, d3] }
  | _ => none }
def sigInstancesRow : OpenClaim := { program := "ytljnmjehokijgaagreat", sum := "d5f6baa17e80450930de16daca0f86662c1a52b94d5ba40ac7ca437557752f38", func := "madrigal/madrigallaw04.SigInstances", spec := "sigInstances", inPlace := ["internal/bytealg.IndexByteString", "internal/bytealg.IndexString", "internal/bytealg.CountString"], unfollowed := true, recurses := true, named := ["internal/bytealg.MaxLen"], loops := true, plainKeys := false, apart := false }
def SigInstancesSaid : Prop := sigInstancesRow.holds Tryz.pinned (OpenSpec.ofChange sigInstancesSpec)

/-- ITS FALSE NEIGHBOUR: 'it returns false'. Refute it at one input. -/
def sigInstancesWrong : ChangeSpec := { name := "sigInstances", fn := fun _ => fun
  | [d1, d2, d3] => { results := [.lit (.bool false)], args := [d1, d2, d3] }
  | _ => none }
def SigInstancesWrongFalsely : Prop := sigInstancesRow.holds Tryz.pinned (OpenSpec.ofChange sigInstancesWrong)

/- THE SECOND FORM. 'bulk': how many values and letters a reading holds, each counted each time it is reached (what is shared counts as often as it is met; a slice's spare places count too). A statement '..UptoSaid' is the law's where the arguments, and the package variables that the reading takes, are together of bulk at most 1048576: NARROWER than '..Said'. Prove '..Said' where nothing that the law and all that it calls make is longer than what came in: it says more and counts as full. Else prove '..UptoSaid'. A law counts once. -/
mutual
def uptoBulk {H : Type} : DataW H → Nat
  | .lit (.string bytes) => bytes.length + 1
  | .lit _ => 1
  | .nil => 1
  | .ptr d => uptoBulk d + 1
  | .slice elems spare => uptoBulkAll elems + uptoBulkAll spare + 1
  | .agg parts => uptoBulkAll parts + 1
  | .iface _ d => uptoBulk d + 1
  | .map entries => uptoBulkEntries entries + 1
  | .held _ => 1
def uptoBulkAll {H : Type} : List (DataW H) → Nat
  | [] => 0
  | d :: r => uptoBulk d + uptoBulkAll r
def uptoBulkEntries {H : Type} : List (Lit × DataW H) → Nat
  | [] => 0
  | x :: r => uptoBulkEntry x + uptoBulkEntries r
def uptoBulkEntry {H : Type} : Lit × DataW H → Nat
  | (.string bytes, d) => bytes.length + uptoBulk d + 1
  | (_, d) => uptoBulk d + 1
 end
def uptoSmall : (H : Type) → List (DataW H) → Bool := fun _ ds => decide (uptoBulkAll ds ≤ 1048576)
def OpenSpec.upto (s : _root_.Go.ChangeSpec) : _root_.Go.OpenSpec := { _root_.Go.OpenSpec.ofChange s with cond := some uptoSmall }

/-- 'madrigallaw04.SigTrees', WHERE WHAT IT READS IS OF BULK AT MOST 1048576: true; the input reads as it did. -/
def sigTreesUptoRow : OpenClaim := { program := "ytljnmjehokijgaagreat", sum := "d5f6baa17e80450930de16daca0f86662c1a52b94d5ba40ac7ca437557752f38", func := "madrigal/madrigallaw04.SigTrees", spec := "sigTrees", inPlace := ["internal/bytealg.IndexByteString", "internal/bytealg.IndexString", "internal/bytealg.CountString"], unfollowed := true, recurses := true, named := ["internal/bytealg.MaxLen"], loops := true, plainKeys := false, apart := false, narrowed := true }
def SigTreesUptoSaid : Prop := sigTreesUptoRow.holds Tryz.pinned (OpenSpec.upto sigTreesSpec)

/-- 'madrigallaw04.SigPlaces', WHERE WHAT IT READS IS OF BULK AT MOST 1048576: true; the input reads as it did. -/
def sigPlacesUptoRow : OpenClaim := { program := "ytljnmjehokijgaagreat", sum := "d5f6baa17e80450930de16daca0f86662c1a52b94d5ba40ac7ca437557752f38", func := "madrigal/madrigallaw04.SigPlaces", spec := "sigPlaces", inPlace := ["internal/bytealg.IndexByteString", "internal/bytealg.IndexString", "internal/bytealg.CountString"], unfollowed := true, recurses := true, named := ["internal/bytealg.MaxLen"], loops := true, plainKeys := false, apart := false, narrowed := true }
def SigPlacesUptoSaid : Prop := sigPlacesUptoRow.holds Tryz.pinned (OpenSpec.upto sigPlacesSpec)

/-- 'madrigallaw04.SigMostGeneral', WHERE WHAT IT READS IS OF BULK AT MOST 1048576: true; the input reads as it did. -/
def sigMostGeneralUptoRow : OpenClaim := { program := "ytljnmjehokijgaagreat", sum := "d5f6baa17e80450930de16daca0f86662c1a52b94d5ba40ac7ca437557752f38", func := "madrigal/madrigallaw04.SigMostGeneral", spec := "sigMostGeneral", inPlace := ["internal/bytealg.IndexByteString", "internal/bytealg.IndexString", "internal/bytealg.CountString"], unfollowed := true, recurses := true, named := ["internal/bytealg.MaxLen"], loops := true, plainKeys := false, apart := false, narrowed := true }
def SigMostGeneralUptoSaid : Prop := sigMostGeneralUptoRow.holds Tryz.pinned (OpenSpec.upto sigMostGeneralSpec)

/-- 'madrigallaw04.SigPutSorts', WHERE WHAT IT READS IS OF BULK AT MOST 1048576: true; the input reads as it did. -/
def sigPutSortsUptoRow : OpenClaim := { program := "ytljnmjehokijgaagreat", sum := "d5f6baa17e80450930de16daca0f86662c1a52b94d5ba40ac7ca437557752f38", func := "madrigal/madrigallaw04.SigPutSorts", spec := "sigPutSorts", inPlace := ["internal/bytealg.IndexByteString", "internal/bytealg.IndexString", "internal/bytealg.CountString"], unfollowed := true, recurses := true, named := ["internal/bytealg.MaxLen"], loops := true, plainKeys := false, apart := false, narrowed := true }
def SigPutSortsUptoSaid : Prop := sigPutSortsUptoRow.holds Tryz.pinned (OpenSpec.upto sigPutSortsSpec)

/-- 'madrigallaw04.SigInstances', WHERE WHAT IT READS IS OF BULK AT MOST 1048576: true; the input reads as it did. -/
def sigInstancesUptoRow : OpenClaim := { program := "ytljnmjehokijgaagreat", sum := "d5f6baa17e80450930de16daca0f86662c1a52b94d5ba40ac7ca437557752f38", func := "madrigal/madrigallaw04.SigInstances", spec := "sigInstances", inPlace := ["internal/bytealg.IndexByteString", "internal/bytealg.IndexString", "internal/bytealg.CountString"], unfollowed := true, recurses := true, named := ["internal/bytealg.MaxLen"], loops := true, plainKeys := false, apart := false, narrowed := true }
def SigInstancesUptoSaid : Prop := sigInstancesUptoRow.holds Tryz.pinned (OpenSpec.upto sigInstancesSpec)

end Rows
end Go.Proofs.YtljnmjehokijgaaGreat
