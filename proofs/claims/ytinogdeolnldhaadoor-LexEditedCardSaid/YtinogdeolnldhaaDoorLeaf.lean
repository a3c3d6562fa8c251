/- The leaves: what a byte is. -/
import Derived.Test.YtinogdeolnldhaaDoorWorld
import Derived.Test.YtinogdeolnldhaaDoorShelf
namespace Go.Proofs.YtinogdeolnldhaaDoor
open Go.RowKit

theorem all_u8 {p : UInt8 → Bool} (h : (List.range 256).all (fun n => p n.toUInt8) = true) (b : UInt8) : p b = true := by
  have := List.all_eq_true.1 h b.toNat (List.mem_range.2 b.toNat_lt)
  simpa using this

def clsB (b : UInt8) : Int :=
  if 0 ≤ Lib.indexByte [32, 9, 10, 13] b then 0 else if (97 ≤ (b.toNat : Int) ∧ (b.toNat : Int) ≤ 122) ∨ (65 ≤ (b.toNat : Int) ∧ (b.toNat : Int) ≤ 90) then 1
  else if 48 ≤ (b.toNat : Int) ∧ (b.toNat : Int) ≤ 57 then 2 else if 0 ≤ Lib.indexByte [35, 36, 37, 38, 42, 43, 45, 46, 47, 60, 61, 62, 64, 92, 94, 126] b then 3 else 4

theorem classOf_eq (b : UInt8) : Lx.classOf b = clsB b := by
  have h := all_u8 (p := fun b => decide (Lx.classOf b = clsB b)) (by decide +kernel) b
  simpa using h

set_option maxRecDepth 100000 in
set_option maxHeartbeats 400000 in
theorem classOf_any (b : UInt8) (w : World) :
    Calls Tryd.prog 66 #[.int .u8 b.toNat] w fun e w' => e = .returned (.int .i64 (Lx.classOf b)) ∧ w' = w := by
  go_enter Tryd.func66, Tryd.ntmps66
  go_wp2_with (go_at_call 85; refine (Tryd.strings_IndexByte _ _ _).mono ?_; rintro e w' ⟨rfl, rfl⟩)
  all_goals
    go_ret
    refine ⟨?_, rfl⟩
    rw [classOf_eq]
    unfold clsB
    repeat' split
    all_goals first | rfl | omega

theorem cls_cases (b : UInt8) : Lx.classOf b = (if Lx.isBlank b then 0 else if Lx.isLetter b then 1 else if Lx.isDigit b then 2 else if Lx.isSymbol b then 3 else 4) := rfl

set_option maxRecDepth 100000 in
set_option maxHeartbeats 400000 in
theorem isBlank_any (b : UInt8) (w : World) :
    Calls Tryd.prog 72 #[.int .u8 b.toNat] w fun e w' => e = .returned (.bool (Lx.isBlank b)) ∧ w' = w := by
  have hb : (Lx.classOf b == 0) = Lx.isBlank b := by
    have h := all_u8 (p := fun b => decide ((Lx.classOf b == 0) = Lx.isBlank b)) (by decide +kernel) b
    simpa using h
  go_enter Tryd.func72, Tryd.ntmps72
  go_wp2_with (go_at_call 66; refine (classOf_any _ _).mono ?_; rintro e w' ⟨rfl, rfl⟩)
  go_ret
  exact ⟨by first | rfl | rw [← hb], rfl⟩

set_option maxRecDepth 100000 in
set_option maxHeartbeats 400000 in
theorem isDigit_any (b : UInt8) (w : World) :
    Calls Tryd.prog 75 #[.int .u8 b.toNat] w fun e w' => e = .returned (.bool (Lx.isDigit b)) ∧ w' = w := by
  have hb : (Lx.classOf b == 2) = Lx.isDigit b := by
    have h := all_u8 (p := fun b => decide ((Lx.classOf b == 2) = Lx.isDigit b)) (by decide +kernel) b
    simpa using h
  go_enter Tryd.func75, Tryd.ntmps75
  go_wp2_with (go_at_call 66; refine (classOf_any _ _).mono ?_; rintro e w' ⟨rfl, rfl⟩)
  go_ret
  exact ⟨by first | rfl | rw [← hb], rfl⟩

set_option maxRecDepth 100000 in
set_option maxHeartbeats 400000 in
theorem isSymbol_any (b : UInt8) (w : World) :
    Calls Tryd.prog 78 #[.int .u8 b.toNat] w fun e w' => e = .returned (.bool (Lx.isSymbol b)) ∧ w' = w := by
  have hb : (Lx.classOf b == 3) = Lx.isSymbol b := by
    have h := all_u8 (p := fun b => decide ((Lx.classOf b == 3) = Lx.isSymbol b)) (by decide +kernel) b
    simpa using h
  go_enter Tryd.func78, Tryd.ntmps78
  go_wp2_with (go_at_call 66; refine (classOf_any _ _).mono ?_; rintro e w' ⟨rfl, rfl⟩)
  go_ret
  exact ⟨by first | rfl | rw [← hb], rfl⟩

def inNameB (b : UInt8) : Bool := Lx.classOf b == 1 || Lx.classOf b == 2 || (b.toNat : Int) == 39
theorem inName_eq (b : UInt8) : Lx.isInName b = inNameB b := by
  have h := all_u8 (p := fun b => decide (Lx.isInName b = inNameB b)) (by decide +kernel) b
  simpa using h

set_option maxRecDepth 100000 in
set_option maxHeartbeats 400000 in
theorem isInName_any (b : UInt8) (w : World) :
    Calls Tryd.prog 74 #[.int .u8 b.toNat] w fun e w' => e = .returned (.bool (Lx.isInName b)) ∧ w' = w := by
  go_enter Tryd.func74, Tryd.ntmps74
  go_wp2_with (go_at_call 66; refine (classOf_any _ _).mono ?_; rintro e w' ⟨rfl, rfl⟩)
  all_goals
    go_ret
    refine ⟨?_, rfl⟩
    rw [inName_eq]
    simp [inNameB, *]
end Go.Proofs.YtinogdeolnldhaaDoor
