/- The reference's leaves: bytes. -/
import Derived.Test.YtbcmjinifilamaaGreatDoorLeaf
import Derived.Lib.Hide
namespace Go.Proofs.YtbcmjinifilamaaGreatDoor
open Go.RowKit

def letterB (b : UInt8) : Bool := (decide ((97 : Int) ≤ (b.toNat : Int)) && decide ((b.toNat : Int) ≤ 122)) || (decide ((65 : Int) ≤ (b.toNat : Int)) && decide ((b.toNat : Int) ≤ 90))
theorem letter_eq (b : UInt8) : Lx.isLetter b = letterB b := by
  have h := all_u8 (p := fun b => decide (Lx.isLetter b = letterB b)) (by decide +kernel) b
  simpa using h

set_option maxRecDepth 100000 in
set_option maxHeartbeats 400000 in
theorem rletter_any (b : UInt8) (w : World) :
    Calls Tryz.prog 75 #[.int .u8 b.toNat] w fun e w' => e = .returned (.bool (Lx.isLetter b)) ∧ w' = w := by
  go_enter Tryz.func75, Tryz.ntmps75
  go_wp2
  all_goals
    go_ret
    refine ⟨?_, rfl⟩
    rw [letter_eq]
    refine congrArg (fun x => Ending.returned (Value.bool x)) ?_
    rw [Bool.eq_iff_iff]
    first
      | (simp [letterB]; done)
      | (simp [letterB]; omega)
      | (simp [letterB, *]; done)
      | (simp [letterB, *]; omega)

def digitB (b : UInt8) : Bool := decide ((48 : Int) ≤ (b.toNat : Int)) && decide ((b.toNat : Int) ≤ 57)
theorem digit_eq (b : UInt8) : Lx.isDigit b = digitB b := by
  have h := all_u8 (p := fun b => decide (Lx.isDigit b = digitB b)) (by decide +kernel) b
  simpa using h

set_option maxRecDepth 100000 in
set_option maxHeartbeats 400000 in
theorem rdigit_any (b : UInt8) (w : World) :
    Calls Tryz.prog 78 #[.int .u8 b.toNat] w fun e w' => e = .returned (.bool (Lx.isDigit b)) ∧ w' = w := by
  go_enter Tryz.func78, Tryz.ntmps78
  go_wp2
  all_goals
    go_ret
    refine ⟨?_, rfl⟩
    rw [digit_eq]
    refine congrArg (fun x => Ending.returned (Value.bool x)) ?_
    rw [Bool.eq_iff_iff]
    first
      | (simp [digitB]; done)
      | (simp [digitB]; omega)
      | (simp [digitB, *]; done)
      | (simp [digitB, *]; omega)

def blankB (b : UInt8) : Bool := ((b.toNat : Int) == 32) || ((b.toNat : Int) == 9) || ((b.toNat : Int) == 10) || ((b.toNat : Int) == 13)
theorem blank_eq (b : UInt8) : Lx.isBlank b = blankB b := by
  have h := all_u8 (p := fun b => decide (Lx.isBlank b = blankB b)) (by decide +kernel) b
  simpa using h

set_option maxRecDepth 100000 in
set_option maxHeartbeats 400000 in
theorem rblank_any (b : UInt8) (w : World) :
    Calls Tryz.prog 59 #[.int .u8 b.toNat] w fun e w' => e = .returned (.bool (Lx.isBlank b)) ∧ w' = w := by
  go_enter Tryz.func59, Tryz.ntmps59
  go_wp2
  all_goals
    go_ret
    refine ⟨?_, rfl⟩
    rw [blank_eq]
    refine congrArg (fun x => Ending.returned (Value.bool x)) ?_
    rw [Bool.eq_iff_iff]
    first
      | (simp [blankB]; done)
      | (simp [blankB]; omega)
      | (simp [blankB, *]; done)
      | (simp [blankB, *]; omega)

def symL : Lx.Bytes := [35, 36, 37, 38, 42, 43, 45, 46, 47, 60, 61, 62, 64, 92, 94, 126]
theorem sym_eq (b : UInt8) : Lx.isSymbol b = symL.contains b := by
  have h := all_u8 (p := fun b => decide (Lx.isSymbol b = symL.contains b)) (by decide +kernel) b
  simpa using h

set_option maxRecDepth 100000 in
set_option maxHeartbeats 800000 in
theorem rsymbol_any (b : UInt8) (w : World) :
    Calls Tryz.prog 81 #[.int .u8 b.toNat] w fun e w' => e = .returned (.bool (Lx.isSymbol b)) ∧ w' = w := by
  have hs : Hid (Lx.isSymbol b = symL.contains b) := Lib.hid (sym_eq b)
  go_enter Tryz.func81, Tryz.ntmps81
  go_wp2_with fail
  have hL : (#[35, 36, 37, 38, 42, 43, 45, 46, 47, 60, 61, 62, 64, 92, 94, 126] : Array UInt8) = symL.toArray := rfl
  rw [hL]
  have hn : symL.length = 16 := rfl
  generalize symL = L at *
  clear hL
  go_loop [4] (fun i => ∃ k : Nat, k ≤ L.length ∧ i = .int .i64 k ∧ b ∉ L.take k) (fun i => L.length - (intOf i).toNat)
  case atStart => exact ⟨0, Nat.zero_le _, rfl, by simp⟩
  case round =>
    obtain ⟨k, hk, rfl, hno⟩ := hrel
    have hn2 : L.length ≤ 16 := by omega
    have Hn := Lib.hid hn
    clear hn
    by_cases hlt : k < L.length
    · have hki : (k : Int) < (L.length : Int) := by omega
      have Hs := Lib.hid hs
      have hfound : (((⟨L.toArray⟩ : ByteArray)[k]'(by simpa [ByteArray.size] using hlt)).toNat : Int) = (b.toNat : Int) → L.contains b = true := by
        intro h
        have : L[k] = b := UInt8.toNat_inj.1 (by have h2 : (L[k].toNat : Int) = (b.toNat : Int) := h
                                                 omega)
        rw [← this, List.contains_iff_mem]
        exact List.getElem_mem hlt
      have hstep : ¬ (((⟨L.toArray⟩ : ByteArray)[k]'(by simpa [ByteArray.size] using hlt)).toNat : Int) = (b.toNat : Int) → b ∉ L.take (k + 1) := by
        intro h
        rw [List.take_succ_eq_append_getElem hlt, List.mem_append, not_or]
        refine ⟨hno, fun h2 => h ?_⟩
        rw [List.mem_singleton.1 h2]
        rfl
      have Hfound := Lib.hid hfound
      have Hstep := Lib.hid hstep
      clear hfound hstep
      cases hx : ((((⟨L.toArray⟩ : ByteArray)[k]'(by simpa [ByteArray.size] using hlt)).toNat : Int) == (b.toNat : Int))
      · have hnx := Hstep.out (by simpa using hx)
        have Hnx := Lib.hid hnx
        clear hnx
        go_wp2
        go_round
        case rel => exact ⟨k + 1, by omega, by go_num, Hnx.out⟩
        case measure => simp [intOf]; omega
      · have hyes := Hfound.out (by simpa using hx)
        have Hyes := Lib.hid hyes
        clear hyes
        go_wp2
        go_ret
        rw [hs.out, Hyes.out]
        exact ⟨rfl, rfl⟩
    · obtain rfl : k = L.length := by omega
      have hall : L.contains b = false := by
        rw [List.take_of_length_le (by omega)] at hno
        simpa using hno
      have Hall := Lib.hid hall
      clear hall
      go_wp2
      go_ret
      rw [hs.out, Hall.out]
      exact ⟨rfl, rfl⟩

set_option maxRecDepth 100000 in
set_option maxHeartbeats 800000 in
theorem rsymbols_any (L : Lx.Bytes) (hl : L.length ≤ 1000) (w : World) :
    Calls Tryz.prog 107 #[.string ⟨L.toArray⟩] w fun e w' => e = .returned (.bool (L.all Lx.isSymbol)) ∧ w' = w := by
  go_enter Tryz.func107, Tryz.ntmps107
  go_wp2_with fail
  go_loop [3] (fun i => ∃ k : Nat, k ≤ L.length ∧ i = .int .i64 k ∧ (L.take k).all Lx.isSymbol = true) (fun i => L.length - (intOf i).toNat)
  case atStart => exact ⟨0, Nat.zero_le _, rfl, by simp⟩
  case round =>
    obtain ⟨k, hk, rfl, hall⟩ := hrel
    have Hall := Lib.hid hall
    clear hall
    by_cases hlt : k < L.length
    · have hki : (k : Int) < (L.length : Int) := by omega
      have hst : (L.take (k + 1)).all Lx.isSymbol = Lx.isSymbol L[k] := by
        rw [List.take_succ_eq_append_getElem hlt, List.all_append, Hall.out]
        simp
      have hno : Lx.isSymbol L[k] = false → L.all Lx.isSymbol = false := by
        intro h
        rw [List.all_eq_false]
        exact ⟨_, List.getElem_mem hlt, by simp [h]⟩
      have hc : ∀ w, Calls Tryz.prog 81 #[.int .u8 ((⟨L.toArray⟩ : ByteArray)[k]'(by simpa [ByteArray.size] using hlt)).toNat] w fun e w' => e = .returned (.bool (Lx.isSymbol L[k])) ∧ w' = w := fun w => rsymbol_any L[k] w
      generalize Lx.isSymbol L[k] = r at *
      have Hst := Lib.hid hst
      have Hno := Lib.hid hno
      have Hc := Lib.hid hc
      clear hst hno hc
      go_wp2_with fail
      refine (Hc.out _).mono ?_
      rintro e w' ⟨rfl, rfl⟩
      cases r
      · have hn := Hno.out rfl
        have Hn := Lib.hid hn
        clear hn
        go_wp2
        go_ret
        rw [Hn.out]
        exact ⟨rfl, rfl⟩
      · have hn := Hst.out
        have Hn := Lib.hid hn
        clear hn
        go_wp2
        go_round
        case rel => exact ⟨k + 1, by omega, by go_num, Hn.out⟩
        case measure => simp [intOf]; omega
    · obtain rfl : k = L.length := by omega
      have hn : L.all Lx.isSymbol = true := by have := Hall.out; rwa [List.take_length] at this
      have Hn := Lib.hid hn
      clear hn
      go_wp2
      go_ret
      rw [Hn.out]
      exact ⟨rfl, rfl⟩

set_option maxRecDepth 100000 in
set_option maxHeartbeats 800000 in
theorem rbegins_any (l s : Lx.Bytes) (p : Nat) (r : Bool) (hl : l.length ≤ 1000000) (hs : s.length ≤ 1000000) (hp : p ≤ l.length) (hr : s.isPrefixOf (l.drop p) = r) (w : World) :
    Calls Tryz.prog 74 #[.string ⟨l.toArray⟩, .int .i64 p, .string ⟨s.toArray⟩] w fun e w' => e = .returned (.bool r) ∧ w' = w := by
  have hsub : (l.length : Int) - (p : Int) = ((l.length - p : Nat) : Int) := by omega
  by_cases hle : s.length ≤ l.length - p
  · have h1 : ((s.length : Nat) : Int) ≤ (l.length : Int) - (p : Int) := by omega
    have h2 : (p : Int) + (s.length : Int) ≤ (l.length : Int) := by omega
    have hex : (ByteArray.mk l.toArray).extract p (p + s.length) = ⟨((l.drop p).take s.length).toArray⟩ := by
      rw [Lib.extract_eq, show p + s.length - p = s.length by omega]
    have hrr : ((l.drop p).take s.length == s) = r := by
      rw [← hr, Bool.eq_iff_iff, List.isPrefixOf_iff_prefix, List.prefix_iff_eq_take]
      constructor
      · intro h; exact (eq_of_beq h).symm
      · intro h; rw [← h]; exact beq_self_eq_true _
    have Hrr := Lib.hid hrr
    clear hr hrr hsub
    go_enter Tryz.func74, Tryz.ntmps74
    go_wp2
    go_ret
    refine ⟨?_, rfl⟩
    rw [← Hrr.out]
    rfl
  · have h1 : ¬ ((s.length : Nat) : Int) ≤ (l.length : Int) - (p : Int) := by omega
    have hrr : r = false := by
      rw [← hr, Bool.eq_false_iff]
      intro h
      rw [List.isPrefixOf_iff_prefix] at h
      have := h.length_le
      rw [List.length_drop] at this
      omega
    subst hrr
    clear hr hsub
    go_enter Tryz.func74, Tryz.ntmps74
    go_wp2
    go_ret
    exact ⟨rfl, rfl⟩
end Go.Proofs.YtbcmjinifilamaaGreatDoor
