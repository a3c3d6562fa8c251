/- Place. -/
import Derived.Test.YtinogdeolnldhaaDoorBuild
namespace Go.Proofs.YtinogdeolnldhaaDoor
open Go.RowKit

/-- The answer of Place. -/
def placeV (l : Lx.Bytes) (at_ : Int) : Value :=
  if at_ < 0 ∨ (l.length : Int) < at_ then .tuple #[.int .i64 0, .int .i64 0, .int .i64 1]
  else .tuple #[.int .i64 (Lib.countByte (l.take at_.toNat) 10 + 1), .int .i64 (at_ - Lib.lastIndexByte ⟨(l.take at_.toNat).toArray⟩ 10), .int .i64 0]

theorem lastIndexByte_le (s : ByteArray) (c : Int) : -1 ≤ Lib.lastIndexByte s c ∧ Lib.lastIndexByte s c < s.size := by
  unfold Lib.lastIndexByte
  rcases Lib.lastIdx_spec s c s.size with ⟨h, _⟩ | ⟨i, h1, h2, _⟩
  · omega
  · omega

set_option maxRecDepth 100000 in
set_option maxHeartbeats 1600000 in
theorem place_any (w : World) (l : Lx.Bytes) (hl : l.length ≤ 4000000000) (at_ : Int) :
    Calls Tryd.prog 26 #[.string ⟨l.toArray⟩, .int .i64 at_] w fun e w' => e = .returned (placeV l at_) ∧ Below w.heap.size w w' := by
  by_cases hin : at_ < 0 ∨ (l.length : Int) < at_
  · have hv : placeV l at_ = .tuple #[.int .i64 0, .int .i64 0, .int .i64 1] := by simp only [placeV, if_pos hin]
    rw [hv]
    clear hv
    rcases hin with hin | hin
    · go_enter Tryd.func26, Tryd.ntmps26
      go_wp2_with fail
      go_ret3
      exact ⟨rfl, Below.refl _ _⟩
    · have h0 : ¬ at_ < 0 := by omega
      go_enter Tryd.func26, Tryd.ntmps26
      go_wp2_with fail
      go_ret3
      exact ⟨rfl, Below.refl _ _⟩
  · obtain ⟨n, rfl⟩ : ∃ n : Nat, at_ = n := ⟨at_.toNat, by omega⟩
    have hn : n ≤ l.length := by omega
    have hv : placeV l n = .tuple #[.int .i64 (Lib.countByte (l.take n) 10 + 1), .int .i64 (n - Lib.lastIndexByte ⟨(l.take n).toArray⟩ 10), .int .i64 0] := by simp only [placeV, if_neg hin, Int.toNat_natCast]
    rw [hv]
    clear hv
    have h0 : ¬ (n : Int) < 0 := by omega
    have h1 : ¬ (l.length : Int) < n := by omega
    have hc : Lib.countByte (l.take n) 10 ≤ n := by
      have := List.count_le_length (a := (10 : UInt8)) (l := l.take n)
      have := List.length_take_le n l
      unfold Lib.countByte; omega
    have hb := lastIndexByte_le ⟨(l.take n).toArray⟩ 10
    have hz : (⟨(l.take n).toArray⟩ : ByteArray).size = n := by show (l.take n).toArray.size = n; simp; omega
    rw [hz] at hb
    generalize hC : Lib.countByte (l.take n) 10 = C at *
    generalize hI : Lib.lastIndexByte ⟨(l.take n).toArray⟩ 10 = I at *
    have hx : (ByteArray.mk l.toArray).extract 0 n = ⟨(l.take n).toArray⟩ := by
      apply ByteArray.ext
      simp [ByteArray.data_extract]
    have hC1 : ∀ w, Calls Tryd.prog 16 #[.string ((ByteArray.mk l.toArray).extract 0 n), .string ⟨#[10]⟩] w fun e w' => e = .returned (.int .i64 C) ∧ w' = w := fun w => by
      rw [hx, ← hC]; exact Tryd.strings_Count_one _ 10 w
    have hI1 : ∀ w, Calls Tryd.prog 49 #[.string ((ByteArray.mk l.toArray).extract 0 n), .int .u8 10] w fun e w' => e = .returned (.int .i64 I) ∧ w' = w := fun w => by
      rw [hx, ← hI]; exact Tryd.strings_LastIndexByte _ 10 (by rw [hz]; omega) w
    have HC1 := Lib.hid hC1
    have HI1 := Lib.hid hI1
    clear hC1 hI1 hx hC hI hz
    go_enter Tryd.func26, Tryd.ntmps26
    go_wp2_with (first | (go_at_call 16; refine (HC1.out _).mono ?_; rintro e w' ⟨rfl, rfl⟩) | (go_at_call 49; refine (HI1.out _).mono ?_; rintro e w' ⟨rfl, rfl⟩))
    all_goals go_ret3
    all_goals exact ⟨rfl, by first | exact Below.refl _ _ | exact Below.drewN _ _ _⟩
end Go.Proofs.YtinogdeolnldhaaDoor
