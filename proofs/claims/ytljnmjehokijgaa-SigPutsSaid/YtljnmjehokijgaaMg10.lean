/- Parts of the proof, one behind the other. -/
import Derived.Laws.Bits64b
import Derived.Test.YtljnmjehokijgaaMg9

/- bits.Mul64, bits.Mul at 1 and a small number. -/
namespace Go.Proofs.Ytljnmjehokijgaa
open Go.RowKit

theorem and32_one : bits .and .u64 1 4294967295 = 1 := by
  have h := bits_and_u64_nat 1 4294967295 (by omega) (by omega)
  exact h.trans (by decide)

theorem and32_low (n : Nat) (hn : n < 4294967296) : bits .and .u64 (n : Int) 4294967295 = n := by
  have h := bits_and_u64_nat n 4294967295 (by omega) (by omega)
  refine h.trans ?_
  rw [show (4294967295 : Nat) = 2 ^ 32 - 1 from rfl, Nat.and_two_pow_sub_one_eq_mod]
  omega

theorem u64_small (n : Nat) (hn : n < 4294967296) : IntKind.u64.wrap (n : Int) = n := IntWalk.u64_in _ (by omega)

set_option maxRecDepth 100000 in
set_option maxHeartbeats 1600000 in
theorem mul64_one (n : Nat) (hn : n < 4294967296) (w : World) : Calls Try.prog 96 #[.int .u64 1, .int .u64 n] w fun e w' => e = .returned (.tuple #[.int .u64 0, .int .u64 n]) ∧ w = w' := by
  have h1 := and32_one
  have h2 := and32_low n hn
  have h3 : ((n : Int) / 4294967296) = 0 := by omega
  have h4 := u64_small n hn
  have h5 : IntKind.u64.wrap 0 = 0 := u64_small 0 (by omega)
  have h6 : bits .and .u64 0 4294967295 = 0 := and32_low 0 (by omega)
  go_enter Try.func96, Try.ntmps96
  go_wp2
  go_ret2
  exact ⟨rfl, rfl⟩

set_option maxRecDepth 100000 in
set_option maxHeartbeats 1600000 in
theorem mul_one' (n : Nat) (hn : n < 4294967296) (w : World) : Calls Try.prog 88 #[.int .u64 1, .int .u64 n] w fun e w' => e = .returned (.tuple #[.int .u64 0, .int .u64 n]) ∧ w = w' := by
  have Hm := Lib.hid (mul64_one n hn w)
  go_enter Try.func88, Try.ntmps88
  go_wp2_with fail
  refine Hm.out.mono ?_
  rintro e w' ⟨rfl, rfl⟩
  go_wp2
  go_ret2
  exact ⟨rfl, rfl⟩
end Go.Proofs.Ytljnmjehokijgaa
