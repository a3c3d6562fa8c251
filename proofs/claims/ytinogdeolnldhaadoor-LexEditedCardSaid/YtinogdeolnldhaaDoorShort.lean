/- Whether texts are not too long to be looked at. -/
import Derived.Test.YtinogdeolnldhaaDoorRef
namespace Go.Proofs.YtinogdeolnldhaaDoor
open Go.RowKit

def sumLen (l : List Lx.Bytes) : Nat := (l.map List.length).sum

theorem sumLen_snoc (l : List Lx.Bytes) (k : Nat) (h : k < l.length) : sumLen (l.take (k + 1)) = sumLen (l.take k) + (l.getD k []).length := by
  unfold sumLen
  rw [List.take_succ_eq_append_getElem h, List.getD_eq_getElem?_getD, List.getElem?_eq_getElem h, List.map_append, List.sum_append]
  simp only [List.map_cons, List.map_nil, List.sum_cons, List.sum_nil, Nat.add_zero, Option.getD_some]

theorem sumLen_le (M : Nat) : ∀ l : List Lx.Bytes, (∀ s ∈ l, s.length ≤ M) → sumLen l ≤ l.length * M
  | [], _ => by simp [sumLen]
  | x :: l, h => by
    have h1 := sumLen_le M l (fun s hs => h s (List.mem_cons_of_mem _ hs))
    have h2 := h x List.mem_cons_self
    unfold sumLen at *
    simp only [List.map_cons, List.sum_cons, List.length_cons, Nat.add_mul]
    omega

set_option maxRecDepth 100000 in
set_option maxHeartbeats 800000 in
theorem short_any (b n : Nat) (l : List Lx.Bytes) (w : World) (hn : l.length = n) (hn2 : n ≤ 1000) (hb : b < w.heap.size) (hl : ∀ s ∈ l, s.length ≤ 140737488351232)
    (hc : ∀ j, j < n → w.cell? ⟨b, j, none⟩ = some (str (l.getD j []))) :
    Calls Tryd.prog 9 #[.slice (some ⟨b, 0, none⟩) n n] w fun e w' => e = .returned (.bool (decide (sumLen l ≤ 20000))) ∧ Turned w w' (fun _ => False) := by
  go_enter Tryd.func9, Tryd.ntmps9
  go_wp2
  go_loopw [3, 8] (fun m i wr => ∃ k : Nat, k ≤ n ∧ i = .int .i64 k ∧ m = .int .i64 (sumLen (l.take k) : Nat) ∧ Turned w wr (fun _ => False)) (fun _ i _ => n - (intOf i).toNat)
  case atStart => exact ⟨0, Nat.zero_le _, rfl, rfl, Turned.refl _ _⟩
  case round =>
    obtain ⟨k, hk, rfl, rfl, ht⟩ := hrel
    by_cases hlt : k < n
    · have hki : (k : Int) < (n : Int) := by omega
      have hlk : k < l.length := by omega
      have hx : wr.cell? ⟨b, k, none⟩ = some (.string ⟨(l.getD k []).toArray⟩) := (ht.cell (p := ⟨b, k, none⟩) hb (fun hf => hf)).trans (hc k hlt)
      have hbr : b < wr.heap.size := Nat.lt_of_lt_of_le hb ht.size
      have hs1 := sumLen_snoc l k hlk
      have hs2 := sumLen_le 140737488351232 (l.take k) (fun s hs => hl s (List.mem_of_mem_take hs))
      have hs3 : (l.getD k []).length ≤ 140737488351232 := by
        rw [List.getD_eq_getElem?_getD, List.getElem?_eq_getElem hlk]
        exact hl _ (List.getElem_mem hlk)
      have hs4 : (l.take k).length ≤ 1000 := by have := List.length_take_le k l; omega
      have hs5 : sumLen (l.take k) ≤ 1000 * 140737488351232 := Nat.le_trans hs2 (Nat.mul_le_mul_right _ hs4)
      clear hs2 hs4
      generalize l.getD k [] = x at *
      generalize sumLen (l.take k) = M at *
      have Hs1 := Lib.hid hs1
      have Hc := Lib.hid hc
      clear hs1 hc
      go_wp2
      go_roundw
      case rel => exact ⟨k + 1, by omega, by go_num, by rw [Hs1.out]; go_num, ht⟩
      case measure => simp [intOf]; omega
    · have hkn : k = n := by omega
      subst hkn
      have hall : l.take k = l := List.take_of_length_le (by omega)
      rw [hall]
      have Hc := Lib.hid hc
      clear hall hc
      go_wp2
      go_ret
      exact ⟨by simp; omega, ht⟩
end Go.Proofs.YtinogdeolnldhaaDoor
