/- The state of the scanner that cuts numbers: where it throws. -/
import Derived.Test.YtinogdeolnldhaaDoorNum
import Derived.Lib.ConvBytes
namespace Go.Proofs.YtinogdeolnldhaaDoor
open Go.RowKit

set_option maxRecDepth 100000 in
set_option maxHeartbeats 800000 in
theorem cutNumber_bad (B : Nat) (w : World) (S : Scn) (h : Scan B w S) (hs : S.text.size ≤ 140737488351232) (hat : S.at_ ≤ S.text.size)
    (hv : 2147483647 < Lx.num (S.rest.takeWhile Lx.isDigit) ∨ (S.rest.drop (S.rest.takeWhile Lx.isDigit).length).head?.any Lx.isInName = true) :
    Calls Tryd.prog 53 #[.pointer (some ⟨S.sb, 0, none⟩)] w (Thrown B w S) := by
  have hm : S.text.size ≤ maxLen := by unfold maxLen; omega
  have hl : (S.rest.takeWhile Lx.isDigit).length ≤ 140737488351232 := Nat.le_trans (tw_le _ _) (Nat.le_trans (rest_le S) hs)
  have hall := Lib.hid (tw_all Lx.isDigit S.rest)
  go_enter Tryd.func53, Tryd.ntmps53
  go_wp2_with fail
  refine (pass_any _ _ run_isDigit isDigit_any B _ S h hm hat).mono ?_
  rintro e w1 ⟨rfl, h1, h2⟩
  generalize hs0 : S.rest.takeWhile Lx.isDigit = l at *
  unfold str
  have hc := Lib.run_convert_string_bytes (P := Tryd.prog) w1 9 58 5 ⟨l.toArray⟩ Tryd.underlying9 Tryd.underlying58 Tryd.underlying5
  have hsz : (⟨l.toArray⟩ : ByteArray).size = l.length := by simp [ByteArray.size]
  have hcell : ∀ j, j < l.length → (Lib.bytesWorld w1 5 ⟨l.toArray⟩).cell? ⟨w1.heap.size, j, none⟩ = some (.int .u8 (l.getD j 0).toNat) := fun j hj => by
    rw [Lib.bytesWorld_cell w1 5 ⟨l.toArray⟩ j (by rw [hsz]; exact hj)]
  have hT : Turned w1 (Lib.bytesWorld w1 5 ⟨l.toArray⟩) (fun _ => False) := by
    have hos : (Lib.bytesWorld w1 5 ⟨l.toArray⟩).os = w1.os := by unfold Lib.bytesWorld World.freeze; split <;> rfl
    have hta : (Lib.bytesWorld w1 5 ⟨l.toArray⟩).tape = w1.tape := by unfold Lib.bytesWorld World.freeze; split <;> rfl
    have hou : (Lib.bytesWorld w1 5 ⟨l.toArray⟩).output = w1.output := by unfold Lib.bytesWorld World.freeze; split <;> rfl
    exact ⟨hos, hta, hou, by rw [Lib.bytesWorld_size]; omega, fun k hk _ => Lib.bytesWorld_at_old _ _ _ _ hk⟩
  have h3 := h1.turned hT (fun _ _ hf => hf)
  have g3 : Goes w S _ _ := ⟨h2.turned.trans hT (fun _ _ hf => hf.elim), h2.own⟩
  rw [hsz] at hc
  generalize grownCap w1 l.length 0 5 = cap at *
  generalize Lib.bytesWorld w1 5 ⟨l.toArray⟩ = W at *
  generalize w1.heap.size = H at *
  have Hcell := Lib.hid hcell
  clear hcell hT hsz
  have Hs0 := Lib.hid hs0
  clear hs0
  have Hv := Lib.hid hv
  clear hv
  have hl2 : l.length ≤ 9223372036854775807 := by omega
  go_wp2_with fail
  go_loop [2, 9] (fun n i => ∃ k : Nat, k ≤ l.length ∧ i = .int .i64 k ∧ n = .int .i64 (Lx.num (l.take k)) ∧ Lx.num (l.take k) ≤ 2147483647) (fun _ i => l.length - (intOf i).toNat)
  case atStart => exact ⟨0, Nat.zero_le _, rfl, by simp [Lx.num], by simp [Lx.num]⟩
  case round =>
    obtain ⟨k, hk, rfl, rfl, hmx⟩ := hrel
    by_cases hlt : k < l.length
    · have hki : (k : Int) < (l.length : Int) := by omega
      have hc1 := Hcell.out k hlt
      have hd : Lx.isDigit l[k] = true := hall.out _ (List.getElem_mem hlt)
      have hb := digit_bounds _ hd
      have hns := num_take_succ l k hlt
      have hle := num_take l (k + 1)
      rw [List.getD_eq_getElem?_getD, List.getElem?_eq_getElem hlt, Option.getD_some] at hc1
      generalize l[k] = c at *
      obtain ⟨b1, b2⟩ := hb
      have b1' : 48 ≤ (c.toNat : Int) := by omega
      have b2' : (c.toNat : Int) ≤ 57 := by omega
      have HN : Hid (Lx.num (l.take (k + 1)) = Lx.num (l.take k) * 10 + (c.toNat - 48)) := hns
      generalize Lx.num (l.take k) = N0 at *
      clear hns hd b1 b2 hle
      by_cases hub : ((N0 : Nat) : Int) * 10 + ((c.toNat : Int) - 48) ≤ 2147483647
      · go_wp2
        go_round
        case rel =>
          refine ⟨k + 1, by omega, by go_num, ?_, ?_⟩
          · rw [HN.out]
            congr 1
            omega
          · rw [HN.out]; omega
        case measure => simp [intOf]; omega
      · have hub' : 2147483647 < ((N0 : Nat) : Int) * 10 + ((c.toNat : Int) - 48) := by omega
        have hub2 : ((N0 : Nat) : Int) * 10 + ((c.toNat : Int) - 48) ≤ 21474836479 := by omega
        go_wp2_with (go_at_call 76; refine (throw_any B _ _ h3).mono ?_; rintro e w' ⟨rfl, rfl⟩)
        exact ⟨rfl, rfl, { S with at_ := S.at_ + l.length }, rfl, h3, g3⟩
    · obtain rfl : k = l.length := by omega
      have hk2 : ¬ (l.length : Int) < (l.length : Int) := by omega
      rw [List.take_length] at *
      have d3 := h3.c3
      have d5 := h3.c5
      simp only at d3 d5
      have hE : S.at_ + l.length ≤ S.text.size := by
        have := tw_le Lx.isDigit S.rest
        rw [Hs0.out] at this
        have e : S.rest.length = S.text.size - S.at_ := by simp [Scn.rest]
        omega
      have hr := rest_at S l.length
      have hx : (S.rest.drop l.length).head?.any Lx.isInName = true := by
        rcases Hv.out with h5 | h5
        · omega
        · exact h5
      rw [List.head?_drop] at hx
      have hlt2 : S.at_ + l.length < S.text.size := by
        rcases Nat.lt_or_ge (S.at_ + l.length) S.text.size with h5 | h5
        · exact h5
        · have e : S.rest[l.length]? = none := List.getElem?_eq_none (by simp [Scn.rest]; omega)
          rw [e] at hx; simp at hx
      have h5 := hr hlt2
      generalize Lx.num l = N at *
      generalize hm1 : S.at_ + l.length = m at *
      clear hm1
      have hi : (m : Int) < (S.text.size : Int) := by omega
      have hnx : Lx.isInName S.text[m] = true := by
        rw [h5] at hx
        simpa using hx
      clear hr hx h5
      go_wp2_with fail
      go_quiet ((go_at_call 74; exact Calls.quiet_of_same (isInName_any _ _)))
      go_wp2_with (go_at_call 76; refine (throw_any B _ _ (h3.drewN _)).mono ?_; rintro e w' ⟨rfl, rfl⟩)
      exact ⟨rfl, rfl, { S with at_ := m }, rfl, h3.drewN _, g3.drewN _⟩
end Go.Proofs.YtinogdeolnldhaaDoor
