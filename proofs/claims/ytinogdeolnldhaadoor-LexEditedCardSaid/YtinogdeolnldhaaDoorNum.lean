/- The state of the scanner that cuts numbers. -/
import Derived.Test.YtinogdeolnldhaaDoorStep
import Derived.Lib.ConvBytes
namespace Go.Proofs.YtinogdeolnldhaaDoor
open Go.RowKit

theorem num_snoc (l : Lx.Bytes) (c : UInt8) : Lx.num (l ++ [c]) = Lx.num l * 10 + (c.toNat - 48) := by simp [Lx.num]
theorem num_le_append (l : Lx.Bytes) : ∀ r : Lx.Bytes, Lx.num l ≤ Lx.num (l ++ r) := by
  intro r
  induction r generalizing l with
  | nil => simp
  | cons c r ih =>
    have h := ih (l ++ [c])
    rw [List.append_assoc] at h
    refine Nat.le_trans ?_ h
    rw [num_snoc]; omega
theorem num_take (l : Lx.Bytes) (k : Nat) : Lx.num (l.take k) ≤ Lx.num l := by
  have := num_le_append (l.take k) (l.drop k)
  rwa [List.take_append_drop] at this
theorem num_take_succ (l : Lx.Bytes) (k : Nat) (h : k < l.length) : Lx.num (l.take (k + 1)) = Lx.num (l.take k) * 10 + (l[k].toNat - 48) := by
  rw [List.take_succ_eq_append_getElem h, num_snoc]

theorem digit_bounds (p : UInt8) (h : Lx.isDigit p = true) : 48 ≤ p.toNat ∧ p.toNat ≤ 57 := by
  simp [Lx.isDigit, UInt8.le_iff_toNat_le] at h
  exact h
theorem tw_all (p : UInt8 → Bool) (l : Lx.Bytes) : ∀ c ∈ l.takeWhile p, p c = true := by
  induction l with
  | nil => simp
  | cons x l ih =>
    intro c hc
    rw [List.takeWhile_cons] at hc
    split at hc
    · rcases List.mem_cons.1 hc with rfl | hc
      · assumption
      · exact ih c hc
    · simp at hc

set_option maxRecDepth 100000 in
set_option maxHeartbeats 800000 in
theorem cutNumber_ok (B : Nat) (w : World) (S : Scn) (h : Scan B w S) (hs : S.text.size ≤ 140737488351232) (hat : S.at_ ≤ S.text.size) (hn : (S.toks.length + 1) * 48 ≤ 140737488355328)
    (hv : Lx.num (S.rest.takeWhile Lx.isDigit) ≤ 2147483647) (hx : (S.rest.drop (S.rest.takeWhile Lx.isDigit).length).head?.any Lx.isInName = false) :
    Calls Tryd.prog 53 #[.pointer (some ⟨S.sb, 0, none⟩)] w (Fine B w S fun tv cv =>
      { S with tv := tv, cv := cv, at_ := S.at_ + (S.rest.takeWhile Lx.isDigit).length, toks := S.toks ++ [⟨3, Lx.num (S.rest.takeWhile Lx.isDigit), [], S.from_, S.at_ + (S.rest.takeWhile Lx.isDigit).length⟩] }) := by
  have hm : S.text.size ≤ maxLen := by unfold maxLen; omega
  have hl : (S.rest.takeWhile Lx.isDigit).length ≤ 140737488351232 := Nat.le_trans (tw_le _ _) (Nat.le_trans (rest_le S) hs)
  have hall := Lib.hid (tw_all Lx.isDigit S.rest)
  go_enter Tryd.func53, Tryd.ntmps53
  go_wp2_with fail
  refine (pass_any _ _ run_isDigit isDigit_any B _ S h hm hat).mono ?_
  rintro e w1 ⟨rfl, h1, h2⟩
  generalize hs0 : S.rest.takeWhile Lx.isDigit = l at *
  unfold str
  have hc := Lib.run_convert_string_bytes (P := Tryd.prog) w1 9 58 5 ⟨l.toArray⟩ Tryd.underlying9 Tryd.underlying58 Tryd.underlying5
  have hsz : (⟨l.toArray⟩ : ByteArray).size = l.length := by simp [ByteArray.size]
  have hcell : ∀ j, j < l.length → (Lib.bytesWorld w1 5 ⟨l.toArray⟩).cell? ⟨w1.heap.size, j, none⟩ = some (.int .u8 (l.getD j 0).toNat) := fun j hj => by
    rw [Lib.bytesWorld_cell w1 5 ⟨l.toArray⟩ j (by rw [hsz]; exact hj)]
  have hT : Turned w1 (Lib.bytesWorld w1 5 ⟨l.toArray⟩) (fun _ => False) := by
    have hos : (Lib.bytesWorld w1 5 ⟨l.toArray⟩).os = w1.os := by unfold Lib.bytesWorld World.freeze; split <;> rfl
    have hta : (Lib.bytesWorld w1 5 ⟨l.toArray⟩).tape = w1.tape := by unfold Lib.bytesWorld World.freeze; split <;> rfl
    have hou : (Lib.bytesWorld w1 5 ⟨l.toArray⟩).output = w1.output := by unfold Lib.bytesWorld World.freeze; split <;> rfl
    exact ⟨hos, hta, hou, by rw [Lib.bytesWorld_size]; omega, fun k hk _ => Lib.bytesWorld_at_old _ _ _ _ hk⟩
  have h3 := h1.turned hT (fun _ _ hf => hf)
  have g3 : Goes w S _ _ := ⟨h2.turned.trans hT (fun _ _ hf => hf.elim), h2.own⟩
  rw [hsz] at hc
  generalize grownCap w1 l.length 0 5 = cap at *
  generalize Lib.bytesWorld w1 5 ⟨l.toArray⟩ = W at *
  generalize w1.heap.size = H at *
  have Hcell := Lib.hid hcell
  clear hcell hT hsz
  have Hs0 := Lib.hid hs0
  clear hs0
  have hl2 : l.length ≤ 9223372036854775807 := by omega
  go_wp2_with fail
  go_loop [2, 9] (fun n i => ∃ k : Nat, k ≤ l.length ∧ i = .int .i64 k ∧ n = .int .i64 (Lx.num (l.take k))) (fun _ i => l.length - (intOf i).toNat)
  case atStart => exact ⟨0, Nat.zero_le _, rfl, by simp [Lx.num]⟩
  case round =>
    obtain ⟨k, hk, rfl, rfl⟩ := hrel
    have hk1 := num_take l k
    by_cases hlt : k < l.length
    · have hki : (k : Int) < (l.length : Int) := by omega
      have hc1 := Hcell.out k hlt
      have hd : Lx.isDigit l[k] = true := hall.out _ (List.getElem_mem hlt)
      have hb := digit_bounds _ hd
      have hns := num_take_succ l k hlt
      have hle := num_take l (k + 1)
      rw [List.getD_eq_getElem?_getD, List.getElem?_eq_getElem hlt, Option.getD_some] at hc1
      generalize l[k] = c at *
      obtain ⟨b1, b2⟩ := hb
      have b1' : 48 ≤ (c.toNat : Int) := by omega
      have b2' : (c.toNat : Int) ≤ 57 := by omega
      have HN : Hid (Lx.num (l.take (k + 1)) = Lx.num (l.take k) * 10 + (c.toNat - 48)) := hns
      have hub : ((Lx.num (l.take k) : Nat) : Int) * 10 + ((c.toNat : Int) - 48) ≤ 2147483647 := by omega
      generalize Lx.num (l.take k) = N0 at *
      clear hns hd b1 b2 hle
      go_wp2
      go_round
      case rel =>
        refine ⟨k + 1, by omega, by go_num, ?_⟩
        rw [HN.out]
        congr 1
        omega
      case measure => simp [intOf]; omega
    · obtain rfl : k = l.length := by omega
      have hk2 : ¬ (l.length : Int) < (l.length : Int) := by omega
      rw [List.take_length] at *
      have hN : ((Lx.num l : Nat) : Int) ≤ 2147483647 := by omega
      have d3 := h3.c3
      have d5 := h3.c5
      simp only at d3 d5
      have hE : S.at_ + l.length ≤ S.text.size := by
        have := tw_le Lx.isDigit S.rest
        rw [Hs0.out] at this
        have e : S.rest.length = S.text.size - S.at_ := by simp [Scn.rest]
        omega
      have hr := rest_at S l.length
      have hadd := fun (w' : World) (hw' : Scan B w' { S with at_ := S.at_ + l.length }) => add_ok B w' _ hw' ⟨3, Lx.num l, [], 0, 0⟩ (by simp) hn
      have Hadd := Lib.hid hadd
      clear hadd
      generalize hNe : Lx.num l = N at *
      generalize hm1 : S.at_ + l.length = m at *
      have HNe := Lib.hid hNe
      have Hm1 := Lib.hid hm1
      clear hNe hm1
      by_cases hlt2 : m < S.text.size
      · have hi : (m : Int) < (S.text.size : Int) := by omega
        have hnx : Lx.isInName S.text[m] = false := by
          have h5 := hr hlt2
          rw [← List.head?_drop] at h5
          rw [h5] at hx
          simpa using hx
        clear hr hx
        go_wp2_with fail
        go_quiet ((go_at_call 74; exact Calls.quiet_of_same (isInName_any _ _)))
        go_wp2_with fail
        refine (Hadd.out _ ((h3.drewN _))).mono ?_
        rintro e w2 ⟨rfl, v, h4, g4⟩
        go_wp2
        go_end0
        refine ⟨rfl, v, S.cv, ?_, ?_⟩
        · rw [Hs0.out, HNe.out, Hm1.out]; exact h4
        · rw [Hs0.out, HNe.out, Hm1.out]; exact (g3.drewN _).trans g4
      · clear hr hx
        have hd : decide ((m : Int) < (S.text.size : Int)) = false := by simp; omega
        go_wp2_with fail
        go_quiet (fail)
        go_wp2_with fail
        refine (Hadd.out _ ((h3.drewN _))).mono ?_
        rintro e w2 ⟨rfl, v, h4, g4⟩
        go_wp2
        go_end0
        refine ⟨rfl, v, S.cv, ?_, ?_⟩
        · rw [Hs0.out, HNe.out, Hm1.out]; exact h4
        · rw [Hs0.out, HNe.out, Hm1.out]; exact (g3.drewN _).trans g4
end Go.Proofs.YtinogdeolnldhaaDoor
