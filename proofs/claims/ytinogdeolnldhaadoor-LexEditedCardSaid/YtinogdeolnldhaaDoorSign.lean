/- The state of the scanner that cuts signs and comments. -/
import Derived.Test.YtinogdeolnldhaaDoorComBad
namespace Go.Proofs.YtinogdeolnldhaaDoor
open Go.RowKit

theorem hp_take (L : Lx.Bytes) : Lib.hasPrefix L [40, 42] = decide (L.take 2 = [40, 42]) := by
  match L with
  | [] => rfl
  | [x] => simp [Lib.hasPrefix, List.isPrefixOf]
  | x :: y :: r =>
    by_cases hx : x = 40
    · by_cases hy : y = 42
      · subst hx hy; simp [Lib.hasPrefix, List.isPrefixOf]
      · have : (42 == y) = false := by simpa using fun e => hy e.symm
        simp [Lib.hasPrefix, List.isPrefixOf, hy, this]
    · have : (40 == x) = false := by simpa using fun e => hx e.symm
      simp [Lib.hasPrefix, List.isPrefixOf, hx, this]

theorem signLen_min (L : Lx.Bytes) : Lx.signLen L 3 = Lx.signLen L (min 3 L.length) := by
  rcases Nat.lt_or_ge L.length 3 with h | h
  · rw [Nat.min_eq_right (by omega)]
    match L, h with
    | [], _ => simp [Lx.signLen]
    | [x], _ => simp [Lx.signLen]
    | [x, y], _ => simp [Lx.signLen]
  · rw [Nat.min_eq_left h]

/-- What the cut of a sign of n bytes leaves (none: 0). -/
def SignPost (B : Nat) (w : World) (S : Scn) (n : Nat) (e : Ending) (w' : World) : Prop :=
  if n = 0 then Thrown B w S e w' else Fine B w S (fun tv cv => { S with tv := tv, cv := cv, at_ := S.at_ + n, toks := S.toks ++ [⟨5, 0, S.rest.take n, S.from_, S.at_ + n⟩] }) e w'

theorem rest_text (S : Scn) : (S.text.extract S.at_ S.text.size) = ⟨S.rest.toArray⟩ := by
  rw [Lib.extract_eq, List.take_of_length_le (by simp)]
  rfl

set_option maxRecDepth 100000 in
set_option maxHeartbeats 800000 in
theorem cutSign_com (B : Nat) (w : World) (S : Scn) (h : Scan B w S) (hs : S.text.size ≤ 140737488351232) (hat : S.at_ ≤ S.text.size) (hn : (S.coms.length + 1) * 16 ≤ 140737488355328)
    (h1 : S.rest.take 2 = [40, 42]) (n : Nat) (hc : Lx.com 1 (S.rest.drop 2) = some n) :
    Calls Tryd.prog 55 #[.pointer (some ⟨S.sb, 0, none⟩)] w (Fine B w S fun tv cv =>
      { S with tv := tv, cv := cv, at_ := S.at_ + 2 + n, coms := S.coms ++ [(S.from_, S.at_ + 2 + n)] }) := by
  have c5 := h.c5
  have c3 := h.c3
  have i1 : (S.at_ : Int) ≤ (S.text.size : Int) := by omega
  have hp : Lib.hasPrefix S.rest [40, 42] = true := by rw [hp_take, h1]; simp
  have hat2 : S.at_ + 2 ≤ S.text.size := by
    have := congrArg List.length h1
    simp [Scn.rest] at this
    omega
  have Hc := Lib.hid hc
  clear hc h1
  go_enter Tryd.func55, Tryd.ntmps55
  go_wp2_with fail
  go_quiet (fail)
  rw [rest_text]
  go_wp2_with (first | (go_at_call 11; refine (Tryd.strings_HasPrefix _ _ _).mono ?_; rintro e w' ⟨rfl, rfl⟩) | (go_at_call 79; refine (cutComment_ok B _ S (h.drewN _) hs hat2 hn n Hc.out).mono ?_; rintro e w' ⟨rfl, tv, cv, h4, g4⟩))
  go_end0
  exact ⟨rfl, tv, cv, h4, ((Goes.refl w S).drewN _).trans g4⟩

set_option maxRecDepth 100000 in
set_option maxHeartbeats 800000 in
theorem cutSign_comBad (B : Nat) (w : World) (S : Scn) (h : Scan B w S) (hs : S.text.size ≤ 140737488351232) (hat : S.at_ ≤ S.text.size)
    (h1 : S.rest.take 2 = [40, 42]) (hc : Lx.com 1 (S.rest.drop 2) = none) :
    Calls Tryd.prog 55 #[.pointer (some ⟨S.sb, 0, none⟩)] w (Thrown B w S) := by
  have c5 := h.c5
  have c3 := h.c3
  have i1 : (S.at_ : Int) ≤ (S.text.size : Int) := by omega
  have hp : Lib.hasPrefix S.rest [40, 42] = true := by rw [hp_take, h1]; simp
  have hat2 : S.at_ + 2 ≤ S.text.size := by
    have := congrArg List.length h1
    simp [Scn.rest] at this
    omega
  have Hc := Lib.hid hc
  clear hc h1
  go_enter Tryd.func55, Tryd.ntmps55
  go_wp2_with fail
  go_quiet (fail)
  rw [rest_text]
  go_wp2_with (first | (go_at_call 11; refine (Tryd.strings_HasPrefix _ _ _).mono ?_; rintro e w' ⟨rfl, rfl⟩) | (go_at_call 79; refine (cutComment_bad B _ S (h.drewN _) hs hat2 Hc.out).mono ?_; rintro e w' ⟨rfl, S', h3, h4, h5⟩))
  exact ⟨rfl, rfl, S', h3, h4, ((Goes.refl w S).drewN _).trans h5⟩

set_option maxRecDepth 100000 in
set_option maxHeartbeats 1600000 in
theorem cutSign_tok (B : Nat) (w : World) (S : Scn) (h : Scan B w S) (hs : S.text.size ≤ 140737488351232) (hat : S.at_ ≤ S.text.size) (hn : (S.toks.length + 1) * 48 ≤ 140737488355328)
    (h1 : ¬ S.rest.take 2 = [40, 42]) (n : Nat) (h2 : Lx.signLen S.rest 3 = n) :
    Calls Tryd.prog 55 #[.pointer (some ⟨S.sb, 0, none⟩)] w (SignPost B w S n) := by
  have c5 := h.c5
  have c3 := h.c3
  have i1 : (S.at_ : Int) ≤ (S.text.size : Int) := by omega
  have hp : Lib.hasPrefix S.rest [40, 42] = false := by rw [hp_take]; simpa using h1
  have H2 := Lib.hid h2
  clear h1 h2
  have hl2 : (S.rest.length : Int) ≤ 140737488351232 := by have := rest_le S; omega
  go_enter Tryd.func55, Tryd.ntmps55
  go_wp2_with fail
  go_quiet (fail)
  rw [rest_text]
  generalize hL : S.rest = L at *
  have HL := Lib.hid hL
  clear hL
  go_wp2_with (go_at_call 11; refine (Tryd.strings_HasPrefix _ _ _).mono ?_; rintro e w' ⟨rfl, rfl⟩)
  go_loopw [3] (fun z wr => ∃ k : Nat, z = .int .i64 k ∧ k ≤ L.length ∧ k ≤ 3 ∧ Lx.signLen L k = n ∧ Scan B wr S ∧ Goes w S wr S) (fun z _ => (intOf z).toNat)
  case atStart =>
    refine ⟨min 3 L.length, by congr 1; omega, by omega, by omega, ?_, h.drewN _, (Goes.refl w S).drewN _⟩
    rw [← signLen_min]; exact H2.out
  case round =>
    obtain ⟨k, rfl, hk1, hk3, hk, hsc, hgo⟩ := hrel
    have Hk := Lib.hid hk
    clear hk c5 c3
    have d1 := hsc.c1
    have d5 := hsc.c5
    have f5 := hsc.frozenAt 5
    have hat3 : (S.at_ : Int) ≤ 140737488351232 := by omega
    by_cases hk0 : 0 < k
    · obtain ⟨j, rfl⟩ : ∃ j, k = j + 1 := ⟨k - 1, by omega⟩
      have hlk := fun q => (hsc.drewN q).signs.look (L.take (j + 1)) (by simp [maxLen]; omega)
      have hex : (⟨L.toArray⟩ : ByteArray).extract 0 (j + 1) = ⟨(L.take (j + 1)).toArray⟩ := by rw [Lib.extract_eq]; simp
      have hlk2 : ∀ q, (Instr.lookup 59 (.map (some S.ms)) (.string ((⟨L.toArray⟩ : ByteArray).extract 0 (j + 1))) false).run Tryd.prog (wr.drewN q) = .ok (.bool (Lx.signs.contains (L.take (j + 1)))) (wr.drewN q) := fun q => by rw [hex]; exact hlk q
      have kk : (j : Int) + 1 ≤ (L.length : Int) := by omega
      have kk3 : (j : Int) + 1 ≤ 3 := by omega
      have Hex := Lib.hid hex
      clear hlk hex
      go_wp2_with fail
      go_quiet (fail)
      have e1 : ((S.at_ + (j + 1) : Nat) : Int) = (S.at_ : Int) + ((j : Int) + 1) := by omega
      have hs2 := (hsc.drewN nq).setAt (S.at_ + (j + 1))
      have g2 := (hgo.drewN nq).trans (Goes.setAt _ _ (S.at_ + (j + 1)))
      rw [e1] at hs2 g2
      clear e1
      go_wp2_with fail
      · rw [Hex.out]
        have hin : Lx.signs.contains (L.take (j + 1)) = true := by simpa using ‹List.take (j + 1) L ∈ Lx.signs›
        refine (add_ok B _ _ hs2 ⟨5, 0, L.take (j + 1), 0, 0⟩ (by simp; omega) hn).mono ?_
        rintro e w' ⟨rfl, v, h4, g4⟩
        go_wp2
        go_end0
        have hn1 : j + 1 = n := by
          have := Hk.out
          rw [Lx.signLen, hin] at this
          simpa [show j + 1 ≤ L.length by omega] using this
        show SignPost B w S n _ _
        unfold SignPost
        rw [if_neg (by omega), HL.out]
        subst hn1
        exact ⟨rfl, v, S.cv, h4, g2.trans g4⟩
      · have hin : Lx.signs.contains (L.take (j + 1)) = false := by simpa using ‹¬ List.take (j + 1) L ∈ Lx.signs›
        clear hs2 g2
        go_wp2
        go_roundw
        case rel =>
          refine ⟨j, by go_num, by omega, by omega, ?_, hsc.drewN _, hgo.drewN _⟩
          have := Hk.out
          rw [Lx.signLen, hin] at this
          simpa using this
        case measure => simp [intOf]
    · obtain rfl : k = 0 := by omega
      go_wp2_with (go_at_call 76; refine (throw_any B _ _ hsc).mono ?_; rintro e w' ⟨rfl, rfl⟩)
      show _ ∧ SignPost B w S n _ _
      unfold SignPost
      rw [if_pos (show n = 0 from Hk.out.symm)]
      exact ⟨rfl, rfl, S, rfl, hsc, hgo⟩
end Go.Proofs.YtinogdeolnldhaaDoor
