/- The scanner passes a comment that has no end. -/
import Derived.Test.YtinogdeolnldhaaDoorCom
namespace Go.Proofs.YtinogdeolnldhaaDoor
open Go.RowKit

set_option maxRecDepth 100000 in
set_option maxHeartbeats 1600000 in
theorem cutComment_bad (B : Nat) (w : World) (S : Scn) (h : Scan B w S) (hs : S.text.size ≤ 140737488351232) (hat : S.at_ + 2 ≤ S.text.size)
    (hc : Lx.com 1 (S.rest.drop 2) = none) :
    Calls Tryd.prog 79 #[.pointer (some ⟨S.sb, 0, none⟩)] w (Thrown B w S) := by
  have Hc := Lib.hid hc
  clear hc
  have c5 := h.c5
  have f5 := h.frozenAt 5
  have hb1 : (S.at_ : Int) + 2 ≤ 140737488351232 := by omega
  go_enter Tryd.func79, Tryd.ntmps79
  go_wp2
  go_loopw [2] (fun o wr => ∃ d m : Nat, o = .int .i64 d ∧ d ≤ m ∧ S.at_ + 2 ≤ m ∧ m ≤ S.text.size ∧ Scan B wr { S with at_ := m } ∧ Goes w S wr { S with at_ := m } ∧ (none : Option Nat) = (comD d (S.text.data.toList.drop m)).map (· + (m - (S.at_ + 2))))
    (fun _ wr => S.text.size - cellNat wr S.sb 5)
  case atStart =>
    refine ⟨1, S.at_ + 2, rfl, by omega, Nat.le_refl _, hat, ?_, ?_, ?_⟩
    · have := h.setAt (S.at_ + 2)
      rwa [show ((S.at_ + 2 : Nat) : Int) = (S.at_ : Int) + 2 from by simp] at this
    · have := Goes.setAt w S (S.at_ + 2)
      rwa [show ((S.at_ + 2 : Nat) : Int) = (S.at_ : Int) + 2 from by simp] at this
    · have := Hc.out
      unfold Scn.rest at this
      rw [List.drop_drop] at this
      simp [comD, this]
  case round =>
    obtain ⟨d, m, rfl, hdm, hm0, hm1, hsc, hgo, hres⟩ := hrel
    have Hres := Lib.hid hres
    clear c5 f5 hres
    have d5 := hsc.c5
    have d3 := hsc.c3
    have f5 := hsc.frozenAt 5
    simp only at d5 d3 f5
    by_cases hd : 0 < d
    · have hdi : 0 < (d : Int) := by omega
      have i1 : (m : Int) ≤ (S.text.size : Int) := by omega
      have hdm' : (d : Int) ≤ 140737488351232 := by omega
      go_wp2_with fail
      go_quiet (fail)
      rw [Lib.extract_eq, List.take_of_length_le (by simp)]
      generalize hL : S.text.data.toList.drop m = L
      have HL := Lib.hid hL
      clear hL
      have hlen : L.length = S.text.size - m := by rw [← HL.out]; simp
      cases h0 : L.isEmpty
      · cases h1 : Lib.hasPrefix L [40, 42]
        · cases h2 : Lib.hasPrefix L [42, 41]
          · have hL1 : m + 1 ≤ S.text.size := by
              have : L ≠ [] := by intro e; rw [e] at h0; simp at h0
              have := List.length_pos_iff.2 this
              omega
            clear hlen
            go_wp2_with (go_at_call 11; refine (Tryd.strings_HasPrefix _ _ _).mono ?_; rintro e w' ⟨rfl, rfl⟩)
            go_roundw
            case rel =>
              rw [← HL.out] at h0 h1 h2
              refine ⟨d, m + 1, by go_num, by omega, by omega, by omega, (hsc.drewN _).setAt (m + 1), (hgo.drewN _).trans (Goes.setAt _ _ (m + 1)), ?_⟩
              exact round_one hd hm0 Hres.out h0 h1 h2
            case measure =>
              have a1 := ((hsc.drewN nq).setAt (m + 1)).nat5
              have a2 := hsc.nat5
              simp only at a1 a2
              rw [show (Value.int .i64 ((m : Int) + 1)) = Value.int .i64 ((m + 1 : Nat) : Int) from by simp, a1, a2]
              omega
          · have hL1 : m + 2 ≤ S.text.size := by
              have := hp2_len _ _ _ h2
              omega
            clear hlen
            go_wp2_with (go_at_call 11; refine (Tryd.strings_HasPrefix _ _ _).mono ?_; rintro e w' ⟨rfl, rfl⟩)
            go_roundw
            case rel =>
              rw [← HL.out] at h2
              refine ⟨d - 1, m + 2, by (congr 1; omega), by omega, by omega, by omega, (hsc.drewN _).setAt (m + 2), (hgo.drewN _).trans (Goes.setAt _ _ (m + 2)), ?_⟩
              exact round_close hd hm0 Hres.out h2
            case measure =>
              have a1 := ((hsc.drewN nq).setAt (m + 2)).nat5
              have a2 := hsc.nat5
              simp only at a1 a2
              rw [show (Value.int .i64 ((m : Int) + 2)) = Value.int .i64 ((m + 2 : Nat) : Int) from by simp, a1, a2]
              omega
        · have hL1 : m + 2 ≤ S.text.size := by
            have := hp2_len _ _ _ h1
            omega
          clear hlen
          go_wp2_with (go_at_call 11; refine (Tryd.strings_HasPrefix _ _ _).mono ?_; rintro e w' ⟨rfl, rfl⟩)
          go_roundw
          case rel =>
            rw [← HL.out] at h1
            refine ⟨d + 1, m + 2, by go_num, by omega, by omega, by omega, (hsc.drewN _).setAt (m + 2), (hgo.drewN _).trans (Goes.setAt _ _ (m + 2)), ?_⟩
            exact round_open hd hm0 Hres.out h1
          case measure =>
            have a1 := ((hsc.drewN nq).setAt (m + 2)).nat5
            have a2 := hsc.nat5
            simp only at a1 a2
            rw [show (Value.int .i64 ((m : Int) + 2)) = Value.int .i64 ((m + 2 : Nat) : Int) from by simp, a1, a2]
            omega
      · go_wp2_with (first | (go_at_call 11; refine (Tryd.strings_HasPrefix _ _ _).mono ?_; rintro e w' ⟨rfl, rfl⟩) | (go_at_call 76; refine (throw_any B _ _ (hsc.drewN _)).mono ?_; rintro e w' ⟨rfl, rfl⟩))
        exact ⟨rfl, rfl, { S with at_ := m }, rfl, hsc.drewN _, hgo.drewN _⟩
    · exfalso
      obtain rfl : d = 0 := by omega
      have h5 := Hres.out
      simp [comD] at h5
end Go.Proofs.YtinogdeolnldhaaDoor
