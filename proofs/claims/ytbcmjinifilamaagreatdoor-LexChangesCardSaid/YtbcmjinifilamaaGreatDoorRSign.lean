/- The reference: signs. -/
import Derived.Test.YtbcmjinifilamaaGreatDoorRNum
import Derived.Test.YtbcmjinifilamaaGreatDoorRef
namespace Go.Proofs.YtbcmjinifilamaaGreatDoor
open Go.RowKit

set_option maxRecDepth 100000 in
set_option maxHeartbeats 400000 in
theorem rsigns_any (w : World) :
    Calls Tryz.prog 21 #[] w fun e w' => e = .returned (.slice (some ⟨w.heap.size, 0, none⟩) 24 24) ∧ w' = w.alloc (.cells (Lx.signs.map str).toArray 9) := by
  go_enter Tryz.func21, Tryz.ntmps21
  go_wp2
  go_ret
  exact ⟨rfl, rfl⟩

set_option maxRecDepth 100000 in
set_option maxHeartbeats 400000 in
theorem rwords_any (w : World) :
    Calls Tryz.prog 19 #[] w fun e w' => e = .returned (.slice (some ⟨w.heap.size, 0, none⟩) 37 37) ∧ w' = w.alloc (.cells (Lx.words.map str).toArray 9) := by
  go_enter Tryz.func19, Tryz.ntmps19
  go_wp2
  go_ret
  exact ⟨rfl, rfl⟩

theorem rwords_at {w : World} {b : Nat} {l : List Lx.Bytes} {t : TypeId} {z : Nat × Nat} (h : w.heap[b]? = some (.cells (l.map str).toArray t z)) : ∀ j, j < l.length → w.cell? ⟨b, j, none⟩ = some (str (l.getD j [])) := by
  intro j hj
  simp [World.cell?, h, List.getD_eq_getElem?_getD, List.getElem?_eq_getElem hj]

theorem rsigns_len : Lx.signs.length = 24 := by decide
theorem getD_in {l : List Lx.Bytes} {k : Nat} (h : k < l.length) : l.getD k [] ∈ l := by
  rw [List.getD_eq_getElem?_getD, List.getElem?_eq_getElem h]
  exact List.getElem_mem h

set_option maxRecDepth 100000 in
set_option maxHeartbeats 1600000 in
theorem rsign_any (l : Lx.Bytes) (p : Nat) (hl : l.length ≤ 1000000) (hp : p ≤ l.length) (w : World) :
    Calls Tryz.prog 80 #[.string ⟨l.toArray⟩, .int .i64 p] w fun e w' => e = .returned (.string ⟨(Lx.bestOf (l.drop p) Lx.signs []).toArray⟩) ∧ Turned w w' (fun _ => False) := by
  go_enter Tryz.func80, Tryz.ntmps80
  go_wp2_with fail
  refine (rsigns_any w).mono ?_
  rintro e w1 ⟨rfl, rfl⟩
  have kA := heap_alloc_new w (.cells (Lx.signs.map str).toArray 9)
  have tA : Turned w (w.alloc (.cells (Lx.signs.map str).toArray 9)) (fun _ => False) := (Turned.refl w _).alloc _
  generalize w.alloc (.cells (Lx.signs.map str).toArray 9) = V at *
  generalize w.heap.size = H at *
  have TA := Lib.hid tA
  have KA := Lib.hid kA
  have lH := lt_of_block kA
  clear tA kA
  go_wp2_with fail
  go_loop [7, 6] (fun i b => ∃ k : Nat, ∃ s : Lx.Bytes, i = .int .i64 k ∧ b = .string ⟨s.toArray⟩ ∧ k ≤ 24 ∧ s.length ≤ 3 ∧ Lx.bestOf (l.drop p) Lx.signs [] = Lx.bestOf (l.drop p) (Lx.signs.drop k) s) (fun i _ => 24 - (intOf i).toNat)
  case atStart => exact ⟨0, [], rfl, rfl, by omega, by simp, rfl⟩
  case round =>
    obtain ⟨k, b, rfl, rfl, hk, hbl, hbe⟩ := hrel
    by_cases hlt : k < 24
    · have hki : (k : Int) < 24 := by omega
      have hlk : k < Lx.signs.length := by rw [rsigns_len]; exact hlt
      have p0 := rwords_at KA.out k hlk
      have hs3 := Lx.signs_short _ (getD_in hlk)
      have hdk : Lx.signs.drop k = Lx.signs.getD k [] :: Lx.signs.drop (k + 1) := by
        rw [List.getD_eq_getElem?_getD, List.getElem?_eq_getElem hlk]
        exact (List.getElem_cons_drop hlk).symm
      rw [hdk, Lx.bestOf] at hbe
      unfold str at p0
      generalize Lx.signs.getD k [] = s at *
      have Hbe := Lib.hid hbe
      clear hbe hdk
      cases hsy : s.all Lx.isSymbol with
      | true =>
        have hst := Hbe.out
        rw [hsy] at hst
        simp only [Bool.not_true, Bool.false_and, Bool.false_eq_true, if_false] at hst
        have hc := fun w => rsymbols_any s (by omega) w
        rw [hsy] at hc
        have Hst := Lib.hid hst
        have Hc := Lib.hid hc
        clear hst hc hsy
        go_wp2_with (go_at_call 107; refine (Hc.out _).mono ?_; rintro e w' ⟨rfl, rfl⟩)
        go_round
        case rel => exact ⟨k + 1, b, by go_num, rfl, by omega, hbl, Hst.out⟩
        case measure => simp [intOf]; omega
      | false =>
        have hc := fun w => rsymbols_any s (by omega) w
        rw [hsy] at hc
        have Hc := Lib.hid hc
        clear hc
        cases hpf : s.isPrefixOf (l.drop p) with
        | false =>
          have hst := Hbe.out
          rw [hsy, hpf] at hst
          simp only [Bool.and_false, Bool.false_and, Bool.false_eq_true, if_false] at hst
          have Hst := Lib.hid hst
          have Hpf := Lib.hid hpf
          clear hst hsy hpf
          go_wp2_with (first | (go_at_call 107; refine (Hc.out _).mono ?_; rintro e w' ⟨rfl, rfl⟩) | (go_at_call 74; refine (rbegins_any l s p false hl (by omega) hp Hpf.out _).mono ?_; rintro e w' ⟨rfl, rfl⟩))
          go_round
          case rel => exact ⟨k + 1, b, by go_num, rfl, by omega, hbl, Hst.out⟩
          case measure => simp [intOf]; omega
        | true =>
          by_cases hlg : b.length < s.length
          · have hst := Hbe.out
            rw [hsy, hpf, decide_eq_true hlg] at hst
            simp only [Bool.not_false, Bool.and_self, if_true] at hst
            have hli : (b.length : Int) < (s.length : Int) := by omega
            have Hst := Lib.hid hst
            have Hpf := Lib.hid hpf
            clear hst hsy hpf
            go_wp2_with (first | (go_at_call 107; refine (Hc.out _).mono ?_; rintro e w' ⟨rfl, rfl⟩) | (go_at_call 74; refine (rbegins_any l s p true hl (by omega) hp Hpf.out _).mono ?_; rintro e w' ⟨rfl, rfl⟩))
            go_round
            case rel => exact ⟨k + 1, s, by go_num, rfl, by omega, hs3, Hst.out⟩
            case measure => simp [intOf]; omega
          · have hst := Hbe.out
            rw [hsy, hpf, decide_eq_false hlg] at hst
            simp only [Bool.and_false, Bool.false_eq_true, if_false] at hst
            have hli : ¬ (b.length : Int) < (s.length : Int) := by omega
            have Hst := Lib.hid hst
            have Hpf := Lib.hid hpf
            clear hst hsy hpf
            go_wp2_with (first | (go_at_call 107; refine (Hc.out _).mono ?_; rintro e w' ⟨rfl, rfl⟩) | (go_at_call 74; refine (rbegins_any l s p true hl (by omega) hp Hpf.out _).mono ?_; rintro e w' ⟨rfl, rfl⟩))
            go_round
            case rel => exact ⟨k + 1, b, by go_num, rfl, by omega, hbl, Hst.out⟩
            case measure => simp [intOf]; omega
    · obtain rfl : k = 24 := by omega
      have hki : ¬ ((24 : Nat) : Int) < 24 := by omega
      have hend : Lx.bestOf (l.drop p) Lx.signs [] = b := by rw [hbe]; rfl
      have Hend := Lib.hid hend
      clear hbe hend
      go_wp2
      go_ret
      rw [Hend.out]
      exact ⟨rfl, TA.out⟩

/-- Where no blank and no comment begins and one stands. -/
def SkipPost (l : Lx.Bytes) (p : Nat) (e : Ending) : Prop :=
  ∃ k : Nat, k ≤ l.length ∧ ((e = .returned (.tuple #[.int .i64 k, .bool true]) ∧ Lx.Eqv l p k ∧ (k < l.length → ∀ h : k < l.length, Lx.isBlank l[k] = false ∧ (l.drop k).take 2 ≠ [40, 42])) ∨
    (e = .returned (.tuple #[.int .i64 k, .bool false]) ∧ (Lx.cuts p (l.drop p)).bad = some k ∧ (Lx.cuts p (l.drop p)).toks = []))

set_option maxRecDepth 100000 in
set_option maxHeartbeats 1600000 in
theorem rskip_any (l : Lx.Bytes) (p : Nat) (hl : l.length ≤ 1000000) (hp : p ≤ l.length) (w : World) :
    Calls Tryz.prog 44 #[.string ⟨l.toArray⟩, .int .i64 p] w fun e w' => SkipPost l p e ∧ w' = w := by
  go_enter Tryz.func44, Tryz.ntmps44
  go_wp2_with fail
  go_loop [1] (fun a => ∃ q : Nat, a = .int .i64 q ∧ q ≤ l.length ∧ Lx.Eqv l p q) (fun a => l.length - (intOf a).toNat)
  case atStart => exact ⟨p, rfl, hp, Lx.Eqv.refl _ _⟩
  case round =>
    obtain ⟨q, rfl, hq, he⟩ := hrel
    have He := Lib.hid he
    clear he
    by_cases hlt : q < l.length
    · have hqi : (q : Int) < (l.length : Int) := by omega
      have c1 : ∀ w, Calls Tryz.prog 59 #[.int .u8 ((⟨l.toArray⟩ : ByteArray)[q]'(by simpa [ByteArray.size] using hlt)).toNat] w fun e w' => e = .returned (.bool (Lx.isBlank l[q])) ∧ w' = w := fun w => rblank_any l[q] w
      cases hb : Lx.isBlank l[q] with
      | true =>
        have hst := He.out.trans (Lx.eqv_blank hlt hb)
        rw [hb] at c1
        have Hst := Lib.hid hst
        have C1 := Lib.hid c1
        clear hst c1 hb
        go_wp2_with (go_at_call 59; refine (C1.out _).mono ?_; rintro e w' ⟨rfl, rfl⟩)
        go_round
        case rel => exact ⟨q + 1, by go_num, by omega, Hst.out⟩
        case measure => simp [intOf]; omega
      | false =>
        rw [hb] at c1
        have C1 := Lib.hid c1
        clear c1
        cases hpre : List.isPrefixOf [40, 42] (l.drop q) with
        | false =>
          have hfin : SkipPost l p (.returned (.tuple #[.int .i64 q, .bool true])) := by
            refine ⟨q, hq, .inl ⟨rfl, He.out, fun _ h => ⟨hb, fun h2 => ?_⟩⟩⟩
            rw [pre_of_take h2] at hpre
            cases hpre
          have Hfin := Lib.hid hfin
          have Hpre := Lib.hid hpre
          clear hfin hpre hb
          go_wp2_with (first | (go_at_call 59; refine (C1.out _).mono ?_; rintro e w' ⟨rfl, rfl⟩) | (go_at_call 74; refine (rbegins_any l [40, 42] q false hl (by simp) hq Hpre.out _).mono ?_; rintro e w' ⟨rfl, rfl⟩))
          go_ret2
          exact ⟨Hfin.out, rfl⟩
        | true =>
          have htk : (l.drop q).take 2 = [40, 42] := by
            have := List.prefix_iff_eq_take.1 (List.isPrefixOf_iff_prefix.1 hpre)
            exact this.symm
          cases hcm : Lx.com 1 (l.drop (q + 2)) with
          | none =>
            obtain ⟨h1, h2⟩ := Lx.cuts_no_end htk hcm
            have hfin : SkipPost l p (.returned (.tuple #[.int .i64 q, .bool false])) := ⟨q, hq, .inr ⟨rfl, by rw [He.out.2, h2], by rw [He.out.1, h1]⟩⟩
            have hcr : comR l q = -1 := by unfold comR; rw [hcm]
            have hC := fun w => rcomment_any l q hl htk w
            rw [hcr] at hC
            have HC := Lib.hid hC
            have Hfin := Lib.hid hfin
            have Hpre := Lib.hid hpre
            clear hfin hpre hb h1 h2 hcr hC htk hcm
            go_wp2_with (first | (go_at_call 59; refine (C1.out _).mono ?_; rintro e w' ⟨rfl, rfl⟩) | (go_at_call 74; refine (rbegins_any l [40, 42] q true hl (by simp) hq Hpre.out _).mono ?_; rintro e w' ⟨rfl, rfl⟩) | (go_at_call 60; refine (HC.out _).mono ?_; rintro e w' ⟨rfl, rfl⟩))
            go_ret2
            exact ⟨Hfin.out, rfl⟩
          | some n =>
            obtain ⟨h1, h2⟩ := Lx.eqv_comment htk hcm
            have hst := He.out.trans h1
            have hcr : comR l q = ((q + (n + 2) : Nat) : Int) := by
              unfold comR
              rw [hcm]
              simp only
              omega
            have hC := fun w => rcomment_any l q hl htk w
            rw [hcr] at hC
            have HC := Lib.hid hC
            have Hst := Lib.hid hst
            have Hpre := Lib.hid hpre
            have hnn : ¬ ((q + (n + 2) : Nat) : Int) < 0 := by omega
            clear hst hpre hb h1 hcr hC htk hcm
            go_wp2_with (first | (go_at_call 59; refine (C1.out _).mono ?_; rintro e w' ⟨rfl, rfl⟩) | (go_at_call 74; refine (rbegins_any l [40, 42] q true hl (by simp) hq Hpre.out _).mono ?_; rintro e w' ⟨rfl, rfl⟩) | (go_at_call 60; refine (HC.out _).mono ?_; rintro e w' ⟨rfl, rfl⟩))
            go_round
            case rel => exact ⟨q + (n + 2), by first | rfl | go_num, h2, Hst.out⟩
            case measure => simp [intOf]; omega
    · obtain rfl : q = l.length := by omega
      have hfin : SkipPost l p (.returned (.tuple #[.int .i64 (l.length : Nat), .bool true])) := ⟨l.length, Nat.le_refl _, .inl ⟨rfl, He.out, fun h => absurd h (Nat.lt_irrefl _)⟩⟩
      have Hfin := Lib.hid hfin
      clear hfin
      go_wp2
      go_ret2
      exact ⟨Hfin.out, rfl⟩
end Go.Proofs.YtbcmjinifilamaaGreatDoor
