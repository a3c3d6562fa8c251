/- The reference: comments, names. -/
import Derived.Test.YtbcmjinifilamaaGreatDoorRLeaf
import Derived.Test.YtbcmjinifilamaaGreatDoorPass
import Derived.Test.YtbcmjinifilamaaGreatDoorPure
namespace Go.Proofs.YtbcmjinifilamaaGreatDoor
open Go.RowKit

def comR (l : Lx.Bytes) (p : Nat) : Int := match Lx.com 1 (l.drop (p + 2)) with
  | some n => ((p + 2 + n : Nat) : Int)
  | none => -1

theorem pre_of_take {x : Lx.Bytes} (h : x.take 2 = [40, 42]) : List.isPrefixOf [40, 42] x = true := by
  rw [List.isPrefixOf_iff_prefix, List.prefix_iff_eq_take]
  exact h.symm
theorem drop_two {l : Lx.Bytes} {q : Nat} {a b : UInt8} (h : List.isPrefixOf [a, b] (l.drop q) = true) : l.drop q = a :: b :: l.drop (q + 2) ∧ q + 2 ≤ l.length := by
  rw [List.isPrefixOf_iff_prefix] at h
  obtain ⟨t, ht⟩ := h
  have h2 : l.drop (q + 2) = t := by
    rw [← List.drop_drop, ← ht]; rfl
  have hl := congrArg List.length ht
  simp only [List.length_append, List.length_cons, List.length_nil, List.length_drop] at hl
  refine ⟨?_, by omega⟩
  rw [h2, ← ht]; rfl

theorem com_else (d : Nat) (x : UInt8) (r : Lx.Bytes) (h1 : List.isPrefixOf [40, 42] (x :: r) = false) (h2 : List.isPrefixOf [42, 41] (x :: r) = false) : Lx.com d (x :: r) = (Lx.com d r).map (· + 1) := by
  rw [Lx.com]
  · intro r' ex e
    subst ex
    subst e
    simp [List.isPrefixOf] at h1
  · intro r' ex e
    subst ex
    subst e
    simp [List.isPrefixOf] at h2

theorem map_map_add (o : Option Nat) (a b c : Nat) (h : b + a = c) : (o.map (· + a)).map (· + b) = o.map (· + c) := by
  subst h
  cases o with
  | none => rfl
  | some x => simp only [Option.map_some]; congr 1; omega

set_option maxRecDepth 100000 in
set_option maxHeartbeats 1600000 in
theorem rcomment_any (l : Lx.Bytes) (p : Nat) (hl : l.length ≤ 1000000) (hp : (l.drop p).take 2 = [40, 42]) (w : World) :
    Calls Tryz.prog 60 #[.string ⟨l.toArray⟩, .int .i64 p] w fun e w' => e = .returned (.int .i64 (comR l p)) ∧ w' = w := by
  have hpre := pre_of_take hp
  obtain ⟨hd2, hlen2⟩ := drop_two hpre
  have Hpre := Lib.hid hpre
  clear hpre hd2 hp
  go_enter Tryz.func60, Tryz.ntmps60
  go_wp2_with fail
  go_loop [1, 5] (fun a d => ∃ q dd : Nat, a = .int .i64 q ∧ d = .int .i64 dd ∧ q ≤ l.length ∧ ((dd = 0 ∧ q = p) ∨ (1 ≤ dd ∧ dd ≤ q ∧ p + 2 ≤ q ∧ Lx.com 1 (l.drop (p + 2)) = (Lx.com dd (l.drop q)).map (· + (q - (p + 2)))))) (fun a _ => l.length - (intOf a).toNat)
  case atStart => exact ⟨p, 0, rfl, rfl, by omega, .inl ⟨rfl, rfl⟩⟩
  case round =>
    obtain ⟨q, dd, rfl, rfl, hq, hrel⟩ := hrel
    by_cases hlt : q < l.length
    · have hqi : (q : Int) < (l.length : Int) := by omega
      rcases hrel with ⟨rfl, rfl⟩ | ⟨h1, h2, h3, h4⟩
      · go_wp2_with fail
        refine (rbegins_any l [40, 42] q true hl (by simp) (by omega) Hpre.out _).mono ?_
        rintro e w' ⟨rfl, rfl⟩
        go_wp2
        go_round
        case rel => exact ⟨q + 2, 1, by go_num, by go_num, by omega, .inr ⟨by omega, by omega, by omega, by rw [Nat.sub_self]; simp⟩⟩
        case measure => simp [intOf]; omega
      · have H4 := Lib.hid h4
        clear h4
        obtain ⟨d, rfl⟩ : ∃ d, dd = d + 1 := ⟨dd - 1, by omega⟩
        cases hb1 : List.isPrefixOf [40, 42] (l.drop q) with
        | true =>
          obtain ⟨hd, hl2⟩ := drop_two hb1
          have hc : Lx.com 1 (l.drop (p + 2)) = (Lx.com (d + 1 + 1) (l.drop (q + 2))).map (· + (q + 2 - (p + 2))) := by
            rw [H4.out, hd, Lx.com]
            exact map_map_add _ _ _ _ (by omega)
          have Hb1 := Lib.hid hb1
          have Hc := Lib.hid hc
          clear hd hb1 hc
          have hz : (((d + 1 : Nat) : Int) + 1 == 0) = false := by rw [Bool.eq_false_iff]; intro e; have : ((d + 1 : Nat) : Int) + 1 = 0 := by simpa using e
                                                                   omega
          go_wp2_with fail
          refine (rbegins_any l [40, 42] q true hl (by simp) (by omega) Hb1.out _).mono ?_
          rintro e w' ⟨rfl, rfl⟩
          go_wp2
          go_round
          case rel => exact ⟨q + 2, d + 1 + 1, by go_num, by go_num, by omega, .inr ⟨by omega, by omega, by omega, Hc.out⟩⟩
          case measure => simp [intOf]; omega
        | false =>
          cases hb2 : List.isPrefixOf [42, 41] (l.drop q) with
          | true =>
            obtain ⟨hd, hl2⟩ := drop_two hb2
            by_cases hd0 : d = 0
            · subst hd0
              have hc : comR l p = ((q + 2 : Nat) : Int) := by
                unfold comR
                rw [H4.out, hd, Lx.com]
                simp only [Nat.zero_add, Nat.le_refl, if_true, Option.map_some]
                omega
              have Hb1 := Lib.hid hb1
              have Hb2 := Lib.hid hb2
              have Hc := Lib.hid hc
              clear hd hb1 hb2 hc
              go_wp2_with fail
              refine (rbegins_any l [40, 42] q false hl (by simp) (by omega) Hb1.out _).mono ?_
              rintro e w' ⟨rfl, rfl⟩
              go_wp2_with fail
              refine (rbegins_any l [42, 41] q true hl (by simp) (by omega) Hb2.out _).mono ?_
              rintro e w' ⟨rfl, rfl⟩
              go_wp2
              go_ret
              rw [Hc.out]
              exact ⟨by simp, rfl⟩
            · have hc : Lx.com 1 (l.drop (p + 2)) = (Lx.com d (l.drop (q + 2))).map (· + (q + 2 - (p + 2))) := by
                rw [H4.out, hd, Lx.com, if_neg (by omega)]
                exact map_map_add _ _ _ _ (by omega)
              have Hb1 := Lib.hid hb1
              have Hb2 := Lib.hid hb2
              have Hc := Lib.hid hc
              clear hd hb1 hb2 hc
              have hz : ((d : Int) == 0) = false := by rw [Bool.eq_false_iff]; intro e; have : (d : Int) = 0 := by simpa using e
                                                       omega
              go_wp2_with fail
              refine (rbegins_any l [40, 42] q false hl (by simp) (by omega) Hb1.out _).mono ?_
              rintro e w' ⟨rfl, rfl⟩
              go_wp2_with fail
              refine (rbegins_any l [42, 41] q true hl (by simp) (by omega) Hb2.out _).mono ?_
              rintro e w' ⟨rfl, rfl⟩
              go_wp2
              go_round
              case rel => exact ⟨q + 2, d, by go_num, by go_num, by omega, .inr ⟨by omega, by omega, by omega, Hc.out⟩⟩
              case measure => simp [intOf]; omega
          | false =>
            have hc : Lx.com 1 (l.drop (p + 2)) = (Lx.com (d + 1) (l.drop (q + 1))).map (· + (q + 1 - (p + 2))) := by
              rw [H4.out]
              rw [Lx.drop_cons hlt] at hb1 hb2 ⊢
              rw [com_else _ _ _ hb1 hb2]
              exact map_map_add _ _ _ _ (by omega)
            have Hb1 := Lib.hid hb1
            have Hb2 := Lib.hid hb2
            have Hc := Lib.hid hc
            clear hb1 hb2 hc
            have hz : (((d + 1 : Nat) : Int) == 0) = false := by rw [Bool.eq_false_iff]; intro e; have : ((d + 1 : Nat) : Int) = 0 := by simpa using e
                                                                 omega
            go_wp2_with fail
            refine (rbegins_any l [40, 42] q false hl (by simp) (by omega) Hb1.out _).mono ?_
            rintro e w' ⟨rfl, rfl⟩
            go_wp2_with fail
            refine (rbegins_any l [42, 41] q false hl (by simp) (by omega) Hb2.out _).mono ?_
            rintro e w' ⟨rfl, rfl⟩
            go_wp2
            go_round
            case rel => exact ⟨q + 1, d + 1, by go_num, by go_num, by omega, .inr ⟨by omega, by omega, by omega, Hc.out⟩⟩
            case measure => simp [intOf]; omega
    · obtain rfl : q = l.length := by omega
      have hc : comR l p = -1 := by
        rcases hrel with ⟨rfl, rfl⟩ | ⟨h1, h2, h3, h4⟩
        · omega
        · unfold comR
          rw [h4, List.drop_length]
          rfl
      have Hc := Lib.hid hc
      clear hc hrel
      go_wp2
      go_ret
      rw [Hc.out]
      exact ⟨rfl, rfl⟩

theorem inName_or (b : UInt8) : Lx.isInName b = (Lx.isLetter b || Lx.isDigit b || ((b.toNat : Int) == 39)) := by
  have h := all_u8 (p := fun b => decide (Lx.isInName b = (Lx.isLetter b || Lx.isDigit b || ((b.toNat : Int) == 39)))) (by decide +kernel) b
  simpa using h

set_option maxRecDepth 100000 in
set_option maxHeartbeats 1600000 in
theorem rname_any (l : Lx.Bytes) (p : Nat) (hl : l.length ≤ 1000000) (hp : p ≤ l.length) (w : World) :
    Calls Tryz.prog 76 #[.string ⟨l.toArray⟩, .int .i64 p] w fun e w' => e = .returned (.int .i64 ((p + ((l.drop p).takeWhile Lx.isInName).length : Nat) : Int)) ∧ w' = w := by
  have htl : ((l.drop p).takeWhile Lx.isInName).length ≤ l.length - p := by have := Lx.takeWhile_len Lx.isInName (l.drop p); rwa [List.length_drop] at this
  go_enter Tryz.func76, Tryz.ntmps76
  go_wp2_with fail
  go_loop [1] (fun a => ∃ k : Nat, a = .int .i64 ((p + k : Nat) : Int) ∧ k ≤ ((l.drop p).takeWhile Lx.isInName).length) (fun a => l.length - (intOf a).toNat)
  case atStart => exact ⟨0, rfl, Nat.zero_le _⟩
  case round =>
    obtain ⟨k, rfl, hk⟩ := hrel
    by_cases hlt : p + k < l.length
    · have hqi : ((p + k : Nat) : Int) < (l.length : Int) := by omega
      have hat : (l.drop p)[k]? = some l[p + k] := by rw [List.getElem?_drop, List.getElem?_eq_getElem hlt]
      have ht := tw_lt Lx.isInName (l.drop p) k hk _ hat
      have hin := inName_or l[p + k]
      have c1 : ∀ w, Calls Tryz.prog 75 #[.int .u8 ((⟨l.toArray⟩ : ByteArray)[p + k]'(by simpa [ByteArray.size] using hlt)).toNat] w fun e w' => e = .returned (.bool (Lx.isLetter l[p + k])) ∧ w' = w := fun w => rletter_any l[p + k] w
      have c2 : ∀ w, Calls Tryz.prog 78 #[.int .u8 ((⟨l.toArray⟩ : ByteArray)[p + k]'(by simpa [ByteArray.size] using hlt)).toNat] w fun e w' => e = .returned (.bool (Lx.isDigit l[p + k])) ∧ w' = w := fun w => rdigit_any l[p + k] w
      have hb : (((⟨l.toArray⟩ : ByteArray)[p + k]'(by simpa [ByteArray.size] using hlt)).toNat : Int) = (l[p + k].toNat : Int) := rfl
      have hm : (p + (k + 1) : Nat) = p + k + 1 := by omega
      have Ht := Lib.hid ht
      have Hin := Lib.hid hin
      have C1 := Lib.hid c1
      have C2 := Lib.hid c2
      have Hm := Lib.hid hm
      clear ht hin c1 c2 hm
      rw [← hb] at Hin
      have Hb := Lib.hid hb
      clear hb hat
      generalize Lx.isLetter l[p + k] = x1 at *
      generalize Lx.isDigit l[p + k] = x2 at *
      generalize Lx.isInName l[p + k] = x3 at *
      cases hx : ((((⟨l.toArray⟩ : ByteArray)[p + k]'(by simpa [ByteArray.size] using hlt)).toNat : Int) == 39) <;> cases x1 <;> cases x2
      all_goals (have hx3 := Hin.out; rw [hx] at hx3; simp at hx3; subst hx3)
      case false.false.false =>
        have hkE : k = ((l.drop p).takeWhile Lx.isInName).length := by
          by_cases hk2 : k < ((l.drop p).takeWhile Lx.isInName).length
          · have := Ht.out.2 hk2; cases this
          · omega
        have HkE := Lib.hid hkE
        clear hkE
        go_wp2_with (first | (go_at_call 75; refine (C1.out _).mono ?_; rintro e w' ⟨rfl, rfl⟩) | (go_at_call 78; refine (C2.out _).mono ?_; rintro e w' ⟨rfl, rfl⟩))
        go_ret
        rw [← HkE.out]
        exact ⟨by simp, rfl⟩
      all_goals
        have hk1 := Ht.out.1 rfl
        have Hk1 := Lib.hid hk1
        clear hk1
        go_wp2_with (first | (go_at_call 75; refine (C1.out _).mono ?_; rintro e w' ⟨rfl, rfl⟩) | (go_at_call 78; refine (C2.out _).mono ?_; rintro e w' ⟨rfl, rfl⟩))
        go_round
        case rel => exact ⟨k + 1, by rw [Hm.out]; go_num, by have := Hk1.out; omega⟩
        case measure => simp [intOf]; omega
    · have hkE : k = ((l.drop p).takeWhile Lx.isInName).length := by omega
      have hnl : ¬ ((p + k : Nat) : Int) < (l.length : Int) := by omega
      have HkE := Lib.hid hkE
      clear hkE
      go_wp2
      go_ret
      rw [← HkE.out]
      exact ⟨by simp, rfl⟩
end Go.Proofs.YtbcmjinifilamaaGreatDoor
