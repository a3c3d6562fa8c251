/- The reference: numbers. -/
import Derived.Test.YtbcmjinifilamaaGreatDoorRText
import Derived.Test.YtbcmjinifilamaaGreatDoorNum
namespace Go.Proofs.YtbcmjinifilamaaGreatDoor
open Go.RowKit

/-- Whether digits are a number. -/
def numFine (x : Lx.Bytes) : Bool := decide (Lx.num (x.takeWhile Lx.isDigit) ≤ 2147483647) && !((x.drop (x.takeWhile Lx.isDigit).length).head?.any Lx.isInName)

theorem digit_val (b : UInt8) (h : Lx.isDigit b = true) : 48 ≤ b.toNat ∧ b.toNat ≤ 57 := digit_bounds b h

theorem end_not_digit (x : Lx.Bytes) (c : UInt8) (h : x[(x.takeWhile Lx.isDigit).length]? = some c) : Lx.isDigit c = false := by
  have := tw_lt Lx.isDigit x _ (Nat.le_refl _) c h
  cases hd : Lx.isDigit c with
  | false => rfl
  | true => have := this.1 hd; omega

/-- A token as a value. -/
def tokAgg (t : Lx.Tok) : Value := .agg #[.int .i64 t.kind, .int .i64 t.n, .string ⟨t.s.toArray⟩, .int .i64 t.at_, .int .i64 t.end_]

/-- No token. -/
def zeroAgg : Value := .agg #[.int .i64 0, .int .i64 0, .string ⟨#[]⟩, .int .i64 0, .int .i64 0]

def NumPost (l : Lx.Bytes) (p : Nat) (w : World) (e : Ending) (w' : World) : Prop :=
  ((numFine (l.drop p) = true ∧ e = .returned (.tuple #[tokAgg ⟨3, Lx.num ((l.drop p).takeWhile Lx.isDigit), [], p, p + ((l.drop p).takeWhile Lx.isDigit).length⟩, .bool true])) ∨ (numFine (l.drop p) = false ∧ e = .returned (.tuple #[zeroAgg, .bool false]))) ∧ Turned w w' (fun _ => False)

theorem numPost_no {l : Lx.Bytes} {p : Nat} {w w' : World} (h : numFine (l.drop p) = false) (t : Turned w w' (fun _ => False)) : NumPost l p w (.returned (.tuple #[.agg #[.int .i64 0, .int .i64 0, .string ⟨#[]⟩, .int .i64 0, .int .i64 0], .bool false])) w' :=
  ⟨.inr ⟨h, rfl⟩, t⟩
theorem numPost_yes {l : Lx.Bytes} {p m k : Nat} {w w' : World} (h : numFine (l.drop p) = true) (hm : m = Lx.num ((l.drop p).takeWhile Lx.isDigit)) (hk : k = ((l.drop p).takeWhile Lx.isDigit).length) (t : Turned w w' (fun _ => False)) :
    NumPost l p w (.returned (.tuple #[.agg #[.int .i64 3, .int .i64 m, .string ⟨#[]⟩, .int .i64 p, .int .i64 ((p : Int) + (k : Int))], .bool true])) w' := by
  subst hm
  subst hk
  refine ⟨.inl ⟨h, ?_⟩, t⟩
  unfold tokAgg
  simp

theorem tw_at (l : Lx.Bytes) (p k : Nat) (h : k < ((l.drop p).takeWhile Lx.isDigit).length) (hlt : p + k < l.length) : ((l.drop p).takeWhile Lx.isDigit)[k] = l[p + k] := by
  have h1 := (List.takeWhile_prefix (p := Lx.isDigit) (l := l.drop p)).getElem h
  rw [h1, List.getElem_drop]

set_option maxRecDepth 100000 in
set_option maxHeartbeats 3200000 in
theorem rnumber_any (l : Lx.Bytes) (p : Nat) (hl : l.length ≤ 1000000) (hp : p ≤ l.length) (w : World) :
    Calls Tryz.prog 79 #[.string ⟨l.toArray⟩, .int .i64 p] w (NumPost l p w) := by
  have htl : ((l.drop p).takeWhile Lx.isDigit).length ≤ l.length - p := by have := Lx.takeWhile_len Lx.isDigit (l.drop p); rwa [List.length_drop] at this
  have tA : ∀ o, Turned w (w.alloc o) (fun _ => False) := fun o => (Turned.refl w _).alloc o
  have HA := Lib.hid tA
  clear tA
  go_enter Tryz.func79, Tryz.ntmps79
  go_wp2_with fail
  go_loop [6, 7, 8] (fun a n b => ∃ k m : Nat, ∃ big : Bool, a = .int .i64 ((p + k : Nat) : Int) ∧ n = .int .i64 m ∧ b = .bool big ∧ k ≤ ((l.drop p).takeWhile Lx.isDigit).length ∧ (big = false → m = Lx.num (((l.drop p).takeWhile Lx.isDigit).take k) ∧ m ≤ 2147483647) ∧ (big = true → 2147483647 < Lx.num (((l.drop p).takeWhile Lx.isDigit).take k)) ∧ m ≤ 30000000000) (fun a _ _ => l.length - (intOf a).toNat)
  case atStart => exact ⟨0, 0, false, rfl, rfl, rfl, Nat.zero_le _, fun _ => ⟨rfl, by omega⟩, (fun h => by cases h), by omega⟩
  case round =>
    obtain ⟨k, m, big, rfl, rfl, rfl, hk, hm, hbg, hmm⟩ := hrel
    by_cases hlt : p + k < l.length
    · have hqi : ((p + k : Nat) : Int) < (l.length : Int) := by omega
      have hat : (l.drop p)[k]? = some l[p + k] := by rw [List.getElem?_drop, List.getElem?_eq_getElem hlt]
      have ht := tw_lt Lx.isDigit (l.drop p) k hk _ hat
      have c2 : ∀ w, Calls Tryz.prog 78 #[.int .u8 ((⟨l.toArray⟩ : ByteArray)[p + k]'(by simpa [ByteArray.size] using hlt)).toNat] w fun e w' => e = .returned (.bool (Lx.isDigit l[p + k])) ∧ w' = w := fun w => rdigit_any l[p + k] w
      have c1 : ∀ w, Calls Tryz.prog 75 #[.int .u8 ((⟨l.toArray⟩ : ByteArray)[p + k]'(by simpa [ByteArray.size] using hlt)).toNat] w fun e w' => e = .returned (.bool (Lx.isLetter l[p + k])) ∧ w' = w := fun w => rletter_any l[p + k] w
      have hb : ((⟨l.toArray⟩ : ByteArray)[p + k]'(by simpa [ByteArray.size] using hlt)).toNat = l[p + k].toNat := rfl
      cases hd : Lx.isDigit l[p + k] with
      | true =>
        have hk1 := ht.1 hd
        have hdv := digit_bounds _ hd
        have hns := num_take_succ ((l.drop p).takeWhile Lx.isDigit) k hk1
        rw [tw_at l p k hk1 hlt] at hns
        rw [hd] at c2
        rw [← hb] at hdv hns
        have C2 := Lib.hid c2
        have Hns := Lib.hid hns
        have Hm := Lib.hid hm
        have Hbg := Lib.hid hbg
        clear c1 c2 hns ht hat hd hm hbg hb
        cases big with
        | false =>
          obtain ⟨hm1, hm2⟩ := Hm.out rfl
          have Hm1 := Lib.hid hm1
          clear hm1
          have hv1 : (48 : Int) ≤ (((⟨l.toArray⟩ : ByteArray)[p + k]'(by simpa [ByteArray.size] using hlt)).toNat : Int) := by omega
          have hv2 : (((⟨l.toArray⟩ : ByteArray)[p + k]'(by simpa [ByteArray.size] using hlt)).toNat : Int) ≤ 57 := by omega
          have hpk : (p + (k + 1) : Nat) = p + k + 1 := by omega
          have Hpk := Lib.hid hpk
          clear hpk
          by_cases hgt : (2147483647 : Int) < 10 * (m : Int) + (((⟨l.toArray⟩ : ByteArray)[p + k]'(by simpa [ByteArray.size] using hlt)).toNat : Int) - 48
          · have hnew : 2147483647 < Lx.num (((l.drop p).takeWhile Lx.isDigit).take (k + 1)) := by rw [Hns.out, ← Hm1.out]; omega
            have Hnew := Lib.hid hnew
            clear hnew
            go_wp2_with (go_at_call 78; refine (C2.out _).mono ?_; rintro e w' ⟨rfl, rfl⟩)
            go_round
            case rel => exact ⟨k + 1, m * 10 + (((⟨l.toArray⟩ : ByteArray)[p + k]'(by simpa [ByteArray.size] using hlt)).toNat - 48), true, by rw [Hpk.out]; go_num, congrArg (Value.int .i64) (by omega), rfl, by omega, (fun h => by cases h), fun _ => Hnew.out, by omega⟩
            case measure => simp [intOf]; omega
          · have hnew : m * 10 + (((⟨l.toArray⟩ : ByteArray)[p + k]'(by simpa [ByteArray.size] using hlt)).toNat - 48) = Lx.num (((l.drop p).takeWhile Lx.isDigit).take (k + 1)) := by rw [Hns.out, ← Hm1.out]
            have Hnew := Lib.hid hnew
            clear hnew
            have hdec := decide_eq_false hgt
            go_wp2_with (go_at_call 78; refine (C2.out _).mono ?_; rintro e w' ⟨rfl, rfl⟩)
            go_round
            case rel => exact ⟨k + 1, m * 10 + (((⟨l.toArray⟩ : ByteArray)[p + k]'(by simpa [ByteArray.size] using hlt)).toNat - 48), false, by rw [Hpk.out]; go_num, congrArg (Value.int .i64) (by omega), rfl, by omega, fun _ => ⟨Hnew.out, by omega⟩, (fun h => by cases h), by omega⟩
            case measure => simp [intOf]; omega
        | true =>
          have hpk : (p + (k + 1) : Nat) = p + k + 1 := by omega
          have hnew : 2147483647 < Lx.num (((l.drop p).takeWhile Lx.isDigit).take (k + 1)) := by have := Hbg.out rfl; rw [Hns.out]; omega
          have Hnew := Lib.hid hnew
          have Hpk := Lib.hid hpk
          clear hpk hnew
          go_wp2_with (go_at_call 78; refine (C2.out _).mono ?_; rintro e w' ⟨rfl, rfl⟩)
          go_round
          case rel => exact ⟨k + 1, m, true, by rw [Hpk.out]; go_num, rfl, rfl, by omega, (fun h => by cases h), fun _ => Hnew.out, hmm⟩
          case measure => simp [intOf]; omega
      | false =>
        have hkE : k = ((l.drop p).takeWhile Lx.isDigit).length := by
          by_cases hk2 : k < ((l.drop p).takeWhile Lx.isDigit).length
          · have := ht.2 hk2; rw [hd] at this; cases this
          · omega
        have htk : ((l.drop p).takeWhile Lx.isDigit).take k = (l.drop p).takeWhile Lx.isDigit := by rw [hkE, List.take_length]
        rw [htk] at hm hbg
        have hin := inName_or l[p + k]
        rw [hd, Bool.or_false, ← hb] at hin
        have hnf : numFine (l.drop p) = (decide (Lx.num ((l.drop p).takeWhile Lx.isDigit) ≤ 2147483647) && !(Lx.isInName l[p + k])) := by
          unfold numFine
          rw [List.head?_drop, ← hkE, hat]
          rfl
        rw [hd] at c2
        have C1 := Lib.hid c1
        have C2 := Lib.hid c2
        have Hm := Lib.hid hm
        have Hbg := Lib.hid hbg
        have Hin := Lib.hid hin
        have Hnf := Lib.hid hnf
        have HkE := Lib.hid hkE
        have hpi : (0 : Int) ≤ (p : Int) := by omega
        clear c1 c2 ht hat hd hm hbg hb hin hnf hkE htk
        generalize Lx.isLetter l[p + k] = x1 at *
        generalize Lx.isInName l[p + k] = x3 at *
        cases big with
        | true =>
          have hno : numFine (l.drop p) = false := by
            have := Hbg.out rfl
            rw [Hnf.out, decide_eq_false (by omega), Bool.false_and]
          have Hno := Lib.hid hno
          clear hno
          go_wp2_with (go_at_call 78; refine (C2.out _).mono ?_; rintro e w' ⟨rfl, rfl⟩)
          exact bodyPost_ret (v := .tuple #[.agg #[.int .i64 0, .int .i64 0, .string ⟨#[]⟩, .int .i64 0, .int .i64 0], .bool false]) (by simp [results, Tryz.results79, go_sem]) rfl (numPost_no Hno.out (HA.out _))
        | false =>
          obtain ⟨hm1, hm2⟩ := Hm.out rfl
          have Hm1 := Lib.hid hm1
          clear hm1
          cases hx : ((((⟨l.toArray⟩ : ByteArray)[p + k]'(by simpa [ByteArray.size] using hlt)).toNat : Int) == 39) <;> cases x1
          all_goals (have hx3 := Hin.out; rw [hx] at hx3; simp at hx3; subst hx3)
          case false.false =>
            have hyes : numFine (l.drop p) = true := by rw [Hnf.out, decide_eq_true (by rw [← Hm1.out]; exact hm2)]; rfl
            have Hyes := Lib.hid hyes
            clear hyes
            go_wp2_with (first | (go_at_call 78; refine (C2.out _).mono ?_; rintro e w' ⟨rfl, rfl⟩) | (go_at_call 75; refine (C1.out _).mono ?_; rintro e w' ⟨rfl, rfl⟩))
            exact bodyPost_ret (v := .tuple #[.agg #[.int .i64 3, .int .i64 m, .string ⟨#[]⟩, .int .i64 p, .int .i64 ((p : Int) + (k : Int))], .bool true]) (by simp [results, Tryz.results79, go_sem]) rfl (numPost_yes Hyes.out Hm1.out HkE.out (HA.out _))
          all_goals
            have hno : numFine (l.drop p) = false := by rw [Hnf.out]; simp
            have Hno := Lib.hid hno
            clear hno
            go_wp2_with (first | (go_at_call 78; refine (C2.out _).mono ?_; rintro e w' ⟨rfl, rfl⟩) | (go_at_call 75; refine (C1.out _).mono ?_; rintro e w' ⟨rfl, rfl⟩))
            exact bodyPost_ret (v := .tuple #[.agg #[.int .i64 0, .int .i64 0, .string ⟨#[]⟩, .int .i64 0, .int .i64 0], .bool false]) (by simp [results, Tryz.results79, go_sem]) rfl (numPost_no Hno.out (HA.out _))
    · have hkE : k = ((l.drop p).takeWhile Lx.isDigit).length := by omega
      have htk : ((l.drop p).takeWhile Lx.isDigit).take k = (l.drop p).takeWhile Lx.isDigit := by rw [hkE, List.take_length]
      rw [htk] at hm hbg
      have hnf : numFine (l.drop p) = decide (Lx.num ((l.drop p).takeWhile Lx.isDigit) ≤ 2147483647) := by
        unfold numFine
        rw [List.head?_drop, List.getElem?_eq_none (by rw [List.length_drop]; omega)]
        simp
      have hnl : ¬ ((p + k : Nat) : Int) < (l.length : Int) := by omega
      have Hm := Lib.hid hm
      have Hbg := Lib.hid hbg
      have Hnf := Lib.hid hnf
      have HkE := Lib.hid hkE
      clear hm hbg hnf hkE htk
      cases big with
      | true =>
        have hno : numFine (l.drop p) = false := by
          have := Hbg.out rfl
          rw [Hnf.out, decide_eq_false (by omega)]
        have Hno := Lib.hid hno
        clear hno
        go_wp2
        exact bodyPost_ret (v := .tuple #[.agg #[.int .i64 0, .int .i64 0, .string ⟨#[]⟩, .int .i64 0, .int .i64 0], .bool false]) (by simp [results, Tryz.results79, go_sem]) rfl (numPost_no Hno.out (HA.out _))
      | false =>
        obtain ⟨hm1, hm2⟩ := Hm.out rfl
        have hyes : numFine (l.drop p) = true := by rw [Hnf.out, decide_eq_true (by rw [← hm1]; exact hm2)]
        have Hm1 := Lib.hid hm1
        have Hyes := Lib.hid hyes
        clear hm1 hyes
        go_wp2
        exact bodyPost_ret (v := .tuple #[.agg #[.int .i64 3, .int .i64 m, .string ⟨#[]⟩, .int .i64 p, .int .i64 ((p : Int) + (k : Int))], .bool true]) (by simp [results, Tryz.results79, go_sem]) rfl (numPost_yes Hyes.out Hm1.out HkE.out (HA.out _))
end Go.Proofs.YtbcmjinifilamaaGreatDoor
