/- To pass bytes that fit. -/
import Derived.Test.YtinogdeolnldhaaDoorLeaf
import Derived.Deep.QuietTactic
import Derived.BigQuiet
import Derived.Lib.Hide
namespace Go.Proofs.YtinogdeolnldhaaDoor
open Go.RowKit

theorem tw_le (p : UInt8 → Bool) : ∀ (l : Lx.Bytes), (l.takeWhile p).length ≤ l.length
  | [] => Nat.le_refl _
  | c :: l => by
    simp only [List.takeWhile_cons]
    split
    · simpa using tw_le p l
    · simp

theorem tw_lt (p : UInt8 → Bool) : ∀ (l : Lx.Bytes) (k : Nat), k ≤ (l.takeWhile p).length → ∀ c, l[k]? = some c → (p c = true ↔ k < (l.takeWhile p).length)
  | [], k, hk, c, hc => by simp at hc
  | x :: l, 0, hk, c, hc => by
    simp only [List.getElem?_cons_zero, Option.some.injEq] at hc
    subst hc
    by_cases h : p x <;> simp [h]
  | x :: l, k + 1, hk, c, hc => by
    simp only [List.getElem?_cons_succ] at hc
    by_cases h : p x
    · simp only [List.takeWhile_cons, h, if_true, List.length_cons] at hk ⊢
      have := tw_lt p l k (by omega) c hc
      rw [this]; omega
    · simp [h] at hk

theorem tw_extract (p : UInt8 → Bool) (l : Lx.Bytes) : l.take (l.takeWhile p).length = l.takeWhile p := by
  induction l with
  | nil => rfl
  | cons x l ih =>
    by_cases h : p x
    · simp [h, ih]
    · simp [h]

theorem size_list (s : ByteArray) : s.data.toList.length = s.size := rfl

/-- The byte at a place, as the list has it. -/
theorem byte_at (s : ByteArray) (i : Nat) (h : i < s.size) : s.data.toList[i]? = some s[i] := by
  rw [List.getElem?_eq_getElem (by simpa using h)]; rfl

theorem rest_at (S : Scn) (k : Nat) (h : S.at_ + k < S.text.size) : S.rest[k]? = some S.text[S.at_ + k] := by
  unfold Scn.rest
  rw [List.getElem?_drop]
  exact byte_at _ _ h

/-- A piece of a text. -/
theorem str_extract (s : ByteArray) (a b : Nat) : Value.string (s.extract a b) = str ((s.data.toList.drop a).take (b - a)) := by
  unfold str
  congr 1
  apply ByteArray.ext
  simp [ByteArray.data_extract]
  rw [← Array.toList_inj]
  simp [List.take_drop]

/-- The number in a cell. -/
def cellNat (w : World) (b i : Nat) : Nat := (intOf ((w.cell? ⟨b, i, none⟩).getD undef)).toNat
theorem Scan.nat5 {B : Nat} {w : World} {S : Scn} (h : Scan B w S) : cellNat w S.sb 5 = S.at_ := by simp [cellNat, h.c5, intOf]

set_option maxRecDepth 100000 in
set_option maxHeartbeats 400000 in
theorem pass_any (f : FuncId) (p : UInt8 → Bool) (hrun : ∀ (a : Array Value) (w : World), (callFunc f a).run Tryd.prog w = .ok (.enter f a) w) (hf : ∀ b w, Calls Tryd.prog f #[.int .u8 (UInt8.toNat b)] w fun e w' => e = .returned (.bool (p b)) ∧ w' = w)
    (B : Nat) (w : World) (S : Scn) (h : Scan B w S) (hs : S.text.size ≤ maxLen) (hat : S.at_ ≤ S.text.size) :
    Calls Tryd.prog 71 #[.pointer (some ⟨S.sb, 0, none⟩), .func (.func f) #[] #[]] w fun e w' =>
      e = .returned (str (S.rest.takeWhile p)) ∧ Scan B w' { S with at_ := S.at_ + (S.rest.takeWhile p).length } ∧ Goes w S w' { S with at_ := S.at_ + (S.rest.takeWhile p).length } := by
  unfold maxLen at hs
  have c5 := h.c5
  go_enter Tryd.func71, Tryd.ntmps71
  go_wp2
  go_loopw [32] (fun _ wr => ∃ k : Nat, k ≤ (S.rest.takeWhile p).length ∧ Scan B wr { S with at_ := S.at_ + k } ∧ Goes w S wr { S with at_ := S.at_ + k })
    (fun _ wr => S.text.size - cellNat wr S.sb 5)
  case atStart => exact ⟨0, Nat.zero_le _, h, Goes.refl _ _⟩
  case round =>
    obtain ⟨k, hk, hsc, hgo⟩ := hrel
    have d5 := hsc.c5
    have d3 := hsc.c3
    have f5 := hsc.frozenAt 5
    simp only at d5 d3 f5
    have hr := rest_at S k
    generalize hm : S.at_ + k = m at *
    have Hm := Lib.hid hm
    clear hm
    by_cases hlt : m < S.text.size
    · have hi : (m : Int) < (S.text.size : Int) := by omega
      have ht := tw_lt p S.rest k hk _ (hr hlt)
      have Ht := Lib.hid ht
      clear ht hr
      go_wp2_with fail
      go_quiet ((with_reducible exact Calls.quiet_of_same (hf _ _)))
      go_wp2
      · have hp : p S.text[m] = true := by assumption
        have hk1 := Ht.out.1 hp
        have e1 : m + 1 = S.at_ + (k + 1) := by have := Hm.out; omega
        go_roundw
        case rel =>
          refine ⟨k + 1, hk1, ?_, ?_⟩
          · rw [← e1]; exact (hsc.drewN nq).setAt (m + 1)
          · rw [← e1]; exact (hgo.drewN nq).trans (Goes.setAt _ _ (m + 1))
        case measure =>
          have a1 := ((hsc.drewN nq).setAt (m + 1)).nat5
          have a2 := hsc.nat5
          simp only at a1 a2
          rw [show (Value.int .i64 ((m : Int) + 1)) = Value.int .i64 ((m + 1 : Nat) : Int) from by simp, a1, a2]
          omega
      · have hp : p S.text[m] = false := by assumption
        have hkE : k = (S.rest.takeWhile p).length := by
          by_cases hk2 : k < (S.rest.takeWhile p).length
          · rw [Ht.out.2 hk2] at hp; cases hp
          · omega
        have i1 : (S.at_ : Int) ≤ (m : Int) := by have := Hm.out; omega
        have i2 : (m : Int) ≤ (S.text.size : Int) := by omega
        go_quiet (fail)
        go_wp2
        go_ret
        have hE : S.at_ + (S.rest.takeWhile p).length = m := by have := Hm.out; omega
        rw [hE]
        refine ⟨?_, ?_, ?_⟩
        · show Ending.returned (Value.string (S.text.extract S.at_ m)) = _
          rw [str_extract, show m - S.at_ = (S.rest.takeWhile p).length from by omega]
          exact congrArg (fun l => Ending.returned (str l)) (tw_extract p S.rest)
        · exact (hsc.drewN _).drewN _
        · exact (hgo.drewN _).drewN _
    · have hkE : k = (S.rest.takeWhile p).length := by
        have := tw_le p S.rest
        have e : S.rest.length = S.text.size - S.at_ := by simp [Scn.rest]
        have := Hm.out
        omega
      have i1 : (S.at_ : Int) ≤ (m : Int) := by have := Hm.out; omega
      have i2 : (m : Int) ≤ (S.text.size : Int) := by have := hkE; have := tw_le p S.rest; have e : S.rest.length = S.text.size - S.at_ := by simp [Scn.rest]
                                                      have := Hm.out; omega
      have hd : decide ((m : Int) < (S.text.size : Int)) = false := by simp; omega
      go_wp2_with fail
      go_quiet (fail)
      go_wp2
      go_quiet (fail)
      go_wp2
      go_ret
      have hE : S.at_ + (S.rest.takeWhile p).length = m := by have := Hm.out; omega
      rw [hE]
      refine ⟨?_, ?_, ?_⟩
      · show Ending.returned (Value.string (S.text.extract S.at_ m)) = _
        rw [str_extract, show m - S.at_ = (S.rest.takeWhile p).length from by omega]
        exact congrArg (fun l => Ending.returned (str l)) (tw_extract p S.rest)
      · exact (hsc.drewN _).drewN _
      · exact (hgo.drewN _).drewN _

theorem run_isBlank (a : Array Value) (w : World) : (callFunc 72 a).run Tryd.prog w = .ok (.enter 72 a) w := by kernel_rfl
theorem run_isInName (a : Array Value) (w : World) : (callFunc 74 a).run Tryd.prog w = .ok (.enter 74 a) w := by kernel_rfl
theorem run_isDigit (a : Array Value) (w : World) : (callFunc 75 a).run Tryd.prog w = .ok (.enter 75 a) w := by kernel_rfl
theorem run_isSymbol (a : Array Value) (w : World) : (callFunc 78 a).run Tryd.prog w = .ok (.enter 78 a) w := by kernel_rfl
end Go.Proofs.YtinogdeolnldhaaDoor
