/- What the kind of a text says of whether it is a word, or a sign. -/
import Derived.Test.YtbcmjinifilamaaDoorMath
namespace Lx

theorem signLen_in (l : Bytes) : ∀ k, signLen l k ≠ 0 → signs.contains (l.take (signLen l k)) = true
  | 0, h => by simp [signLen] at h
  | k + 1, h => by
    rw [signLen] at h ⊢
    split
    · rename_i hc
      simp only [Bool.and_eq_true] at hc
      exact hc.2
    · rename_i hc
      rw [if_neg hc] at h
      exact signLen_in l k h

theorem takeWhile_all (p : UInt8 → Bool) (l : Bytes) (h : (l.takeWhile p).length = l.length) : l.takeWhile p = l := by
  have := List.takeWhile_prefix (p := p) (l := l)
  exact this.eq_of_length h

def kc (n : Nat) : Cut → Nat
  | .tok k _ _ len => if len = n then k else 0
  | _ => 0

/-- What the kind of a text says of whether it is a word, or a sign. -/
theorem kind_law (l : Bytes) : ((kind l = 1 ∨ kind l = 2) → words.contains l = decide (kind l = 2)) ∧ ((kind l = 4 ∨ kind l = 5) → signs.contains l = decide (kind l = 5)) := by
  match l with
  | [] => simp [kind]
  | c :: r =>
    have hk : kind (c :: r) = kc (c :: r).length (cut1 (c :: r)) := by
      unfold kind
      simp only
      cases cut1 (c :: r) <;> rfl
    rw [hk, cut1]
    split
    · simp [kc]
    split
    · unfold cutName
      simp only
      split
      · by_cases hl : ((c :: r).takeWhile isInName).length = (c :: r).length
        · have he := takeWhile_all _ _ hl
          simp only [kc, he, if_true]
          unfold kindOf
          cases words.contains (c :: r) <;> simp
        · simp only [kc, if_neg hl]; simp
      · simp [kc]
    split
    · unfold cutNumber
      simp only
      split
      · by_cases hl : ((c :: r).takeWhile isDigit).length = (c :: r).length
        · simp only [kc, if_pos hl]; simp
        · simp only [kc, if_neg hl]; simp
      · simp [kc]
    split
    · unfold cutSymbols
      simp only
      split
      · by_cases hl : ((c :: r).takeWhile isSymbol).length = (c :: r).length
        · have he := takeWhile_all _ _ hl
          simp only [kc, he, if_true]
          unfold kindOf
          cases signs.contains (c :: r) <;> simp
        · simp only [kc, if_neg hl]; simp
      · simp [kc]
    · unfold cutSign
      split
      · split <;> simp [kc]
      · split
        · simp [kc]
        · rename_i k hsl
          have hin := signLen_in (c :: r) 3 (by omega)
          rw [hsl] at hin
          by_cases hl : k + 1 = (c :: r).length
          · rw [show k.succ = (c :: r).length from hl, List.take_length] at hin
            simp only [kc, if_pos hl]
            simp only [hin]; simp
          · simp only [kc, if_neg hl]; simp

theorem words_kind : ∀ s ∈ words, kind s = 2 := by decide +kernel
theorem signs_kind : ∀ s ∈ signs, kind s = 5 := by decide +kernel
end Lx
