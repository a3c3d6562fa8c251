/- A cut hangs on the byte behind it, and on none further behind. -/
import Derived.Test.YtbcmjinifilamaaDoorBareMath
namespace Lx

theorem takeWhile_near (p : UInt8 → Bool) (b : UInt8) (r r' : Bytes) (s : Bytes) (h : ((s ++ b :: r).takeWhile p).length = s.length) : (s ++ b :: r).takeWhile p = s ∧ (s ++ b :: r').takeWhile p = s ∧ p b = false := by
  have hpre : (s ++ b :: r).takeWhile p = s := by
    have h1 := List.takeWhile_prefix (p := p) (l := s ++ b :: r)
    have h2 : s <+: s ++ b :: r := List.prefix_append _ _
    exact List.IsPrefix.eq_of_length (List.prefix_of_prefix_length_le h1 h2 (by omega)) h
  have hall : ∀ x ∈ s, p x = true := by
    intro x hx
    rw [← hpre] at hx
    exact List.all_eq_true.1 List.all_takeWhile x hx
  have hb : p b = false := by
    cases hpb : p b with
    | false => rfl
    | true =>
      rw [List.takeWhile_append_of_pos hall, List.takeWhile_cons, if_pos hpb] at h
      simp at h
  refine ⟨hpre, ?_, hb⟩
  rw [List.takeWhile_append_of_pos hall, List.takeWhile_cons, if_neg (by simp [hb])]
  simp

theorem signs_half : ∀ s ∈ signs, s.length = 3 → signs.contains (s.take 2) = true := by decide +kernel

theorem signLen_max (l : Bytes) : ∀ k j, signLen l k < j → j ≤ k → j ≤ l.length → signs.contains (l.take j) = false
  | 0, j, h1, h2, _ => by omega
  | k + 1, j, h1, h2, h3 => by
    rw [signLen] at h1
    by_cases hc : (decide (k + 1 ≤ l.length) && signs.contains (l.take (k + 1))) = true
    · rw [if_pos hc] at h1; omega
    · rw [if_neg hc] at h1
      by_cases hj : j = k + 1
      · subst hj
        simp only [Bool.and_eq_true, decide_eq_true_eq, not_and, Bool.not_eq_true] at hc
        exact hc h3
      · exact signLen_max l k j h1 (by omega) h3

theorem signLen_of (l : Bytes) (n : Nat) (hn : n ≠ 0 → n ≤ l.length ∧ signs.contains (l.take n) = true) : ∀ k, n ≤ k → (∀ j, n < j → j ≤ k → j ≤ l.length → signs.contains (l.take j) = false) → signLen l k = n
  | 0, h, _ => by rw [signLen]; omega
  | k + 1, h, hm => by
    rw [signLen]
    by_cases hk : n = k + 1
    · subst hk
      obtain ⟨h1, h2⟩ := hn (by omega)
      rw [if_pos]
      simp only [Bool.and_eq_true, decide_eq_true_eq]
      exact ⟨h1, h2⟩
    · rw [if_neg, signLen_of l n hn k (by omega) (fun j h1 h2 h3 => hm j h1 (by omega) h3)]
      intro hc
      simp only [Bool.and_eq_true, decide_eq_true_eq] at hc
      have := hm (k + 1) (by omega) (Nat.le_refl _) hc.1
      rw [hc.2] at this
      cases this

theorem signLen_near (b : UInt8) (r r' : Bytes) (s : Bytes) (h0 : 0 < s.length) (h : signLen (s ++ b :: r) 3 = s.length) : signLen (s ++ b :: r') 3 = s.length := by
  have hle := signLen_le (s ++ b :: r) 3
  rw [h] at hle
  refine signLen_of _ _ (fun _ => ⟨by simp, ?_⟩) 3 hle.1 ?_
  · have hin := signLen_in (s ++ b :: r) 3 (by omega)
    rw [h] at hin
    rw [List.take_left] at hin ⊢
    exact hin
  · intro j h1 h2 h3
    have hmax : signs.contains (s ++ [b]) = false := by
      have h4 := signLen_max (s ++ b :: r) 3 (s.length + 1) (by omega) (by omega) (by simp)
      rw [List.take_append, List.take_of_length_le (by omega), show s.length + 1 - s.length = 1 by omega] at h4
      simpa using h4
    cases hc : signs.contains ((s ++ b :: r').take j) with
    | false => rfl
    | true =>
      exfalso
      have hm := (List.contains_iff_mem).1 hc
      by_cases hj : j = s.length + 1
      · subst hj
        rw [List.take_append, List.take_of_length_le (by omega), show s.length + 1 - s.length = 1 by omega] at hc
        simp only [List.take_succ_cons, List.take_zero] at hc
        rw [hmax] at hc
        cases hc
      · have hj3 : j = 3 := by omega
        subst hj3
        have h5 := signs_half _ hm (by rw [List.length_take]; omega)
        rw [List.take_take, show min 2 3 = s.length + 1 by omega, List.take_append, List.take_of_length_le (by omega), show s.length + 1 - s.length = 1 by omega] at h5
        simp only [List.take_succ_cons, List.take_zero] at h5
        rw [hmax] at h5
        cases h5

/-- A cut hangs on the byte behind it, and on none further behind. -/
theorem cut1_near (b : UInt8) (r r' s : Bytes) (hne : cut1 (s ++ b :: r) ≠ .bad) (hlen : (cut1 (s ++ b :: r)).len = s.length) : cut1 (s ++ b :: r') = cut1 (s ++ b :: r) := by
  have hl := cut1_len _ hne
  have hs0 : 0 < s.length := by omega
  obtain ⟨c, t, rfl⟩ : ∃ c t, s = c :: t := by
    cases s with
    | nil => simp at hs0
    | cons c t => exact ⟨c, t, rfl⟩
  have hnm := takeWhile_near isInName b r r' (c :: t)
  have hdg := takeWhile_near isDigit b r r' (c :: t)
  have hsy := takeWhile_near isSymbol b r r' (c :: t)
  have hsg := signLen_near b r r' (c :: t) hs0
  clear hl
  simp only [List.cons_append] at hne hlen hnm hdg hsy hsg ⊢
  rw [cut1] at hne hlen
  rw [cut1, cut1]
  by_cases h1 : isBlank c
  · simp [h1]
  by_cases h2 : isLetter c
  · simp only [h1, h2, if_true, Bool.false_eq_true, if_false] at hne hlen ⊢
    unfold cutName at hne hlen ⊢
    simp only at hne hlen ⊢
    split at hne
    · rename_i h5
      rw [if_pos h5] at hlen
      obtain ⟨e1, e2, _⟩ := hnm hlen
      rw [e1, e2]
    · exact absurd rfl hne
  by_cases h3 : isDigit c
  · simp only [h1, h2, h3, if_true, Bool.false_eq_true, if_false] at hne hlen ⊢
    unfold cutNumber at hne hlen ⊢
    simp only at hne hlen ⊢
    split at hne
    · rename_i h5
      rw [if_pos h5] at hlen
      obtain ⟨e1, e2, _⟩ := hdg hlen
      rw [e1, e2]
      have hd : ∀ x : Bytes, (c :: (t ++ b :: x)).drop (c :: t).length = b :: x := fun x => by rw [← List.cons_append, List.drop_left]
      rw [hd, hd]
      simp only [List.head?_cons]
      rfl
    · exact absurd rfl hne
  by_cases h4 : isSymbol c
  · simp only [h1, h2, h3, h4, if_true, Bool.false_eq_true, if_false] at hne hlen ⊢
    unfold cutSymbols at hne hlen ⊢
    simp only at hne hlen ⊢
    split at hne
    · rename_i h5
      rw [if_pos h5] at hlen
      obtain ⟨e1, e2, _⟩ := hsy hlen
      rw [e1, e2]
    · exact absurd rfl hne
  · simp only [h1, h2, h3, h4, Bool.false_eq_true, if_false] at hne hlen ⊢
    unfold cutSign at hne hlen ⊢
    have h2t : ∀ x : Bytes, (c :: (t ++ b :: x)).take 2 = (c :: (t ++ [b])).take 2 := fun x => by
      cases t <;> simp
    rw [h2t r] at hne hlen
    rw [h2t r, h2t r']
    by_cases hcm : (c :: (t ++ [b])).take 2 = [40, 42]
    · rw [if_pos hcm] at hne hlen
      rw [if_pos hcm, if_pos hcm]
      cases hcom : com 1 ((c :: (t ++ b :: r)).drop 2) with
      | none => rw [hcom] at hne; exact absurd rfl hne
      | some n =>
        rw [hcom] at hlen
        simp only [Cut.len, List.length_cons] at hlen
        have h6 := com_take 1 _ n n hcom (Nat.le_refl _)
        obtain ⟨y, t', rfl⟩ : ∃ y t', t = y :: t' := by
          cases t with
          | nil => simp at hlen
          | cons y t' => exact ⟨y, t', rfl⟩
        simp only [List.length_cons] at hlen
        simp only [List.cons_append, List.drop_succ_cons, List.drop_zero] at h6 ⊢
        rw [List.take_append_of_le_length (by omega), List.take_of_length_le (by omega)] at h6
        rw [com_append 1 t' (b :: r') n h6]
    · rw [if_neg hcm] at hne hlen
      rw [if_neg hcm, if_neg hcm]
      cases hk : signLen (c :: (t ++ b :: r)) 3 with
      | zero => rw [hk] at hne; exact absurd rfl hne
      | succ k =>
        rw [hk] at hlen
        simp only [Cut.len] at hlen
        rw [hsg (by rw [hk]; exact hlen), ← hlen]
        simp only
        rw [← List.cons_append, ← List.cons_append, List.take_append_of_le_length (by omega), List.take_append_of_le_length (by omega)]
end Lx
