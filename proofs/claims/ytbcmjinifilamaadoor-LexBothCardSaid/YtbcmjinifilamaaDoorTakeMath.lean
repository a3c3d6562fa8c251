/- A text up to what is wrong. -/
import Derived.Test.YtbcmjinifilamaaDoorAppMath
namespace Lx

theorem takeWhile_take (p : UInt8 → Bool) : ∀ (l : Bytes) (m : Nat), (l.takeWhile p).length ≤ m → (l.take m).takeWhile p = l.takeWhile p
  | [], m, _ => by simp
  | c :: t, m, h => by
    simp only [List.takeWhile_cons] at h ⊢
    split at h
    · rename_i hc
      simp only [List.length_cons] at h
      obtain ⟨m', rfl⟩ : ∃ m', m = m' + 1 := ⟨m - 1, by omega⟩
      rw [List.take_succ_cons, List.takeWhile_cons, if_pos hc, if_pos hc, takeWhile_take p t m' (by omega)]
    · rename_i hc
      rw [if_neg hc]
      cases m with
      | zero => simp
      | succ m => simp [hc]

theorem signLen_take (l : Bytes) (m : Nat) : ∀ k, signLen l k ≤ m → signLen (l.take m) k = signLen l k
  | 0, _ => rfl
  | k + 1, h => by
    rw [signLen] at h
    rw [signLen, signLen]
    by_cases hc : (decide (k + 1 ≤ l.length) && signs.contains (l.take (k + 1))) = true
    · rw [if_pos hc] at h ⊢
      have hk : k + 1 ≤ l.length := by simp at hc; exact hc.1
      rw [if_pos]
      rw [List.take_take, Nat.min_eq_left h, List.length_take]
      simp only [Bool.and_eq_true, decide_eq_true_eq] at hc ⊢
      exact ⟨by omega, hc.2⟩
    · rw [if_neg hc] at h ⊢
      rw [if_neg, signLen_take l m k h]
      intro hx
      apply hc
      simp only [Bool.and_eq_true, decide_eq_true_eq, List.length_take] at hx ⊢
      obtain ⟨h1, h2⟩ := hx
      rw [List.take_take, Nat.min_eq_left (by omega)] at h2
      exact ⟨by omega, h2⟩

theorem com_take : ∀ (d : Nat) (l : Bytes) (n m : Nat), com d l = some n → n ≤ m → com d (l.take m) = some n
  | d, [], n, m, h, _ => by simp [com] at h
  | d, [x], n, m, h, _ => by simp [com] at h
  | d, x :: y :: l, n, m, h, hm => by
    by_cases h1 : x = 40 ∧ y = 42
    · obtain ⟨rfl, rfl⟩ := h1
      rw [com] at h
      simp only [Option.map_eq_some_iff] at h
      obtain ⟨k, hk, rfl⟩ := h
      obtain ⟨m', rfl⟩ : ∃ m', m = m' + 2 := ⟨m - 2, by omega⟩
      rw [List.take_succ_cons, List.take_succ_cons, com, com_take (d + 1) l k m' hk (by omega)]
      rfl
    · by_cases h2 : x = 42 ∧ y = 41
      · obtain ⟨rfl, rfl⟩ := h2
        rw [com] at h
        split at h
        · rename_i hd
          simp only [Option.some.injEq] at h
          obtain ⟨m', rfl⟩ : ∃ m', m = m' + 2 := ⟨m - 2, by omega⟩
          rw [List.take_succ_cons, List.take_succ_cons, com, if_pos hd, h]
        · rename_i hd
          simp only [Option.map_eq_some_iff] at h
          obtain ⟨k, hk, rfl⟩ := h
          obtain ⟨m', rfl⟩ : ∃ m', m = m' + 2 := ⟨m - 2, by omega⟩
          rw [List.take_succ_cons, List.take_succ_cons, com, if_neg hd, com_take (d - 1) l k m' hk (by omega)]
          rfl
      · have hc : ∀ t : Bytes, com d (x :: y :: t) = (com d (y :: t)).map (· + 1) := by
          intro t
          rw [com]
          · intro r' ex e
            simp at e
            exact h1 ⟨ex, e.1⟩
          · intro r' ex e
            simp at e
            exact h2 ⟨ex, e.1⟩
        rw [hc] at h
        simp only [Option.map_eq_some_iff] at h
        obtain ⟨k, hk, rfl⟩ := h
        have hkl := com_len d (y :: l) k hk
        obtain ⟨m', rfl⟩ : ∃ m', m = m' + 2 := ⟨m - 2, by omega⟩
        rw [List.take_succ_cons, List.take_succ_cons, hc]
        have ih := com_take d (y :: l) k (m' + 1) hk (by omega)
        rw [List.take_succ_cons] at ih
        rw [ih]
        rfl

theorem cut1_take (l : Bytes) (m : Nat) (h : cut1 l ≠ .bad) (hm : (cut1 l).len ≤ m) : cut1 (l.take m) = cut1 l := by
  have hl := cut1_len l h
  match l, h with
  | [], h => exact absurd rfl h
  | c :: t, h =>
    obtain ⟨m', rfl⟩ : ∃ m', m = m' + 1 := ⟨m - 1, by omega⟩
    have htk : (c :: t).take (m' + 1) = c :: t.take m' := List.take_succ_cons
    have hnm := takeWhile_take isInName (c :: t) (m' + 1)
    have hdg := takeWhile_take isDigit (c :: t) (m' + 1)
    have hsy := takeWhile_take isSymbol (c :: t) (m' + 1)
    have hsg := signLen_take (c :: t) (m' + 1) 3
    rw [htk] at hnm hdg hsy hsg ⊢
    rw [cut1] at h hm hl ⊢
    rw [cut1]
    by_cases h1 : isBlank c
    · simp [h1]
    by_cases h2 : isLetter c
    · simp only [h1, h2, if_true, Bool.false_eq_true, if_false] at h hm ⊢
      unfold cutName at h hm ⊢
      simp only at h hm ⊢
      split at h
      · rename_i h5
        rw [if_pos h5] at hm
        rw [hnm hm]
      · exact absurd rfl h
    by_cases h3 : isDigit c
    · simp only [h1, h2, h3, if_true, Bool.false_eq_true, if_false] at h hm ⊢
      unfold cutNumber at h hm ⊢
      simp only at h hm ⊢
      split at h
      · rename_i h5
        rw [if_pos h5] at hm
        simp only [Cut.len] at hm
        rw [hdg hm]
        have h6 : ((c :: t.take m').drop ((c :: t).takeWhile isDigit).length).head?.any isInName = false := by
          rw [← htk, List.drop_take]
          simp only [Bool.and_eq_true, Bool.not_eq_true'] at h5
          rw [List.head?_take]
          split
          · rfl
          · exact h5.2
        rw [if_pos h5, if_pos]
        simp only [Bool.and_eq_true, Bool.not_eq_true'] at h5 ⊢
        exact ⟨h5.1, h6⟩
      · exact absurd rfl h
    by_cases h4 : isSymbol c
    · simp only [h1, h2, h3, h4, if_true, Bool.false_eq_true, if_false] at h hm ⊢
      unfold cutSymbols at h hm ⊢
      simp only at h hm ⊢
      split at h
      · rename_i h5
        rw [if_pos h5] at hm
        rw [hsy hm]
      · exact absurd rfl h
    · simp only [h1, h2, h3, h4, Bool.false_eq_true, if_false] at h hm ⊢
      unfold cutSign at h hm ⊢
      by_cases hcm : (c :: t).take 2 = [40, 42]
      · rw [if_pos hcm] at h hm ⊢
        cases hcom : com 1 ((c :: t).drop 2) with
        | none => rw [hcom] at h; exact absurd rfl h
        | some n =>
          rw [hcom] at hm
          simp only [Cut.len] at hm
          rw [← htk, List.take_take, Nat.min_eq_left (by omega), if_pos hcm, List.drop_take, com_take 1 _ n _ hcom (by omega)]
      · rw [if_neg hcm] at h hm ⊢
        have hcm2 : ¬ (c :: t.take m').take 2 = [40, 42] := by
          rw [← htk, List.take_take]
          intro hx
          by_cases h5 : 2 ≤ m' + 1
          · rw [Nat.min_eq_left h5] at hx; exact hcm hx
          · have := congrArg List.length hx
            simp only [List.length_take, List.length_cons, List.length_nil] at this
            omega
        rw [if_neg hcm2]
        cases hk : signLen (c :: t) 3 with
        | zero => rw [hk] at h; exact absurd rfl h
        | succ k =>
          rw [hk] at hm hsg
          simp only [Cut.len] at hm
          rw [hsg hm]
          simp only
          rw [← htk, List.take_take, Nat.min_eq_left hm]

/-- Up to what is wrong a text is cut as it was. -/
theorem cuts_take : ∀ (n p : Nat) (l : Bytes) (q : Nat), l.length ≤ n → (cuts p l).bad = some q → cuts p (l.take (q - p)) = ⟨(cuts p l).toks, (cuts p l).coms, none⟩
  | n, p, [], q, _, h => by simp [cuts_nil] at h
  | n + 1, p, c :: t, q, hn, hbad => by
    have hlen := cut1_len (c :: t)
    by_cases hne : cut1 (c :: t) = .bad
    · rw [cuts_cons, hne] at hbad
      simp only [Option.some.injEq] at hbad
      subst hbad
      rw [Nat.sub_self, List.take_zero, cuts_nil, cuts_cons, hne]
    · have hl := hlen hne
      rw [cuts_cons] at hbad
      have hq : p + (cut1 (c :: t)).len ≤ q := by
        cases hc : cut1 (c :: t) with
        | skip => rw [hc] at hbad; exact (cuts_app_bad 32 [] (by decide) t.length (p + 1) t q (Nat.le_refl _) hbad).1
        | comment k => rw [hc] at hbad; exact (cuts_app_bad 32 [] (by decide) _ (p + k) ((c :: t).drop k) q (Nat.le_refl _) hbad).1
        | tok kd m s k => rw [hc] at hbad; exact (cuts_app_bad 32 [] (by decide) _ (p + k) ((c :: t).drop k) q (Nat.le_refl _) hbad).1
        | bad => exact absurd hc hne
      have hst := cut1_take (c :: t) (q - p) hne (by omega)
      obtain ⟨m', hm'⟩ : ∃ m', q - p = m' + 1 := ⟨q - p - 1, by omega⟩
      rw [hm', List.take_succ_cons] at hst ⊢
      rw [cuts_cons, hst, cuts_cons]
      simp only [List.length_cons] at hn hl
      cases hc : cut1 (c :: t) with
      | skip =>
        rw [hc] at hbad
        simp only at hbad ⊢
        have ih := cuts_take n (p + 1) t q (by omega) hbad
        rw [show q - (p + 1) = m' by omega] at ih
        rw [ih]
      | comment k =>
        rw [hc] at hbad hl hq
        simp only [Out.com, Cut.len] at hbad hl hq ⊢
        have ih := cuts_take n (p + k) ((c :: t).drop k) q (by simp; omega) hbad
        rw [← List.take_succ_cons, List.drop_take, show m' + 1 - k = q - (p + k) by omega, ih]
      | tok kd m s k =>
        rw [hc] at hbad hl hq
        simp only [Out.tok, Cut.len] at hbad hl hq ⊢
        have ih := cuts_take n (p + k) ((c :: t).drop k) q (by simp; omega) hbad
        rw [← List.take_succ_cons, List.drop_take, show m' + 1 - k = q - (p + k) by omega, ih]
      | bad => exact absurd hc hne
end Lx
