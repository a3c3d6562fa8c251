/- Two texts with a blank between them. -/
import Derived.Test.YtbcmjinifilamaaDoorStripMath
namespace Lx

theorem takeWhile_stop (p : UInt8 → Bool) (b : UInt8) (r : Bytes) (hb : p b = false) : ∀ l : Bytes, (l ++ b :: r).takeWhile p = l.takeWhile p
  | [] => by simp [hb]
  | c :: l => by
    simp only [List.cons_append, List.takeWhile_cons]
    split
    · rw [takeWhile_stop p b r hb l]
    · rfl

theorem signs_no_blank : ∀ s ∈ signs, ∀ b ∈ s, isBlank b = false := by decide +kernel
theorem signs_short : ∀ s ∈ signs, s.length ≤ 3 := by decide +kernel

theorem blank_cases {b : UInt8} (h : isBlank b = true) : b = 32 ∨ b = 9 ∨ b = 10 ∨ b = 13 := by
  simpa [isBlank, or_assoc] using h

theorem blank_other {b : UInt8} (h : isBlank b = true) : isInName b = false ∧ isDigit b = false ∧ isSymbol b = false ∧ isLetter b = false := by
  rcases blank_cases h with rfl | rfl | rfl | rfl <;> decide

theorem signLen_stop (b : UInt8) (r : Bytes) (hb : isBlank b = true) (l : Bytes) : ∀ k, signLen (l ++ b :: r) k = signLen l k
  | 0 => rfl
  | k + 1 => by
    rw [signLen, signLen, signLen_stop b r hb l k]
    by_cases hk : k + 1 ≤ l.length
    · rw [List.take_append_of_le_length hk]
      have h1 : k + 1 ≤ (l ++ b :: r).length := by simp; omega
      rw [decide_eq_true h1, decide_eq_true hk]
    · have hn : signs.contains ((l ++ b :: r).take (k + 1)) = false := by
        rw [Bool.eq_false_iff]
        intro h
        rw [List.contains_iff_mem] at h
        have hm : b ∈ (l ++ b :: r).take (k + 1) := by
          rw [List.take_append]
          refine List.mem_append.2 (.inr ?_)
          obtain ⟨j, hj⟩ : ∃ j, k + 1 - l.length = j + 1 := ⟨k - l.length, by omega⟩
          rw [hj, List.take_succ_cons]
          exact List.mem_cons_self
        have := signs_no_blank _ h b hm
        rw [hb] at this
        cases this
      simp only [hn, Bool.and_false, Bool.false_eq_true, if_false, if_neg (show ¬ (decide (k + 1 ≤ l.length) && signs.contains (l.take (k + 1))) = true by simp [hk])]

theorem com_append : ∀ (d : Nat) (l r : Bytes) (n : Nat), com d l = some n → com d (l ++ r) = some n
  | d, [], r, n, h => by simp [com] at h
  | d, [x], r, n, h => by simp [com] at h
  | d, x :: y :: l, r, n, h => by
    by_cases h1 : x = 40 ∧ y = 42
    · obtain ⟨rfl, rfl⟩ := h1
      rw [List.cons_append, List.cons_append, com]
      rw [com] at h
      simp only [Option.map_eq_some_iff] at h ⊢
      obtain ⟨k, hk, rfl⟩ := h
      exact ⟨k, com_append (d + 1) l r k hk, rfl⟩
    · by_cases h2 : x = 42 ∧ y = 41
      · obtain ⟨rfl, rfl⟩ := h2
        rw [List.cons_append, List.cons_append, com]
        rw [com] at h
        split at h
        · rename_i hd; rw [if_pos hd]; exact h
        · rename_i hd
          rw [if_neg hd]
          simp only [Option.map_eq_some_iff] at h ⊢
          obtain ⟨k, hk, rfl⟩ := h
          exact ⟨k, com_append (d - 1) l r k hk, rfl⟩
      · have hc : ∀ t : Bytes, com d (x :: y :: t) = (com d (y :: t)).map (· + 1) := by
          intro t
          rw [com]
          · intro r' ex e
            simp at e
            exact h1 ⟨ex, e.1⟩
          · intro r' ex e
            simp at e
            exact h2 ⟨ex, e.1⟩
        rw [List.cons_append, List.cons_append, hc]
        rw [hc] at h
        simp only [Option.map_eq_some_iff] at h ⊢
        obtain ⟨k, hk, rfl⟩ := h
        exact ⟨k, com_append d (y :: l) r k hk, rfl⟩

/-- A blank behind a text changes no cut at its head, but for that of a comment without an end. -/
theorem cut1_stop (b : UInt8) (r : Bytes) (hb : isBlank b = true) (l : Bytes) (hne : l ≠ []) (hc : l.take 2 = [40, 42] → cut1 l ≠ .bad) : cut1 (l ++ b :: r) = cut1 l := by
  obtain ⟨hb1, hb2, hb3, hb4⟩ := blank_other hb
  match l, hne with
  | c :: t, _ =>
    have hnm := takeWhile_stop isInName b r hb1 (c :: t)
    have hdg := takeWhile_stop isDigit b r hb2 (c :: t)
    have hsy := takeWhile_stop isSymbol b r hb3 (c :: t)
    have hsg := signLen_stop b r hb (c :: t) 3
    rw [List.cons_append] at hnm hdg hsy hsg ⊢
    rw [cut1, cut1]
    by_cases h1 : isBlank c
    · simp [h1]
    by_cases h2 : isLetter c
    · simp only [h1, h2, if_true, Bool.false_eq_true, if_false]
      unfold cutName
      simp only [hnm]
    by_cases h3 : isDigit c
    · simp only [h1, h2, h3, if_true, Bool.false_eq_true, if_false]
      unfold cutNumber
      simp only [hdg]
      have hle := takeWhile_len isDigit (c :: t)
      have hany : ((c :: (t ++ b :: r)).drop ((c :: t).takeWhile isDigit).length).head?.any isInName = ((c :: t).drop ((c :: t).takeWhile isDigit).length).head?.any isInName := by
        rw [← List.cons_append, List.drop_append_of_le_length hle]
        cases hd : (c :: t).drop ((c :: t).takeWhile isDigit).length with
        | nil => simp [hb1]
        | cons y ys => simp
      rw [hany]
    by_cases h4 : isSymbol c
    · simp only [h1, h2, h3, h4, if_true, Bool.false_eq_true, if_false]
      unfold cutSymbols
      simp only [hsy]
    · simp only [h1, h2, h3, h4, Bool.false_eq_true, if_false]
      unfold cutSign
      rw [hsg]
      have hsl := signLen_le (c :: t) 3
      match t with
      | [] =>
        have hx : b ≠ 42 := by rcases blank_cases hb with rfl | rfl | rfl | rfl <;> decide
        rw [if_neg (by simp [hx]), if_neg (by simp)]
        cases hk : signLen [c] 3 with
        | zero => rfl
        | succ k =>
          rw [hk] at hsl
          have h0 : k = 0 := by simp at hsl; omega
          subst h0
          rfl
      | y :: t =>
        have ht : (c :: (y :: t ++ b :: r)).take 2 = (c :: y :: t).take 2 := by simp
        rw [ht]
        by_cases hcm : (c :: y :: t).take 2 = [40, 42]
        · rw [if_pos hcm, if_pos hcm]
          have hnb := hc hcm
          rw [cut1] at hnb
          simp only [h1, h2, h3, h4, Bool.false_eq_true, if_false] at hnb
          unfold cutSign at hnb
          rw [if_pos hcm] at hnb
          simp only [List.cons_append, List.drop_succ_cons, List.drop_zero] at hnb ⊢
          cases hcom : com 1 t with
          | none => rw [hcom] at hnb; exact absurd rfl hnb
          | some n =>
            rw [com_append 1 t (b :: r) n hcom]
        · rw [if_neg hcm, if_neg hcm]
          cases hk : signLen (c :: y :: t) 3 with
          | zero => rfl
          | succ k =>
            rw [hk] at hsl
            simp only
            rw [← List.cons_append, List.take_append_of_le_length (by omega)]

/-- A text, a blank, and another text: the cuts of the first one stay. -/
theorem cuts_app (b : UInt8) (r : Bytes) (hb : isBlank b = true) : ∀ (n p : Nat) (l : Bytes), l.length ≤ n → (cuts p l).bad = none →
    cuts p (l ++ b :: r) = (cuts (p + l.length) (b :: r)).pre (cuts p l).toks (cuts p l).coms
  | n, p, [], _, _ => by simp [cuts_nil, Out.pre]
  | n + 1, p, c :: t, hn, hbad => by
    have hlen := cut1_len (c :: t)
    have hne : cut1 (c :: t) ≠ .bad := by
      intro h
      rw [cuts_cons, h] at hbad
      cases hbad
    have hl := hlen hne
    have hst := cut1_stop b r hb (c :: t) (by simp) (fun _ => hne)
    rw [cuts_cons] at hbad
    rw [List.cons_append] at hst ⊢
    rw [cuts_cons, hst, cuts_cons]
    simp only [List.length_cons] at hn hl ⊢
    cases hc : cut1 (c :: t) with
    | skip =>
      rw [hc] at hbad
      simp only at hbad ⊢
      rw [cuts_app b r hb n (p + 1) t (by omega) hbad]
      rw [show p + 1 + t.length = p + (t.length + 1) by omega]
    | comment k =>
      rw [hc] at hbad hl
      simp only [Out.com, Cut.len] at hbad hl ⊢
      rw [← List.cons_append, List.drop_append_of_le_length (by simp; omega)]
      rw [cuts_app b r hb n (p + k) ((c :: t).drop k) (by simp; omega) hbad]
      rw [show p + k + ((c :: t).drop k).length = p + (t.length + 1) by simp; omega]
      rfl
    | tok kd m s k =>
      rw [hc] at hbad hl
      simp only [Out.tok, Cut.len] at hbad hl ⊢
      rw [← List.cons_append, List.drop_append_of_le_length (by simp; omega)]
      rw [cuts_app b r hb n (p + k) ((c :: t).drop k) (by simp; omega) hbad]
      rw [show p + k + ((c :: t).drop k).length = p + (t.length + 1) by simp; omega]
      rfl
    | bad => exact absurd hc hne

/-- What is wrong stays wrong with a blank and another text behind it, but for a comment without an end. -/
theorem cuts_app_bad (b : UInt8) (r : Bytes) (hb : isBlank b = true) : ∀ (n p : Nat) (l : Bytes) (q : Nat), l.length ≤ n → (cuts p l).bad = some q →
    p ≤ q ∧ q < p + l.length ∧ ((l.drop (q - p)).take 2 = [40, 42] ∨ (cuts p (l ++ b :: r)).bad = some q)
  | n, p, [], q, _, h => by simp [cuts_nil] at h
  | n + 1, p, c :: t, q, hn, hbad => by
    have hlen := cut1_len (c :: t)
    rw [cuts_cons] at hbad
    by_cases hne : cut1 (c :: t) = .bad
    · rw [hne] at hbad
      simp only [Option.some.injEq] at hbad
      subst hbad
      refine ⟨Nat.le_refl _, by simp, ?_⟩
      rw [Nat.sub_self, List.drop_zero]
      by_cases h2 : (c :: t).take 2 = [40, 42]
      · exact .inl h2
      · right
        have hst := cut1_stop b r hb (c :: t) (by simp) (fun h => absurd h h2)
        rw [List.cons_append] at hst ⊢
        rw [cuts_cons, hst, hne]
    · have hl := hlen hne
      have hst := cut1_stop b r hb (c :: t) (by simp) (fun _ => hne)
      rw [List.cons_append] at hst ⊢
      rw [cuts_cons, hst]
      simp only [List.length_cons] at hn hl ⊢
      cases hc : cut1 (c :: t) with
      | skip =>
        rw [hc] at hbad
        simp only at hbad ⊢
        obtain ⟨h1, h2, h3⟩ := cuts_app_bad b r hb n (p + 1) t q (by omega) hbad
        refine ⟨by omega, by omega, ?_⟩
        rw [show q - p = (q - (p + 1)) + 1 by omega, List.drop_succ_cons]
        exact h3
      | comment k =>
        rw [hc] at hbad hl
        simp only [Out.com, Cut.len] at hbad hl ⊢
        obtain ⟨h1, h2, h3⟩ := cuts_app_bad b r hb n (p + k) ((c :: t).drop k) q (by simp; omega) hbad
        simp only [List.length_drop, List.length_cons] at h2
        refine ⟨by omega, by omega, ?_⟩
        rw [← List.cons_append, List.drop_append_of_le_length (by simp; omega)]
        rw [List.drop_drop] at h3
        rw [show q - p = k + (q - (p + k)) by omega]
        exact h3
      | tok kd m s k =>
        rw [hc] at hbad hl
        simp only [Out.tok, Cut.len] at hbad hl ⊢
        obtain ⟨h1, h2, h3⟩ := cuts_app_bad b r hb n (p + k) ((c :: t).drop k) q (by simp; omega) hbad
        simp only [List.length_drop, List.length_cons] at h2
        refine ⟨by omega, by omega, ?_⟩
        rw [← List.cons_append, List.drop_append_of_le_length (by simp; omega)]
        rw [List.drop_drop] at h3
        rw [show q - p = k + (q - (p + k)) by omega]
        exact h3
      | bad => exact absurd hc hne

def Tok.by (d : Nat) (t : Tok) : Tok := { t with at_ := t.at_ + d, end_ := t.end_ + d }

/-- A text that stands further behind. -/
theorem cuts_shift (d : Nat) : ∀ (n p : Nat) (l : Bytes), l.length ≤ n → cuts (p + d) l = ⟨(cuts p l).toks.map (Tok.by d), (cuts p l).coms.map (fun c => (c.1 + d, c.2 + d)), (cuts p l).bad.map (· + d)⟩
  | n, p, [], _ => by simp [cuts_nil]
  | n + 1, p, c :: t, hn => by
    have hlen := cut1_len (c :: t)
    simp only [List.length_cons] at hn hlen
    rw [cuts_cons, cuts_cons]
    cases hc : cut1 (c :: t) with
    | skip =>
      simp only
      rw [show p + d + 1 = p + 1 + d by omega, cuts_shift d n (p + 1) t (by omega)]
    | comment k =>
      rw [hc] at hlen
      have hl := hlen (by simp)
      simp only [Cut.len] at hl
      simp only [Out.com]
      rw [show p + d + k = p + k + d by omega, cuts_shift d n (p + k) ((c :: t).drop k) (by simp; omega)]
      simp
    | tok kd m s k =>
      rw [hc] at hlen
      have hl := hlen (by simp)
      simp only [Cut.len] at hl
      simp only [Out.tok]
      rw [show p + d + k = p + k + d by omega, cuts_shift d n (p + k) ((c :: t).drop k) (by simp; omega)]
      simp [Tok.by]
    | bad => simp
end Lx
