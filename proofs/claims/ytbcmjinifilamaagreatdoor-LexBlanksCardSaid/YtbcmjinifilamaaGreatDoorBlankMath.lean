/- A text with blanks and comments laid in ahead of one of its tokens, or behind the last one. -/
import Derived.Test.YtbcmjinifilamaaGreatDoorPure
namespace Lx

/-- Cut off ahead of a token: the tokens before it, and nothing wrong. -/
theorem cuts_upto : ∀ (n p : Nat) (l : Bytes), l.length ≤ n → ∀ (pre : List Tok) (t : Tok) (ts : List Tok), (cuts p l).toks = pre ++ t :: ts →
    p ≤ t.at_ ∧ t.at_ ≤ p + l.length ∧ (cuts p (l.take (t.at_ - p))).toks = pre ∧ (cuts p (l.take (t.at_ - p))).bad = none ∧ (cuts t.at_ (l.drop (t.at_ - p))).toks = t :: ts ∧ (cuts t.at_ (l.drop (t.at_ - p))).bad = (cuts p l).bad
  | n, p, [], _, pre, t, ts, h => by simp [cuts_nil] at h
  | n + 1, p, c :: r, hn, pre, t, ts, h => by
    simp only [List.length_cons] at hn
    have hlen := cut1_len (c :: r)
    have hcc := cuts_cons p c r
    have htake := cut1_take (c :: r)
    cases hc : cut1 (c :: r) with
    | bad => rw [hcc, hc] at h; simp at h
    | skip =>
      rw [hc] at hcc htake
      rw [hcc] at h ⊢
      simp only at h ⊢
      obtain ⟨h1, h2, h3, h4, h5, h6⟩ := cuts_upto n (p + 1) r (by omega) pre t ts h
      obtain ⟨i, hi⟩ : ∃ i, t.at_ - p = i + 1 := ⟨t.at_ - p - 1, by omega⟩
      have hi2 : t.at_ - (p + 1) = i := by omega
      rw [hi2] at h3 h4 h5 h6
      have e := htake (i + 1) (by simp) (by simp [Cut.len])
      rw [hi]
      rw [List.take_succ_cons] at e ⊢
      rw [cuts_cons, e]
      exact ⟨by omega, by simp only [List.length_cons]; omega, h3, h4, h5, h6⟩
    | comment k =>
      rw [hc] at hcc hlen htake
      have hl := hlen (by simp)
      simp only [Cut.len, List.length_cons] at hl
      rw [hcc] at h ⊢
      simp only [Out.com] at h ⊢
      obtain ⟨h1, h2, h3, h4, h5, h6⟩ := cuts_upto n (p + k) ((c :: r).drop k) (by simp; omega) pre t ts h
      obtain ⟨i, hi⟩ : ∃ i, t.at_ - p = k + i := ⟨t.at_ - p - k, by omega⟩
      have hi2 : t.at_ - (p + k) = i := by omega
      rw [hi2] at h3 h4 h5 h6
      rw [List.drop_drop] at h5 h6
      simp only [List.length_drop, List.length_cons] at h2
      have e := htake (k + i) (by simp) (by simp [Cut.len])
      obtain ⟨m, hm⟩ : ∃ m, k + i = m + 1 := ⟨k + i - 1, by omega⟩
      have e2 : (c :: r).take (k + i) = c :: r.take m := by rw [hm, List.take_succ_cons]
      have e3 : ((c :: r).take (k + i)).drop k = ((c :: r).drop k).take i := by rw [List.drop_take, show k + i - k = i by omega]
      rw [hi]
      refine ⟨by omega, by simp only [List.length_cons]; omega, ?_, ?_, h5, h6⟩
      · rw [e2] at e e3 ⊢
        rw [cuts_cons, e]
        simp only [Out.com]
        rw [e3]
        exact h3
      · rw [e2] at e e3 ⊢
        rw [cuts_cons, e]
        simp only [Out.com]
        rw [e3]
        exact h4
    | tok kd m s k =>
      rw [hc] at hcc hlen htake
      have hl := hlen (by simp)
      simp only [Cut.len, List.length_cons] at hl
      rw [hcc] at h
      simp only [Out.tok] at h
      cases pre with
      | nil =>
        simp only [List.nil_append, List.cons.injEq] at h
        obtain ⟨rfl, rfl⟩ := h
        refine ⟨Nat.le_refl _, by simp, by simp [cuts_nil], by simp [cuts_nil], ?_, ?_⟩
        · simp only [Nat.sub_self, List.drop_zero]
          rw [hcc]
          rfl
        · simp only [Nat.sub_self, List.drop_zero]
      | cons x pre =>
        simp only [List.cons_append, List.cons.injEq] at h
        obtain ⟨rfl, h⟩ := h
        obtain ⟨h1, h2, h3, h4, h5, h6⟩ := cuts_upto n (p + k) ((c :: r).drop k) (by simp; omega) pre t ts h
        obtain ⟨i, hi⟩ : ∃ i, t.at_ - p = k + i := ⟨t.at_ - p - k, by omega⟩
        have hi2 : t.at_ - (p + k) = i := by omega
        rw [hi2] at h3 h4 h5 h6
        rw [List.drop_drop] at h5 h6
        simp only [List.length_drop, List.length_cons] at h2
        have e := htake (k + i) (by simp) (by simp [Cut.len])
        obtain ⟨m', hm⟩ : ∃ m', k + i = m' + 1 := ⟨k + i - 1, by omega⟩
        have e2 : (c :: r).take (k + i) = c :: r.take m' := by rw [hm, List.take_succ_cons]
        have e3 : ((c :: r).take (k + i)).drop k = ((c :: r).drop k).take i := by rw [List.drop_take, show k + i - k = i by omega]
        rw [hi]
        refine ⟨by omega, by simp only [List.length_cons]; omega, ?_, ?_, h5, ?_⟩
        · rw [e2] at e e3 ⊢
          rw [cuts_cons, e]
          simp only [Out.tok]
          rw [e3, h3]
        · rw [e2] at e e3 ⊢
          rw [cuts_cons, e]
          simp only [Out.tok]
          rw [e3, h4]
        · rw [h6, hcc]
          rfl

/-- Blanks and comments alone: cut from wherever. -/
theorem fill_cuts {f : Bytes} (h1 : (toks f).toks = []) (h2 : (toks f).bad = none) (p : Nat) : (cuts p f).toks = [] ∧ (cuts p f).bad = none := by
  have h := cuts_at_zero p f
  rw [h1, h2] at h
  exact ⟨h.1, h.2⟩

/-- A blank, blanks and comments, a blank: nothing but the places moves. -/
theorem cuts_filled (x f y : Bytes) (p : Nat) (hx : (cuts p x).bad = none) (h1 : (toks f).toks = []) (h2 : (toks f).bad = none) :
    (cuts p (x ++ 32 :: (f ++ 32 :: y))).toks = (cuts p x).toks ++ (cuts (p + x.length + f.length + 2) y).toks ∧
    (cuts p (x ++ 32 :: (f ++ 32 :: y))).bad = (cuts (p + x.length + f.length + 2) y).bad := by
  have hbl : isBlank 32 = true := by decide
  have hf := fill_cuts h1 h2 (p + x.length + 1)
  have e1 := cuts_app 32 (f ++ 32 :: y) hbl x.length p x (Nat.le_refl _) hx
  have e2 := cuts_app 32 y hbl f.length (p + x.length + 1) f (Nat.le_refl _) hf.2
  rw [e1, cuts_cons, cut1_blank hbl]
  simp only
  rw [e2, cuts_cons, cut1_blank hbl]
  simp only [Out.pre, hf.1, List.nil_append]
  rw [show p + x.length + 1 + f.length + 1 = p + x.length + f.length + 2 by omega]
  exact ⟨rfl, rfl⟩

theorem cuts_moved (y : Bytes) (p d : Nat) : (cuts (p + d) y).toks = (cuts p y).toks.map (Tok.by d) ∧ (cuts (p + d) y).bad = (cuts p y).bad.map (· + d) := by
  have := cuts_shift d y.length p y (Nat.le_refl _)
  rw [this]
  exact ⟨rfl, rfl⟩

/-- Blanks and comments laid in ahead of token number k (or behind the last one). -/
theorem blanks_law (l f : Bytes) (hb : (toks l).bad = none) (h1 : (toks f).toks = []) (h2 : (toks f).bad = none) (k A : Nat) (hA : A = ((toks l).toks[k]?.map Tok.at_).getD l.length) :
    A ≤ l.length ∧ (toks (l.take A ++ 32 :: (f ++ 32 :: l.drop A))).bad = none ∧
    (toks (l.take A ++ 32 :: (f ++ 32 :: l.drop A))).toks = (toks l).toks.take k ++ ((toks l).toks.drop k).map (Tok.by (f.length + 2)) := by
  have key : A ≤ l.length ∧ (cuts 0 (l.take A)).toks = (toks l).toks.take k ∧ (cuts 0 (l.take A)).bad = none ∧ (cuts A (l.drop A)).toks = (toks l).toks.drop k ∧ (cuts A (l.drop A)).bad = none := by
    rcases Nat.lt_or_ge k (toks l).toks.length with hlt | hge
    · rw [List.getElem?_eq_getElem hlt] at hA
      simp only [Option.map_some, Option.getD_some] at hA
      have hsp : (cuts 0 l).toks = (toks l).toks.take k ++ (toks l).toks[k] :: (toks l).toks.drop (k + 1) := by
        rw [List.getElem_cons_drop hlt, List.take_append_drop]; rfl
      obtain ⟨g1, g2, g3, g4, g5, g6⟩ := cuts_upto l.length 0 l (Nat.le_refl _) _ _ _ hsp
      rw [Nat.sub_zero, ← hA] at g3 g4 g5 g6
      rw [← hA] at g2
      exact ⟨by omega, g3, g4, by rw [g5]; exact (List.getElem_cons_drop hlt), g6.trans hb⟩
    · rw [List.getElem?_eq_none hge] at hA
      simp only [Option.map_none, Option.getD_none] at hA
      subst hA
      rw [List.take_length, List.drop_length, cuts_nil]
      exact ⟨Nat.le_refl _, by rw [List.take_of_length_le hge]; rfl, hb, by rw [List.drop_of_length_le hge], rfl⟩
  obtain ⟨a1, a2, a3, a4, a5⟩ := key
  obtain ⟨c1, c2⟩ := cuts_filled (l.take A) f (l.drop A) 0 a3 h1 h2
  have hlen : (l.take A).length = A := by rw [List.length_take]; omega
  obtain ⟨m1, m2⟩ := cuts_moved (l.drop A) A (f.length + 2)
  rw [hlen, show 0 + A + f.length + 2 = A + (f.length + 2) by omega] at c1 c2
  rw [m1, a2, a4] at c1
  rw [m2, a5] at c2
  exact ⟨a1, c2, c1⟩
end Lx
