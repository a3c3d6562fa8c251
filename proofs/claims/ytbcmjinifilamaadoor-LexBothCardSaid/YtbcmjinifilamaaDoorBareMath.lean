/- Comments that have become blanks. -/
import Derived.Test.YtbcmjinifilamaaDoorTakeMath
namespace Lx

/-- Some bytes have become blanks. -/
def Bare (l l' : Bytes) : Prop := ∀ i : Nat, l'[i]? = l[i]? ∨ ∃ b, l'[i]? = some b ∧ isBlank b = true

theorem Bare.tail {c c' : UInt8} {l l' : Bytes} (h : Bare (c :: l) (c' :: l')) : Bare l l' := fun i => by
  have := h (i + 1)
  simpa using this

theorem Bare.drop {l l' : Bytes} (h : Bare l l') (k : Nat) : Bare (l.drop k) (l'.drop k) := fun i => by
  have := h (k + i)
  simpa using this

theorem takeWhile_bare (p : UInt8 → Bool) (hp : ∀ b, isBlank b = true → p b = false) : ∀ (l l' : Bytes), Bare l l' → l'.take (l.takeWhile p).length = l.take (l.takeWhile p).length → l'.takeWhile p = l.takeWhile p
  | [], [], _, _ => rfl
  | [], c' :: t', h, _ => by
    have h0 := h 0
    simp at h0
    simp [hp _ h0]
  | c :: t, [], h, _ => by
    have h0 := h 0
    simp at h0
  | c :: t, c' :: t', h, hk => by
    simp only [List.takeWhile_cons] at hk ⊢
    by_cases hc : p c = true
    · rw [if_pos hc] at hk ⊢
      simp only [List.length_cons, List.take_succ_cons, List.cons.injEq] at hk
      obtain ⟨rfl, hk⟩ := hk
      rw [if_pos hc, takeWhile_bare p hp t t' h.tail hk]
    · rw [if_neg hc]
      rw [if_neg]
      have h0 := h 0
      simp at h0
      rcases h0 with rfl | h0
      · exact hc
      · rw [hp _ h0]; simp

theorem take_bare {l l' : Bytes} (h : Bare l l') (k : Nat) (hn : ∀ b ∈ l'.take k, isBlank b = false) : l'.take k = l.take k := by
  apply List.ext_getElem?
  intro i
  rw [List.getElem?_take, List.getElem?_take]
  split
  · rename_i hi
    rcases h i with h1 | ⟨b, h1, h2⟩
    · exact h1
    · have hm : b ∈ l'.take k := by
        apply List.mem_of_getElem? (i := i)
        rw [List.getElem?_take, if_pos hi]
        exact h1
      have := hn b hm
      rw [h2] at this
      cases this
  · rfl

theorem signLen_bare (l l' : Bytes) (h : Bare l l') (hl : l'.length = l.length) : ∀ k, l'.take (signLen l k) = l.take (signLen l k) → signLen l' k = signLen l k
  | 0, _ => rfl
  | k + 1, hk => by
    rw [signLen] at hk
    rw [signLen, signLen]
    by_cases hc : (decide (k + 1 ≤ l.length) && signs.contains (l.take (k + 1))) = true
    · rw [if_pos hc] at hk ⊢
      rw [hl, hk, if_pos hc]
    · rw [if_neg hc] at hk ⊢
      rw [if_neg, signLen_bare l l' h hl k hk]
      intro hx
      apply hc
      rw [hl] at hx
      simp only [Bool.and_eq_true, decide_eq_true_eq] at hx ⊢
      obtain ⟨h1, h2⟩ := hx
      refine ⟨h1, ?_⟩
      rw [List.contains_iff_mem] at h2
      rw [take_bare h (k + 1) (signs_no_blank _ h2)] at h2
      rw [List.contains_iff_mem]
      exact h2

theorem cut1_bare (l l' : Bytes) (h : Bare l l') (hl : l'.length = l.length) {kd m : Nat} {s : Bytes} {len : Nat} (hc : cut1 l = .tok kd m s len) (hk : l'.take len = l.take len) : cut1 l' = cut1 l := by
  have hlen := cut1_len l (by rw [hc]; simp)
  rw [hc] at hlen
  simp only [Cut.len] at hlen
  match l, l', h, hl, hc, hk, hlen with
  | [], _, _, _, hc, _, _ => cases hc
  | _ :: _, [], _, hl, _, _, _ => simp at hl
  | c :: t, c' :: t', h, hl, hc, hk, hlen =>
    obtain ⟨len', rfl⟩ : ∃ k, len = k + 1 := ⟨len - 1, by omega⟩
    have hcc : c' = c := by
      rw [List.take_succ_cons, List.take_succ_cons, List.cons.injEq] at hk
      exact hk.1
    subst hcc
    have hnm := takeWhile_bare isInName (fun b hb => (blank_other hb).1) (c' :: t) (c' :: t') h
    have hdg := takeWhile_bare isDigit (fun b hb => (blank_other hb).2.1) (c' :: t) (c' :: t') h
    have hsy := takeWhile_bare isSymbol (fun b hb => (blank_other hb).2.2.1) (c' :: t) (c' :: t') h
    have hsg := signLen_bare (c' :: t) (c' :: t') h hl 3
    rw [cut1] at hc
    rw [cut1, cut1]
    by_cases h1 : isBlank c'
    · simp [h1]
    by_cases h2 : isLetter c'
    · simp only [h1, h2, if_true, Bool.false_eq_true, if_false] at hc ⊢
      unfold cutName at hc ⊢
      simp only at hc ⊢
      split at hc
      · simp only [Cut.tok.injEq] at hc
        rw [hnm (by rw [hc.2.2.2]; exact hk)]
      · cases hc
    by_cases h3 : isDigit c'
    · simp only [h1, h2, h3, if_true, Bool.false_eq_true, if_false] at hc ⊢
      unfold cutNumber at hc ⊢
      simp only at hc ⊢
      split at hc
      · rename_i h5
        simp only [Cut.tok.injEq] at hc
        rw [hdg (by rw [hc.2.2.2]; exact hk)]
        rw [if_pos h5, if_pos]
        simp only [Bool.and_eq_true, Bool.not_eq_true'] at h5 ⊢
        refine ⟨h5.1, ?_⟩
        rw [List.head?_drop] at h5 ⊢
        rcases h ((c' :: t).takeWhile isDigit).length with h6 | ⟨b, h6, h7⟩
        · rw [h6]; exact h5.2
        · rw [h6]
          simp [(blank_other h7).1]
      · cases hc
    by_cases h4 : isSymbol c'
    · simp only [h1, h2, h3, h4, if_true, Bool.false_eq_true, if_false] at hc ⊢
      unfold cutSymbols at hc ⊢
      simp only at hc ⊢
      split at hc
      · simp only [Cut.tok.injEq] at hc
        rw [hsy (by rw [hc.2.2.2]; exact hk)]
      · cases hc
    · simp only [h1, h2, h3, h4, Bool.false_eq_true, if_false] at hc ⊢
      unfold cutSign at hc ⊢
      by_cases hcm : (c' :: t).take 2 = [40, 42]
      · rw [if_pos hcm] at hc
        split at hc <;> cases hc
      · rw [if_neg hcm] at hc ⊢
        have hcm2 : ¬ (c' :: t').take 2 = [40, 42] := by
          intro hx
          apply hcm
          rw [← take_bare h 2 (by rw [hx]; decide)]
          exact hx
        rw [if_neg hcm2]
        cases hs : signLen (c' :: t) 3 with
        | zero => rw [hs] at hc; cases hc
        | succ k =>
          rw [hs] at hc hsg
          simp only [Cut.tok.injEq] at hc
          have hkk : (c' :: t').take (k + 1) = (c' :: t).take (k + 1) := by rw [hc.2.2.2]; exact hk
          rw [hsg hkk]
          simp only
          rw [hkk]

theorem cuts_blank_head : ∀ (k p : Nat) (l : Bytes), (∀ i, i < k → ∃ b, l[i]? = some b ∧ isBlank b = true) → cuts p l = cuts (p + k) (l.drop k)
  | 0, p, l, _ => rfl
  | k + 1, p, [], h => by
    obtain ⟨b, h1, _⟩ := h 0 (by omega)
    simp at h1
  | k + 1, p, c :: t, h => by
    obtain ⟨b, h1, h2⟩ := h 0 (by omega)
    simp only [List.getElem?_cons_zero, Option.some.injEq] at h1
    subst h1
    rw [cuts_cons, cut1_blank h2]
    simp only [List.drop_succ_cons]
    rw [cuts_blank_head k (p + 1) t (fun i hi => by simpa using h (i + 1) (by omega)), show p + 1 + k = p + (k + 1) by omega]

def inCom (cs : List (Nat × Nat)) (i : Nat) : Prop := ∃ c ∈ cs, c.1 ≤ i ∧ i < c.2

/-- Comments that have become blanks change no token. -/
theorem cuts_bare : ∀ (n p : Nat) (l l' : Bytes), l.length ≤ n → (cuts p l).bad = none → l'.length = l.length → Bare l l' →
    (∀ i, i < l.length → ¬ inCom (cuts p l).coms (p + i) → l'[i]? = l[i]?) → (∀ i, i < l.length → inCom (cuts p l).coms (p + i) → ∃ b, l'[i]? = some b ∧ isBlank b = true) →
    cuts p l' = ⟨(cuts p l).toks, [], none⟩
  | n, p, [], l', _, _, hl, _, _, _ => by
    obtain rfl : l' = [] := List.length_eq_zero_iff.1 hl
    simp [cuts_nil]
  | n + 1, p, c :: t, [], _, _, hl, _, _, _ => by simp at hl
  | n + 1, p, c :: t, c' :: t', hn, hbad, hl, hb, ho, hi => by
    have hlen := cut1_len (c :: t)
    have hne : cut1 (c :: t) ≠ .bad := by
      intro h
      rw [cuts_cons, h] at hbad
      cases hbad
    have hlm := hlen hne
    simp only [List.length_cons] at hn hl hlm ho hi
    have hcoms : ∀ k l2, ∀ c2 ∈ (cuts k l2).coms, k ≤ c2.1 := fun k l2 c2 h => (coms_within l2.length k l2 (Nat.le_refl _) c2 h).1
    cases hc : cut1 (c :: t) with
    | bad => exact absurd hc hne
    | skip =>
      have hcb : isBlank c = true := by
        by_cases h : isBlank c = true
        · exact h
        · exact absurd hc (cut1_not_skip h)
      have hcut : cuts p (c :: t) = cuts (p + 1) t := by rw [cuts_cons, hc]
      rw [hcut] at hbad ho hi ⊢
      have h0 : c' = c := by
        have := ho 0 (by omega) (fun ⟨c2, h1, h2, h3⟩ => by have := hcoms _ _ c2 h1; omega)
        simpa using this
      subst h0
      rw [cuts_cons, cut1_blank hcb]
      simp only
      exact cuts_bare n (p + 1) t t' (by omega) hbad (by omega) hb.tail
        (fun i h1 h2 => by have := ho (i + 1) (by omega) (by rw [show p + (i + 1) = p + 1 + i by omega]; exact h2); simpa using this)
        (fun i h1 h2 => by have := hi (i + 1) (by omega) (by rw [show p + (i + 1) = p + 1 + i by omega]; exact h2); simpa using this)
    | comment k =>
      rw [hc] at hlm
      simp only [Cut.len] at hlm
      have hcut : cuts p (c :: t) = (cuts (p + k) ((c :: t).drop k)).com (p, p + k) := by rw [cuts_cons, hc]
      rw [hcut] at hbad ho hi ⊢
      simp only [Out.com] at hbad ho hi ⊢
      rw [cuts_blank_head k p (c' :: t') (fun i h1 => hi i (by omega) ⟨(p, p + k), List.mem_cons_self, by simp, by simp; omega⟩)]
      exact cuts_bare n (p + k) ((c :: t).drop k) ((c' :: t').drop k) (by simp; omega) hbad (by simp; omega) (hb.drop k)
        (fun i h1 h2 => by
          simp only [List.length_drop, List.length_cons] at h1
          rw [List.getElem?_drop, List.getElem?_drop]
          refine ho (k + i) (by omega) ?_
          rintro ⟨c2, h3, h4, h5⟩
          rcases List.mem_cons.1 h3 with rfl | h3
          · simp only at h5; omega
          · exact h2 ⟨c2, h3, by omega, by omega⟩)
        (fun i h1 h2 => by
          simp only [List.length_drop, List.length_cons] at h1
          rw [List.getElem?_drop]
          obtain ⟨c2, h3, h4, h5⟩ := h2
          exact hi (k + i) (by omega) ⟨c2, List.mem_cons_of_mem _ h3, by omega, by omega⟩)
    | tok kd m s k =>
      rw [hc] at hlm
      simp only [Cut.len] at hlm
      have hcut : cuts p (c :: t) = (cuts (p + k) ((c :: t).drop k)).tok ⟨kd, m, s, p, p + k⟩ := by rw [cuts_cons, hc]
      rw [hcut] at hbad ho hi ⊢
      simp only [Out.tok] at hbad ho hi ⊢
      have htk : (c' :: t').take k = (c :: t).take k := by
        apply List.ext_getElem?
        intro i
        rw [List.getElem?_take, List.getElem?_take]
        split
        · exact ho i (by omega) (fun ⟨c2, h1, h2, h3⟩ => by have := hcoms _ _ c2 h1; omega)
        · rfl
      have hst := cut1_bare (c :: t) (c' :: t') hb (by simp only [List.length_cons]; omega) hc htk
      rw [cuts_cons, hst, hc]
      simp only [Out.tok]
      rw [cuts_bare n (p + k) ((c :: t).drop k) ((c' :: t').drop k) (by simp; omega) hbad (by simp; omega) (hb.drop k)
        (fun i h1 h2 => by
          simp only [List.length_drop, List.length_cons] at h1
          rw [List.getElem?_drop, List.getElem?_drop]
          refine ho (k + i) (by omega) ?_
          rintro ⟨c2, h3, h4, h5⟩
          exact h2 ⟨c2, h3, by omega, by omega⟩)
        (fun i h1 h2 => by
          simp only [List.length_drop, List.length_cons] at h1
          rw [List.getElem?_drop]
          obtain ⟨c2, h3, h4, h5⟩ := h2
          exact hi (k + i) (by omega) ⟨c2, h3, by omega, by omega⟩)]

theorem blankOut_get (l : Bytes) (a e i : Nat) : (blankOut l a e)[i]? = l[i]?.map (fun b => if a ≤ i ∧ i < e ∧ b ≠ 10 then 32 else b) := by
  unfold blankOut
  rw [List.getElem?_mapIdx]

open Classical in
theorem stripBy_get : ∀ (cs : List (Nat × Nat)) (l : Bytes) (i : Nat), (stripBy l cs)[i]? = l[i]?.map (fun b => if inCom cs i ∧ b ≠ 10 then 32 else b)
  | [], l, i => by
    show l[i]? = _
    cases l[i]? with
    | none => rfl
    | some b => simp [inCom]
  | c :: cs, l, i => by
    show (stripBy (blankOut l c.1 c.2) cs)[i]? = _
    rw [stripBy_get cs, blankOut_get]
    cases l[i]? with
    | none => rfl
    | some b =>
      simp only [Option.map_some, Option.some.injEq]
      have hiff : inCom (c :: cs) i ↔ (c.1 ≤ i ∧ i < c.2) ∨ inCom cs i := by
        unfold inCom
        constructor
        · rintro ⟨c2, h1, h2⟩
          rcases List.mem_cons.1 h1 with rfl | h1
          · exact .inl h2
          · exact .inr ⟨c2, h1, h2⟩
        · rintro (h | ⟨c2, h1, h2⟩)
          · exact ⟨c, List.mem_cons_self, h⟩
          · exact ⟨c2, List.mem_cons_of_mem _ h1, h2⟩
      by_cases h10 : b = 10
      · subst h10; simp
      · by_cases h1 : c.1 ≤ i ∧ i < c.2
        · have h2 : c.1 ≤ i ∧ i < c.2 ∧ b ≠ 10 := ⟨h1.1, h1.2, h10⟩
          rw [if_pos h2, show (if inCom (c :: cs) i ∧ b ≠ 10 then (32 : UInt8) else b) = 32 from if_pos ⟨hiff.2 (.inl h1), h10⟩]
          split <;> rfl
        · have h2 : ¬ (c.1 ≤ i ∧ i < c.2 ∧ b ≠ 10) := fun h => h1 ⟨h.1, h.2.1⟩
          rw [if_neg h2]
          by_cases h3 : inCom cs i
          · rw [if_pos ⟨h3, h10⟩, if_pos ⟨hiff.2 (.inr h3), h10⟩]
          · rw [if_neg (fun h => h3 h.1), if_neg (fun h => (hiff.1 h.1).elim h1 h3)]

/-- A stripped text has the tokens of the text, and no comment. -/
theorem toks_strip (l : Bytes) (h : (toks l).bad = none) : toks (strip l) = ⟨(toks l).toks, [], none⟩ := by
  have hlen : (strip l).length = l.length := stripBy_len _ _
  refine cuts_bare l.length 0 l (strip l) (Nat.le_refl _) h hlen ?_ ?_ ?_
  · intro i
    unfold strip
    rw [stripBy_get]
    cases hg : l[i]? with
    | none => exact .inl rfl
    | some b =>
      simp only [Option.map_some]
      split
      · exact .inr ⟨32, rfl, by decide⟩
      · exact .inl rfl
  · intro i hi hn
    unfold strip
    rw [stripBy_get]
    rw [Nat.zero_add] at hn
    cases hg : l[i]? with
    | none => rfl
    | some b => rw [Option.map_some, if_neg (fun h => hn h.1)]
  · intro i hi hn
    unfold strip
    rw [stripBy_get]
    rw [Nat.zero_add] at hn
    rw [List.getElem?_eq_getElem hi, Option.map_some]
    by_cases h10 : l[i] = 10
    · rw [if_neg (fun h => h.2 h10), h10]
      exact ⟨10, rfl, by decide⟩
    · rw [if_pos ⟨hn, h10⟩]
      exact ⟨32, rfl, by decide⟩

theorem strip_strip (l : Bytes) (h : (toks l).bad = none) : strip (strip l) = strip l := by
  conv => lhs; unfold strip
  rw [show (toks (stripBy l (toks l).coms)).coms = [] from congrArg Out.coms (toks_strip l h)]
  rfl

theorem strip_len (l : Bytes) : (strip l).length = l.length := stripBy_len _ _

theorem count_mapIdx (x : UInt8) : ∀ (l : Bytes) (f : Nat → UInt8 → UInt8), (∀ i b, f i b = x ↔ b = x) → (l.mapIdx f).count x = l.count x
  | [], _, _ => rfl
  | b :: l, f, h => by
    rw [List.mapIdx_cons, List.count_cons, List.count_cons, count_mapIdx x l (fun i => f (i + 1)) (fun i b => h (i + 1) b)]
    congr 1
    have := h 0 b
    by_cases hb : b = x
    · rw [if_pos (by simpa using this.2 hb), if_pos (by simpa using hb)]
    · rw [if_neg (by simpa using fun e => hb (this.1 e)), if_neg (by simpa using hb)]

theorem strip_lines (l : Bytes) : (strip l).count 10 = l.count 10 := by
  unfold strip
  generalize (toks l).coms = cs
  induction cs generalizing l with
  | nil => rfl
  | cons c cs ih =>
    show (stripBy (blankOut l c.1 c.2) cs).count 10 = _
    rw [ih]
    unfold blankOut
    refine count_mapIdx 10 l _ (fun i b => ?_)
    split
    · rename_i h
      constructor
      · intro e; exact absurd e (by decide)
      · intro e; exact absurd e h.2.2
    · exact Iff.rfl
end Lx
