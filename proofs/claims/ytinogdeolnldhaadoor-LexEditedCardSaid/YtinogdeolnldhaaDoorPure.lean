/- The plain mathematics of cuts: what a law says of a text, without the program. -/
import Derived.Test.YtinogdeolnldhaaDoorMath

/- What the kind of a text says of whether it is a word, or a sign. -/
namespace Lx

theorem signLen_in (l : Bytes) : ∀ k, signLen l k ≠ 0 → signs.contains (l.take (signLen l k)) = true
  | 0, h => by simp [signLen] at h
  | k + 1, h => by
    rw [signLen] at h ⊢
    split
    · rename_i hc
      simp only [Bool.and_eq_true] at hc
      exact hc.2
    · rename_i hc
      rw [if_neg hc] at h
      exact signLen_in l k h

theorem takeWhile_all (p : UInt8 → Bool) (l : Bytes) (h : (l.takeWhile p).length = l.length) : l.takeWhile p = l := by
  have := List.takeWhile_prefix (p := p) (l := l)
  exact this.eq_of_length h

def kc (n : Nat) : Cut → Nat
  | .tok k _ _ len => if len = n then k else 0
  | _ => 0

/-- What the kind of a text says of whether it is a word, or a sign. -/
theorem kind_law (l : Bytes) : ((kind l = 1 ∨ kind l = 2) → words.contains l = decide (kind l = 2)) ∧ ((kind l = 4 ∨ kind l = 5) → signs.contains l = decide (kind l = 5)) := by
  match l with
  | [] => simp [kind]
  | c :: r =>
    have hk : kind (c :: r) = kc (c :: r).length (cut1 (c :: r)) := by
      unfold kind
      simp only
      cases cut1 (c :: r) <;> rfl
    rw [hk, cut1]
    split
    · simp [kc]
    split
    · unfold cutName
      simp only
      split
      · by_cases hl : ((c :: r).takeWhile isInName).length = (c :: r).length
        · have he := takeWhile_all _ _ hl
          simp only [kc, he, if_true]
          unfold kindOf
          cases words.contains (c :: r) <;> simp
        · simp only [kc, if_neg hl]; simp
      · simp [kc]
    split
    · unfold cutNumber
      simp only
      split
      · by_cases hl : ((c :: r).takeWhile isDigit).length = (c :: r).length
        · simp only [kc, if_pos hl]; simp
        · simp only [kc, if_neg hl]; simp
      · simp [kc]
    split
    · unfold cutSymbols
      simp only
      split
      · by_cases hl : ((c :: r).takeWhile isSymbol).length = (c :: r).length
        · have he := takeWhile_all _ _ hl
          simp only [kc, he, if_true]
          unfold kindOf
          cases signs.contains (c :: r) <;> simp
        · simp only [kc, if_neg hl]; simp
      · simp [kc]
    · unfold cutSign
      split
      · split <;> simp [kc]
      · split
        · simp [kc]
        · rename_i k hsl
          have hin := signLen_in (c :: r) 3 (by omega)
          rw [hsl] at hin
          by_cases hl : k + 1 = (c :: r).length
          · rw [show k.succ = (c :: r).length from hl, List.take_length] at hin
            simp only [kc, if_pos hl]
            simp only [hin]; simp
          · simp only [kc, if_neg hl]; simp

theorem words_kind : ∀ s ∈ words, kind s = 2 := by decide +kernel
theorem signs_kind : ∀ s ∈ signs, kind s = 5 := by decide +kernel
end Lx

/- Blanks in the place of comments. -/
namespace Lx

/-- Blanks in the place of the bytes from a up to e, but for line feeds. -/
def blankOut (l : Bytes) (a e : Nat) : Bytes := l.mapIdx fun i b => if a ≤ i ∧ i < e ∧ b ≠ 10 then 32 else b
def stripBy (l : Bytes) (cs : List (Nat × Nat)) : Bytes := cs.foldl (fun l c => blankOut l c.1 c.2) l
/-- A text with blanks in the place of comments. -/
def strip (l : Bytes) : Bytes := stripBy l (toks l).coms

theorem blankOut_len (l : Bytes) (a e : Nat) : (blankOut l a e).length = l.length := by simp [blankOut]
theorem blankOut_self (l : Bytes) (a : Nat) : blankOut l a a = l := by
  apply List.ext_getElem?
  intro i
  unfold blankOut
  rw [List.getElem?_mapIdx]
  cases l[i]? with
  | none => rfl
  | some b => simp; intro h1 h2; omega
theorem blankOut_step (l : Bytes) (a e : Nat) (h : a ≤ e) (he : e < l.length) : blankOut l a (e + 1) = if (blankOut l a e).getD e 0 = 10 then blankOut l a e else (blankOut l a e).set e 32 := by
  have hg : (blankOut l a e).getD e 0 = l[e] := by
    unfold blankOut
    rw [List.getD_eq_getElem?_getD, List.getElem?_mapIdx, List.getElem?_eq_getElem he]
    simp
  rw [hg]
  apply List.ext_getElem?
  intro i
  split
  · rename_i h10
    unfold blankOut
    rw [List.getElem?_mapIdx, List.getElem?_mapIdx]
    by_cases hi : i = e
    · subst hi
      rw [List.getElem?_eq_getElem he]
      simp [h10]
    · cases l[i]? with
      | none => rfl
      | some b => 
        simp only [Option.map_some, Option.some.injEq]
        congr 1
        simp only [eq_iff_iff]
        constructor <;> rintro ⟨h1, h2, h3⟩ <;> exact ⟨h1, by omega, h3⟩
  · rename_i h10
    rw [List.getElem?_set]
    unfold blankOut
    rw [List.getElem?_mapIdx]
    by_cases hi : i = e
    · subst hi
      rw [List.getElem?_eq_getElem he]
      simp [h10, h, he]
    · rw [if_neg (fun h => hi h.symm), List.getElem?_mapIdx]
      cases l[i]? with
      | none => rfl
      | some b => 
        simp only [Option.map_some, Option.some.injEq]
        congr 1
        simp only [eq_iff_iff]
        constructor <;> rintro ⟨h1, h2, h3⟩ <;> exact ⟨h1, by omega, h3⟩

theorem stripBy_len : ∀ (cs : List (Nat × Nat)) (l : Bytes), (stripBy l cs).length = l.length
  | [], _ => rfl
  | c :: cs, l => by
    show (stripBy (blankOut l c.1 c.2) cs).length = _
    rw [stripBy_len cs, blankOut_len]

theorem stripBy_snoc (l : Bytes) (cs : List (Nat × Nat)) (k : Nat) (h : k < cs.length) : stripBy l (cs.take (k + 1)) = blankOut (stripBy l (cs.take k)) cs[k].1 cs[k].2 := by
  unfold stripBy
  rw [List.take_succ_eq_append_getElem h, List.foldl_append]
  rfl

/-- Comments stand within the text. -/
theorem coms_within : ∀ (n p : Nat) (l : Bytes), l.length ≤ n → ∀ c ∈ (cuts p l).coms, p ≤ c.1 ∧ c.1 < c.2 ∧ c.2 ≤ p + l.length
  | n, p, [], _, c, h => by simp [cuts_nil] at h
  | n + 1, p, x :: r, hn, c, h => by
    simp only [List.length_cons] at hn
    rw [cuts_step p (x :: r) (by simp)] at h
    cases hs : step p (x :: r) with
    | none => rw [hs] at h; simp at h
    | some y =>
      obtain ⟨k, ts, cs⟩ := y
      have hl := step_len p (x :: r) hs
      simp only [List.length_cons] at hl
      rw [hs] at h
      simp only [Out.pre, List.mem_append] at h
      rcases h with h | h
      · have hc : c = (p, p + k) := by
          simp only [step] at hs
          split at hs
          · simp only [Option.some.injEq, Prod.mk.injEq] at hs
            obtain ⟨_, _, rfl⟩ := hs
            simp at h
          · split at hs <;> simp only [Option.some.injEq, Prod.mk.injEq, reduceCtorEq] at hs
            · obtain ⟨rfl, _, rfl⟩ := hs
              simpa using h
            · obtain ⟨_, _, rfl⟩ := hs
              simp at h
        subst hc
        simp only [List.length_cons]
        omega
      · have ih := coms_within n (p + k) ((x :: r).drop k) (by simp; omega) c h
        simp only [List.length_drop, List.length_cons] at ih ⊢
        omega

theorem toks_coms_within (l : Bytes) : ∀ c ∈ (toks l).coms, c.1 < c.2 ∧ c.2 ≤ l.length := fun c h => by
  have := coms_within l.length 0 l (Nat.le_refl _) c h
  omega
end Lx

/- Two texts with a blank between them. -/
namespace Lx

theorem takeWhile_stop (p : UInt8 → Bool) (b : UInt8) (r : Bytes) (hb : p b = false) : ∀ l : Bytes, (l ++ b :: r).takeWhile p = l.takeWhile p
  | [] => by simp [hb]
  | c :: l => by
    simp only [List.cons_append, List.takeWhile_cons]
    split
    · rw [takeWhile_stop p b r hb l]
    · rfl

theorem signs_no_blank : ∀ s ∈ signs, ∀ b ∈ s, isBlank b = false := by decide +kernel
theorem signs_short : ∀ s ∈ signs, s.length ≤ 3 := by decide +kernel

theorem blank_cases {b : UInt8} (h : isBlank b = true) : b = 32 ∨ b = 9 ∨ b = 10 ∨ b = 13 := by
  simpa [isBlank, or_assoc] using h

theorem blank_other {b : UInt8} (h : isBlank b = true) : isInName b = false ∧ isDigit b = false ∧ isSymbol b = false ∧ isLetter b = false := by
  rcases blank_cases h with rfl | rfl | rfl | rfl <;> decide

theorem signLen_stop (b : UInt8) (r : Bytes) (hb : isBlank b = true) (l : Bytes) : ∀ k, signLen (l ++ b :: r) k = signLen l k
  | 0 => rfl
  | k + 1 => by
    rw [signLen, signLen, signLen_stop b r hb l k]
    by_cases hk : k + 1 ≤ l.length
    · rw [List.take_append_of_le_length hk]
      have h1 : k + 1 ≤ (l ++ b :: r).length := by simp; omega
      rw [decide_eq_true h1, decide_eq_true hk]
    · have hn : signs.contains ((l ++ b :: r).take (k + 1)) = false := by
        rw [Bool.eq_false_iff]
        intro h
        rw [List.contains_iff_mem] at h
        have hm : b ∈ (l ++ b :: r).take (k + 1) := by
          rw [List.take_append]
          refine List.mem_append.2 (.inr ?_)
          obtain ⟨j, hj⟩ : ∃ j, k + 1 - l.length = j + 1 := ⟨k - l.length, by omega⟩
          rw [hj, List.take_succ_cons]
          exact List.mem_cons_self
        have := signs_no_blank _ h b hm
        rw [hb] at this
        cases this
      simp only [hn, Bool.and_false, Bool.false_eq_true, if_false, if_neg (show ¬ (decide (k + 1 ≤ l.length) && signs.contains (l.take (k + 1))) = true by simp [hk])]

theorem com_append : ∀ (d : Nat) (l r : Bytes) (n : Nat), com d l = some n → com d (l ++ r) = some n
  | d, [], r, n, h => by simp [com] at h
  | d, [x], r, n, h => by simp [com] at h
  | d, x :: y :: l, r, n, h => by
    by_cases h1 : x = 40 ∧ y = 42
    · obtain ⟨rfl, rfl⟩ := h1
      rw [List.cons_append, List.cons_append, com]
      rw [com] at h
      simp only [Option.map_eq_some_iff] at h ⊢
      obtain ⟨k, hk, rfl⟩ := h
      exact ⟨k, com_append (d + 1) l r k hk, rfl⟩
    · by_cases h2 : x = 42 ∧ y = 41
      · obtain ⟨rfl, rfl⟩ := h2
        rw [List.cons_append, List.cons_append, com]
        rw [com] at h
        split at h
        · rename_i hd; rw [if_pos hd]; exact h
        · rename_i hd
          rw [if_neg hd]
          simp only [Option.map_eq_some_iff] at h ⊢
          obtain ⟨k, hk, rfl⟩ := h
          exact ⟨k, com_append (d - 1) l r k hk, rfl⟩
      · have hc : ∀ t : Bytes, com d (x :: y :: t) = (com d (y :: t)).map (· + 1) := by
          intro t
          rw [com]
          · intro r' ex e
            simp at e
            exact h1 ⟨ex, e.1⟩
          · intro r' ex e
            simp at e
            exact h2 ⟨ex, e.1⟩
        rw [List.cons_append, List.cons_append, hc]
        rw [hc] at h
        simp only [Option.map_eq_some_iff] at h ⊢
        obtain ⟨k, hk, rfl⟩ := h
        exact ⟨k, com_append d (y :: l) r k hk, rfl⟩

/-- A blank behind a text changes no cut at its head, but for that of a comment without an end. -/
theorem cut1_stop (b : UInt8) (r : Bytes) (hb : isBlank b = true) (l : Bytes) (hne : l ≠ []) (hc : l.take 2 = [40, 42] → cut1 l ≠ .bad) : cut1 (l ++ b :: r) = cut1 l := by
  obtain ⟨hb1, hb2, hb3, hb4⟩ := blank_other hb
  match l, hne with
  | c :: t, _ =>
    have hnm := takeWhile_stop isInName b r hb1 (c :: t)
    have hdg := takeWhile_stop isDigit b r hb2 (c :: t)
    have hsy := takeWhile_stop isSymbol b r hb3 (c :: t)
    have hsg := signLen_stop b r hb (c :: t) 3
    rw [List.cons_append] at hnm hdg hsy hsg ⊢
    rw [cut1, cut1]
    by_cases h1 : isBlank c
    · simp [h1]
    by_cases h2 : isLetter c
    · simp only [h1, h2, if_true, Bool.false_eq_true, if_false]
      unfold cutName
      simp only [hnm]
    by_cases h3 : isDigit c
    · simp only [h1, h2, h3, if_true, Bool.false_eq_true, if_false]
      unfold cutNumber
      simp only [hdg]
      have hle := takeWhile_len isDigit (c :: t)
      have hany : ((c :: (t ++ b :: r)).drop ((c :: t).takeWhile isDigit).length).head?.any isInName = ((c :: t).drop ((c :: t).takeWhile isDigit).length).head?.any isInName := by
        rw [← List.cons_append, List.drop_append_of_le_length hle]
        cases hd : (c :: t).drop ((c :: t).takeWhile isDigit).length with
        | nil => simp [hb1]
        | cons y ys => simp
      rw [hany]
    by_cases h4 : isSymbol c
    · simp only [h1, h2, h3, h4, if_true, Bool.false_eq_true, if_false]
      unfold cutSymbols
      simp only [hsy]
    · simp only [h1, h2, h3, h4, Bool.false_eq_true, if_false]
      unfold cutSign
      rw [hsg]
      have hsl := signLen_le (c :: t) 3
      match t with
      | [] =>
        have hx : b ≠ 42 := by rcases blank_cases hb with rfl | rfl | rfl | rfl <;> decide
        rw [if_neg (by simp [hx]), if_neg (by simp)]
        cases hk : signLen [c] 3 with
        | zero => rfl
        | succ k =>
          rw [hk] at hsl
          have h0 : k = 0 := by simp at hsl; omega
          subst h0
          rfl
      | y :: t =>
        have ht : (c :: (y :: t ++ b :: r)).take 2 = (c :: y :: t).take 2 := by simp
        rw [ht]
        by_cases hcm : (c :: y :: t).take 2 = [40, 42]
        · rw [if_pos hcm, if_pos hcm]
          have hnb := hc hcm
          rw [cut1] at hnb
          simp only [h1, h2, h3, h4, Bool.false_eq_true, if_false] at hnb
          unfold cutSign at hnb
          rw [if_pos hcm] at hnb
          simp only [List.cons_append, List.drop_succ_cons, List.drop_zero] at hnb ⊢
          cases hcom : com 1 t with
          | none => rw [hcom] at hnb; exact absurd rfl hnb
          | some n =>
            rw [com_append 1 t (b :: r) n hcom]
        · rw [if_neg hcm, if_neg hcm]
          cases hk : signLen (c :: y :: t) 3 with
          | zero => rfl
          | succ k =>
            rw [hk] at hsl
            simp only
            rw [← List.cons_append, List.take_append_of_le_length (by omega)]

/-- A text, a blank, and another text: the cuts of the first one stay. -/
theorem cuts_app (b : UInt8) (r : Bytes) (hb : isBlank b = true) : ∀ (n p : Nat) (l : Bytes), l.length ≤ n → (cuts p l).bad = none →
    cuts p (l ++ b :: r) = (cuts (p + l.length) (b :: r)).pre (cuts p l).toks (cuts p l).coms
  | n, p, [], _, _ => by simp [cuts_nil, Out.pre]
  | n + 1, p, c :: t, hn, hbad => by
    have hlen := cut1_len (c :: t)
    have hne : cut1 (c :: t) ≠ .bad := by
      intro h
      rw [cuts_cons, h] at hbad
      cases hbad
    have hl := hlen hne
    have hst := cut1_stop b r hb (c :: t) (by simp) (fun _ => hne)
    rw [cuts_cons] at hbad
    rw [List.cons_append] at hst ⊢
    rw [cuts_cons, hst, cuts_cons]
    simp only [List.length_cons] at hn hl ⊢
    cases hc : cut1 (c :: t) with
    | skip =>
      rw [hc] at hbad
      simp only at hbad ⊢
      rw [cuts_app b r hb n (p + 1) t (by omega) hbad]
      rw [show p + 1 + t.length = p + (t.length + 1) by omega]
    | comment k =>
      rw [hc] at hbad hl
      simp only [Out.com, Cut.len] at hbad hl ⊢
      rw [← List.cons_append, List.drop_append_of_le_length (by simp; omega)]
      rw [cuts_app b r hb n (p + k) ((c :: t).drop k) (by simp; omega) hbad]
      rw [show p + k + ((c :: t).drop k).length = p + (t.length + 1) by simp; omega]
      rfl
    | tok kd m s k =>
      rw [hc] at hbad hl
      simp only [Out.tok, Cut.len] at hbad hl ⊢
      rw [← List.cons_append, List.drop_append_of_le_length (by simp; omega)]
      rw [cuts_app b r hb n (p + k) ((c :: t).drop k) (by simp; omega) hbad]
      rw [show p + k + ((c :: t).drop k).length = p + (t.length + 1) by simp; omega]
      rfl
    | bad => exact absurd hc hne

/-- What is wrong stays wrong with a blank and another text behind it, but for a comment without an end. -/
theorem cuts_app_bad (b : UInt8) (r : Bytes) (hb : isBlank b = true) : ∀ (n p : Nat) (l : Bytes) (q : Nat), l.length ≤ n → (cuts p l).bad = some q →
    p ≤ q ∧ q < p + l.length ∧ ((l.drop (q - p)).take 2 = [40, 42] ∨ (cuts p (l ++ b :: r)).bad = some q)
  | n, p, [], q, _, h => by simp [cuts_nil] at h
  | n + 1, p, c :: t, q, hn, hbad => by
    have hlen := cut1_len (c :: t)
    rw [cuts_cons] at hbad
    by_cases hne : cut1 (c :: t) = .bad
    · rw [hne] at hbad
      simp only [Option.some.injEq] at hbad
      subst hbad
      refine ⟨Nat.le_refl _, by simp, ?_⟩
      rw [Nat.sub_self, List.drop_zero]
      by_cases h2 : (c :: t).take 2 = [40, 42]
      · exact .inl h2
      · right
        have hst := cut1_stop b r hb (c :: t) (by simp) (fun h => absurd h h2)
        rw [List.cons_append] at hst ⊢
        rw [cuts_cons, hst, hne]
    · have hl := hlen hne
      have hst := cut1_stop b r hb (c :: t) (by simp) (fun _ => hne)
      rw [List.cons_append] at hst ⊢
      rw [cuts_cons, hst]
      simp only [List.length_cons] at hn hl ⊢
      cases hc : cut1 (c :: t) with
      | skip =>
        rw [hc] at hbad
        simp only at hbad ⊢
        obtain ⟨h1, h2, h3⟩ := cuts_app_bad b r hb n (p + 1) t q (by omega) hbad
        refine ⟨by omega, by omega, ?_⟩
        rw [show q - p = (q - (p + 1)) + 1 by omega, List.drop_succ_cons]
        exact h3
      | comment k =>
        rw [hc] at hbad hl
        simp only [Out.com, Cut.len] at hbad hl ⊢
        obtain ⟨h1, h2, h3⟩ := cuts_app_bad b r hb n (p + k) ((c :: t).drop k) q (by simp; omega) hbad
        simp only [List.length_drop, List.length_cons] at h2
        refine ⟨by omega, by omega, ?_⟩
        rw [← List.cons_append, List.drop_append_of_le_length (by simp; omega)]
        rw [List.drop_drop] at h3
        rw [show q - p = k + (q - (p + k)) by omega]
        exact h3
      | tok kd m s k =>
        rw [hc] at hbad hl
        simp only [Out.tok, Cut.len] at hbad hl ⊢
        obtain ⟨h1, h2, h3⟩ := cuts_app_bad b r hb n (p + k) ((c :: t).drop k) q (by simp; omega) hbad
        simp only [List.length_drop, List.length_cons] at h2
        refine ⟨by omega, by omega, ?_⟩
        rw [← List.cons_append, List.drop_append_of_le_length (by simp; omega)]
        rw [List.drop_drop] at h3
        rw [show q - p = k + (q - (p + k)) by omega]
        exact h3
      | bad => exact absurd hc hne

def Tok.by (d : Nat) (t : Tok) : Tok := { t with at_ := t.at_ + d, end_ := t.end_ + d }

/-- A text that stands further behind. -/
theorem cuts_shift (d : Nat) : ∀ (n p : Nat) (l : Bytes), l.length ≤ n → cuts (p + d) l = ⟨(cuts p l).toks.map (Tok.by d), (cuts p l).coms.map (fun c => (c.1 + d, c.2 + d)), (cuts p l).bad.map (· + d)⟩
  | n, p, [], _ => by simp [cuts_nil]
  | n + 1, p, c :: t, hn => by
    have hlen := cut1_len (c :: t)
    simp only [List.length_cons] at hn hlen
    rw [cuts_cons, cuts_cons]
    cases hc : cut1 (c :: t) with
    | skip =>
      simp only
      rw [show p + d + 1 = p + 1 + d by omega, cuts_shift d n (p + 1) t (by omega)]
    | comment k =>
      rw [hc] at hlen
      have hl := hlen (by simp)
      simp only [Cut.len] at hl
      simp only [Out.com]
      rw [show p + d + k = p + k + d by omega, cuts_shift d n (p + k) ((c :: t).drop k) (by simp; omega)]
      simp
    | tok kd m s k =>
      rw [hc] at hlen
      have hl := hlen (by simp)
      simp only [Cut.len] at hl
      simp only [Out.tok]
      rw [show p + d + k = p + k + d by omega, cuts_shift d n (p + k) ((c :: t).drop k) (by simp; omega)]
      simp [Tok.by]
    | bad => simp
end Lx

/- A text up to what is wrong. -/
namespace Lx

theorem takeWhile_take (p : UInt8 → Bool) : ∀ (l : Bytes) (m : Nat), (l.takeWhile p).length ≤ m → (l.take m).takeWhile p = l.takeWhile p
  | [], m, _ => by simp
  | c :: t, m, h => by
    simp only [List.takeWhile_cons] at h ⊢
    split at h
    · rename_i hc
      simp only [List.length_cons] at h
      obtain ⟨m', rfl⟩ : ∃ m', m = m' + 1 := ⟨m - 1, by omega⟩
      rw [List.take_succ_cons, List.takeWhile_cons, if_pos hc, if_pos hc, takeWhile_take p t m' (by omega)]
    · rename_i hc
      rw [if_neg hc]
      cases m with
      | zero => simp
      | succ m => simp [hc]

theorem signLen_take (l : Bytes) (m : Nat) : ∀ k, signLen l k ≤ m → signLen (l.take m) k = signLen l k
  | 0, _ => rfl
  | k + 1, h => by
    rw [signLen] at h
    rw [signLen, signLen]
    by_cases hc : (decide (k + 1 ≤ l.length) && signs.contains (l.take (k + 1))) = true
    · rw [if_pos hc] at h ⊢
      have hk : k + 1 ≤ l.length := by simp at hc; exact hc.1
      rw [if_pos]
      rw [List.take_take, Nat.min_eq_left h, List.length_take]
      simp only [Bool.and_eq_true, decide_eq_true_eq] at hc ⊢
      exact ⟨by omega, hc.2⟩
    · rw [if_neg hc] at h ⊢
      rw [if_neg, signLen_take l m k h]
      intro hx
      apply hc
      simp only [Bool.and_eq_true, decide_eq_true_eq, List.length_take] at hx ⊢
      obtain ⟨h1, h2⟩ := hx
      rw [List.take_take, Nat.min_eq_left (by omega)] at h2
      exact ⟨by omega, h2⟩

theorem com_take : ∀ (d : Nat) (l : Bytes) (n m : Nat), com d l = some n → n ≤ m → com d (l.take m) = some n
  | d, [], n, m, h, _ => by simp [com] at h
  | d, [x], n, m, h, _ => by simp [com] at h
  | d, x :: y :: l, n, m, h, hm => by
    by_cases h1 : x = 40 ∧ y = 42
    · obtain ⟨rfl, rfl⟩ := h1
      rw [com] at h
      simp only [Option.map_eq_some_iff] at h
      obtain ⟨k, hk, rfl⟩ := h
      obtain ⟨m', rfl⟩ : ∃ m', m = m' + 2 := ⟨m - 2, by omega⟩
      rw [List.take_succ_cons, List.take_succ_cons, com, com_take (d + 1) l k m' hk (by omega)]
      rfl
    · by_cases h2 : x = 42 ∧ y = 41
      · obtain ⟨rfl, rfl⟩ := h2
        rw [com] at h
        split at h
        · rename_i hd
          simp only [Option.some.injEq] at h
          obtain ⟨m', rfl⟩ : ∃ m', m = m' + 2 := ⟨m - 2, by omega⟩
          rw [List.take_succ_cons, List.take_succ_cons, com, if_pos hd, h]
        · rename_i hd
          simp only [Option.map_eq_some_iff] at h
          obtain ⟨k, hk, rfl⟩ := h
          obtain ⟨m', rfl⟩ : ∃ m', m = m' + 2 := ⟨m - 2, by omega⟩
          rw [List.take_succ_cons, List.take_succ_cons, com, if_neg hd, com_take (d - 1) l k m' hk (by omega)]
          rfl
      · have hc : ∀ t : Bytes, com d (x :: y :: t) = (com d (y :: t)).map (· + 1) := by
          intro t
          rw [com]
          · intro r' ex e
            simp at e
            exact h1 ⟨ex, e.1⟩
          · intro r' ex e
            simp at e
            exact h2 ⟨ex, e.1⟩
        rw [hc] at h
        simp only [Option.map_eq_some_iff] at h
        obtain ⟨k, hk, rfl⟩ := h
        have hkl := com_len d (y :: l) k hk
        obtain ⟨m', rfl⟩ : ∃ m', m = m' + 2 := ⟨m - 2, by omega⟩
        rw [List.take_succ_cons, List.take_succ_cons, hc]
        have ih := com_take d (y :: l) k (m' + 1) hk (by omega)
        rw [List.take_succ_cons] at ih
        rw [ih]
        rfl

theorem cut1_take (l : Bytes) (m : Nat) (h : cut1 l ≠ .bad) (hm : (cut1 l).len ≤ m) : cut1 (l.take m) = cut1 l := by
  have hl := cut1_len l h
  match l, h with
  | [], h => exact absurd rfl h
  | c :: t, h =>
    obtain ⟨m', rfl⟩ : ∃ m', m = m' + 1 := ⟨m - 1, by omega⟩
    have htk : (c :: t).take (m' + 1) = c :: t.take m' := List.take_succ_cons
    have hnm := takeWhile_take isInName (c :: t) (m' + 1)
    have hdg := takeWhile_take isDigit (c :: t) (m' + 1)
    have hsy := takeWhile_take isSymbol (c :: t) (m' + 1)
    have hsg := signLen_take (c :: t) (m' + 1) 3
    rw [htk] at hnm hdg hsy hsg ⊢
    rw [cut1] at h hm hl ⊢
    rw [cut1]
    by_cases h1 : isBlank c
    · simp [h1]
    by_cases h2 : isLetter c
    · simp only [h1, h2, if_true, Bool.false_eq_true, if_false] at h hm ⊢
      unfold cutName at h hm ⊢
      simp only at h hm ⊢
      split at h
      · rename_i h5
        rw [if_pos h5] at hm
        rw [hnm hm]
      · exact absurd rfl h
    by_cases h3 : isDigit c
    · simp only [h1, h2, h3, if_true, Bool.false_eq_true, if_false] at h hm ⊢
      unfold cutNumber at h hm ⊢
      simp only at h hm ⊢
      split at h
      · rename_i h5
        rw [if_pos h5] at hm
        simp only [Cut.len] at hm
        rw [hdg hm]
        have h6 : ((c :: t.take m').drop ((c :: t).takeWhile isDigit).length).head?.any isInName = false := by
          rw [← htk, List.drop_take]
          simp only [Bool.and_eq_true, Bool.not_eq_true'] at h5
          rw [List.head?_take]
          split
          · rfl
          · exact h5.2
        rw [if_pos h5, if_pos]
        simp only [Bool.and_eq_true, Bool.not_eq_true'] at h5 ⊢
        exact ⟨h5.1, h6⟩
      · exact absurd rfl h
    by_cases h4 : isSymbol c
    · simp only [h1, h2, h3, h4, if_true, Bool.false_eq_true, if_false] at h hm ⊢
      unfold cutSymbols at h hm ⊢
      simp only at h hm ⊢
      split at h
      · rename_i h5
        rw [if_pos h5] at hm
        rw [hsy hm]
      · exact absurd rfl h
    · simp only [h1, h2, h3, h4, Bool.false_eq_true, if_false] at h hm ⊢
      unfold cutSign at h hm ⊢
      by_cases hcm : (c :: t).take 2 = [40, 42]
      · rw [if_pos hcm] at h hm ⊢
        cases hcom : com 1 ((c :: t).drop 2) with
        | none => rw [hcom] at h; exact absurd rfl h
        | some n =>
          rw [hcom] at hm
          simp only [Cut.len] at hm
          rw [← htk, List.take_take, Nat.min_eq_left (by omega), if_pos hcm, List.drop_take, com_take 1 _ n _ hcom (by omega)]
      · rw [if_neg hcm] at h hm ⊢
        have hcm2 : ¬ (c :: t.take m').take 2 = [40, 42] := by
          rw [← htk, List.take_take]
          intro hx
          by_cases h5 : 2 ≤ m' + 1
          · rw [Nat.min_eq_left h5] at hx; exact hcm hx
          · have := congrArg List.length hx
            simp only [List.length_take, List.length_cons, List.length_nil] at this
            omega
        rw [if_neg hcm2]
        cases hk : signLen (c :: t) 3 with
        | zero => rw [hk] at h; exact absurd rfl h
        | succ k =>
          rw [hk] at hm hsg
          simp only [Cut.len] at hm
          rw [hsg hm]
          simp only
          rw [← htk, List.take_take, Nat.min_eq_left hm]

/-- Up to what is wrong a text is cut as it was. -/
theorem cuts_take : ∀ (n p : Nat) (l : Bytes) (q : Nat), l.length ≤ n → (cuts p l).bad = some q → cuts p (l.take (q - p)) = ⟨(cuts p l).toks, (cuts p l).coms, none⟩
  | n, p, [], q, _, h => by simp [cuts_nil] at h
  | n + 1, p, c :: t, q, hn, hbad => by
    have hlen := cut1_len (c :: t)
    by_cases hne : cut1 (c :: t) = .bad
    · rw [cuts_cons, hne] at hbad
      simp only [Option.some.injEq] at hbad
      subst hbad
      rw [Nat.sub_self, List.take_zero, cuts_nil, cuts_cons, hne]
    · have hl := hlen hne
      rw [cuts_cons] at hbad
      have hq : p + (cut1 (c :: t)).len ≤ q := by
        cases hc : cut1 (c :: t) with
        | skip => rw [hc] at hbad; exact (cuts_app_bad 32 [] (by decide) t.length (p + 1) t q (Nat.le_refl _) hbad).1
        | comment k => rw [hc] at hbad; exact (cuts_app_bad 32 [] (by decide) _ (p + k) ((c :: t).drop k) q (Nat.le_refl _) hbad).1
        | tok kd m s k => rw [hc] at hbad; exact (cuts_app_bad 32 [] (by decide) _ (p + k) ((c :: t).drop k) q (Nat.le_refl _) hbad).1
        | bad => exact absurd hc hne
      have hst := cut1_take (c :: t) (q - p) hne (by omega)
      obtain ⟨m', hm'⟩ : ∃ m', q - p = m' + 1 := ⟨q - p - 1, by omega⟩
      rw [hm', List.take_succ_cons] at hst ⊢
      rw [cuts_cons, hst, cuts_cons]
      simp only [List.length_cons] at hn hl
      cases hc : cut1 (c :: t) with
      | skip =>
        rw [hc] at hbad
        simp only at hbad ⊢
        have ih := cuts_take n (p + 1) t q (by omega) hbad
        rw [show q - (p + 1) = m' by omega] at ih
        rw [ih]
      | comment k =>
        rw [hc] at hbad hl hq
        simp only [Out.com, Cut.len] at hbad hl hq ⊢
        have ih := cuts_take n (p + k) ((c :: t).drop k) q (by simp; omega) hbad
        rw [← List.take_succ_cons, List.drop_take, show m' + 1 - k = q - (p + k) by omega, ih]
      | tok kd m s k =>
        rw [hc] at hbad hl hq
        simp only [Out.tok, Cut.len] at hbad hl hq ⊢
        have ih := cuts_take n (p + k) ((c :: t).drop k) q (by simp; omega) hbad
        rw [← List.take_succ_cons, List.drop_take, show m' + 1 - k = q - (p + k) by omega, ih]
      | bad => exact absurd hc hne
end Lx

/- Comments that have become blanks. -/
namespace Lx

/-- Some bytes have become blanks. -/
def Bare (l l' : Bytes) : Prop := ∀ i : Nat, l'[i]? = l[i]? ∨ ∃ b, l'[i]? = some b ∧ isBlank b = true

theorem Bare.tail {c c' : UInt8} {l l' : Bytes} (h : Bare (c :: l) (c' :: l')) : Bare l l' := fun i => by
  have := h (i + 1)
  simpa using this

theorem Bare.drop {l l' : Bytes} (h : Bare l l') (k : Nat) : Bare (l.drop k) (l'.drop k) := fun i => by
  have := h (k + i)
  simpa using this

theorem takeWhile_bare (p : UInt8 → Bool) (hp : ∀ b, isBlank b = true → p b = false) : ∀ (l l' : Bytes), Bare l l' → l'.take (l.takeWhile p).length = l.take (l.takeWhile p).length → l'.takeWhile p = l.takeWhile p
  | [], [], _, _ => rfl
  | [], c' :: t', h, _ => by
    have h0 := h 0
    simp at h0
    simp [hp _ h0]
  | c :: t, [], h, _ => by
    have h0 := h 0
    simp at h0
  | c :: t, c' :: t', h, hk => by
    simp only [List.takeWhile_cons] at hk ⊢
    by_cases hc : p c = true
    · rw [if_pos hc] at hk ⊢
      simp only [List.length_cons, List.take_succ_cons, List.cons.injEq] at hk
      obtain ⟨rfl, hk⟩ := hk
      rw [if_pos hc, takeWhile_bare p hp t t' h.tail hk]
    · rw [if_neg hc]
      rw [if_neg]
      have h0 := h 0
      simp at h0
      rcases h0 with rfl | h0
      · exact hc
      · rw [hp _ h0]; simp

theorem take_bare {l l' : Bytes} (h : Bare l l') (k : Nat) (hn : ∀ b ∈ l'.take k, isBlank b = false) : l'.take k = l.take k := by
  apply List.ext_getElem?
  intro i
  rw [List.getElem?_take, List.getElem?_take]
  split
  · rename_i hi
    rcases h i with h1 | ⟨b, h1, h2⟩
    · exact h1
    · have hm : b ∈ l'.take k := by
        apply List.mem_of_getElem? (i := i)
        rw [List.getElem?_take, if_pos hi]
        exact h1
      have := hn b hm
      rw [h2] at this
      cases this
  · rfl

theorem signLen_bare (l l' : Bytes) (h : Bare l l') (hl : l'.length = l.length) : ∀ k, l'.take (signLen l k) = l.take (signLen l k) → signLen l' k = signLen l k
  | 0, _ => rfl
  | k + 1, hk => by
    rw [signLen] at hk
    rw [signLen, signLen]
    by_cases hc : (decide (k + 1 ≤ l.length) && signs.contains (l.take (k + 1))) = true
    · rw [if_pos hc] at hk ⊢
      rw [hl, hk, if_pos hc]
    · rw [if_neg hc] at hk ⊢
      rw [if_neg, signLen_bare l l' h hl k hk]
      intro hx
      apply hc
      rw [hl] at hx
      simp only [Bool.and_eq_true, decide_eq_true_eq] at hx ⊢
      obtain ⟨h1, h2⟩ := hx
      refine ⟨h1, ?_⟩
      rw [List.contains_iff_mem] at h2
      rw [take_bare h (k + 1) (signs_no_blank _ h2)] at h2
      rw [List.contains_iff_mem]
      exact h2

theorem cut1_bare (l l' : Bytes) (h : Bare l l') (hl : l'.length = l.length) {kd m : Nat} {s : Bytes} {len : Nat} (hc : cut1 l = .tok kd m s len) (hk : l'.take len = l.take len) : cut1 l' = cut1 l := by
  have hlen := cut1_len l (by rw [hc]; simp)
  rw [hc] at hlen
  simp only [Cut.len] at hlen
  match l, l', h, hl, hc, hk, hlen with
  | [], _, _, _, hc, _, _ => cases hc
  | _ :: _, [], _, hl, _, _, _ => simp at hl
  | c :: t, c' :: t', h, hl, hc, hk, hlen =>
    obtain ⟨len', rfl⟩ : ∃ k, len = k + 1 := ⟨len - 1, by omega⟩
    have hcc : c' = c := by
      rw [List.take_succ_cons, List.take_succ_cons, List.cons.injEq] at hk
      exact hk.1
    subst hcc
    have hnm := takeWhile_bare isInName (fun b hb => (blank_other hb).1) (c' :: t) (c' :: t') h
    have hdg := takeWhile_bare isDigit (fun b hb => (blank_other hb).2.1) (c' :: t) (c' :: t') h
    have hsy := takeWhile_bare isSymbol (fun b hb => (blank_other hb).2.2.1) (c' :: t) (c' :: t') h
    have hsg := signLen_bare (c' :: t) (c' :: t') h hl 3
    rw [cut1] at hc
    rw [cut1, cut1]
    by_cases h1 : isBlank c'
    · simp [h1]
    by_cases h2 : isLetter c'
    · simp only [h1, h2, if_true, Bool.false_eq_true, if_false] at hc ⊢
      unfold cutName at hc ⊢
      simp only at hc ⊢
      split at hc
      · simp only [Cut.tok.injEq] at hc
        rw [hnm (by rw [hc.2.2.2]; exact hk)]
      · cases hc
    by_cases h3 : isDigit c'
    · simp only [h1, h2, h3, if_true, Bool.false_eq_true, if_false] at hc ⊢
      unfold cutNumber at hc ⊢
      simp only at hc ⊢
      split at hc
      · rename_i h5
        simp only [Cut.tok.injEq] at hc
        rw [hdg (by rw [hc.2.2.2]; exact hk)]
        rw [if_pos h5, if_pos]
        simp only [Bool.and_eq_true, Bool.not_eq_true'] at h5 ⊢
        refine ⟨h5.1, ?_⟩
        rw [List.head?_drop] at h5 ⊢
        rcases h ((c' :: t).takeWhile isDigit).length with h6 | ⟨b, h6, h7⟩
        · rw [h6]; exact h5.2
        · rw [h6]
          simp [(blank_other h7).1]
      · cases hc
    by_cases h4 : isSymbol c'
    · simp only [h1, h2, h3, h4, if_true, Bool.false_eq_true, if_false] at hc ⊢
      unfold cutSymbols at hc ⊢
      simp only at hc ⊢
      split at hc
      · simp only [Cut.tok.injEq] at hc
        rw [hsy (by rw [hc.2.2.2]; exact hk)]
      · cases hc
    · simp only [h1, h2, h3, h4, Bool.false_eq_true, if_false] at hc ⊢
      unfold cutSign at hc ⊢
      by_cases hcm : (c' :: t).take 2 = [40, 42]
      · rw [if_pos hcm] at hc
        split at hc <;> cases hc
      · rw [if_neg hcm] at hc ⊢
        have hcm2 : ¬ (c' :: t').take 2 = [40, 42] := by
          intro hx
          apply hcm
          rw [← take_bare h 2 (by rw [hx]; decide)]
          exact hx
        rw [if_neg hcm2]
        cases hs : signLen (c' :: t) 3 with
        | zero => rw [hs] at hc; cases hc
        | succ k =>
          rw [hs] at hc hsg
          simp only [Cut.tok.injEq] at hc
          have hkk : (c' :: t').take (k + 1) = (c' :: t).take (k + 1) := by rw [hc.2.2.2]; exact hk
          rw [hsg hkk]
          simp only
          rw [hkk]

theorem cuts_blank_head : ∀ (k p : Nat) (l : Bytes), (∀ i, i < k → ∃ b, l[i]? = some b ∧ isBlank b = true) → cuts p l = cuts (p + k) (l.drop k)
  | 0, p, l, _ => rfl
  | k + 1, p, [], h => by
    obtain ⟨b, h1, _⟩ := h 0 (by omega)
    simp at h1
  | k + 1, p, c :: t, h => by
    obtain ⟨b, h1, h2⟩ := h 0 (by omega)
    simp only [List.getElem?_cons_zero, Option.some.injEq] at h1
    subst h1
    rw [cuts_cons, cut1_blank h2]
    simp only [List.drop_succ_cons]
    rw [cuts_blank_head k (p + 1) t (fun i hi => by simpa using h (i + 1) (by omega)), show p + 1 + k = p + (k + 1) by omega]

def inCom (cs : List (Nat × Nat)) (i : Nat) : Prop := ∃ c ∈ cs, c.1 ≤ i ∧ i < c.2

/-- Comments that have become blanks change no token. -/
theorem cuts_bare : ∀ (n p : Nat) (l l' : Bytes), l.length ≤ n → (cuts p l).bad = none → l'.length = l.length → Bare l l' →
    (∀ i, i < l.length → ¬ inCom (cuts p l).coms (p + i) → l'[i]? = l[i]?) → (∀ i, i < l.length → inCom (cuts p l).coms (p + i) → ∃ b, l'[i]? = some b ∧ isBlank b = true) →
    cuts p l' = ⟨(cuts p l).toks, [], none⟩
  | n, p, [], l', _, _, hl, _, _, _ => by
    obtain rfl : l' = [] := List.length_eq_zero_iff.1 hl
    simp [cuts_nil]
  | n + 1, p, c :: t, [], _, _, hl, _, _, _ => by simp at hl
  | n + 1, p, c :: t, c' :: t', hn, hbad, hl, hb, ho, hi => by
    have hlen := cut1_len (c :: t)
    have hne : cut1 (c :: t) ≠ .bad := by
      intro h
      rw [cuts_cons, h] at hbad
      cases hbad
    have hlm := hlen hne
    simp only [List.length_cons] at hn hl hlm ho hi
    have hcoms : ∀ k l2, ∀ c2 ∈ (cuts k l2).coms, k ≤ c2.1 := fun k l2 c2 h => (coms_within l2.length k l2 (Nat.le_refl _) c2 h).1
    cases hc : cut1 (c :: t) with
    | bad => exact absurd hc hne
    | skip =>
      have hcb : isBlank c = true := by
        by_cases h : isBlank c = true
        · exact h
        · exact absurd hc (cut1_not_skip h)
      have hcut : cuts p (c :: t) = cuts (p + 1) t := by rw [cuts_cons, hc]
      rw [hcut] at hbad ho hi ⊢
      have h0 : c' = c := by
        have := ho 0 (by omega) (fun ⟨c2, h1, h2, h3⟩ => by have := hcoms _ _ c2 h1; omega)
        simpa using this
      subst h0
      rw [cuts_cons, cut1_blank hcb]
      simp only
      exact cuts_bare n (p + 1) t t' (by omega) hbad (by omega) hb.tail
        (fun i h1 h2 => by have := ho (i + 1) (by omega) (by rw [show p + (i + 1) = p + 1 + i by omega]; exact h2); simpa using this)
        (fun i h1 h2 => by have := hi (i + 1) (by omega) (by rw [show p + (i + 1) = p + 1 + i by omega]; exact h2); simpa using this)
    | comment k =>
      rw [hc] at hlm
      simp only [Cut.len] at hlm
      have hcut : cuts p (c :: t) = (cuts (p + k) ((c :: t).drop k)).com (p, p + k) := by rw [cuts_cons, hc]
      rw [hcut] at hbad ho hi ⊢
      simp only [Out.com] at hbad ho hi ⊢
      rw [cuts_blank_head k p (c' :: t') (fun i h1 => hi i (by omega) ⟨(p, p + k), List.mem_cons_self, by simp, by simp; omega⟩)]
      exact cuts_bare n (p + k) ((c :: t).drop k) ((c' :: t').drop k) (by simp; omega) hbad (by simp; omega) (hb.drop k)
        (fun i h1 h2 => by
          simp only [List.length_drop, List.length_cons] at h1
          rw [List.getElem?_drop, List.getElem?_drop]
          refine ho (k + i) (by omega) ?_
          rintro ⟨c2, h3, h4, h5⟩
          rcases List.mem_cons.1 h3 with rfl | h3
          · simp only at h5; omega
          · exact h2 ⟨c2, h3, by omega, by omega⟩)
        (fun i h1 h2 => by
          simp only [List.length_drop, List.length_cons] at h1
          rw [List.getElem?_drop]
          obtain ⟨c2, h3, h4, h5⟩ := h2
          exact hi (k + i) (by omega) ⟨c2, List.mem_cons_of_mem _ h3, by omega, by omega⟩)
    | tok kd m s k =>
      rw [hc] at hlm
      simp only [Cut.len] at hlm
      have hcut : cuts p (c :: t) = (cuts (p + k) ((c :: t).drop k)).tok ⟨kd, m, s, p, p + k⟩ := by rw [cuts_cons, hc]
      rw [hcut] at hbad ho hi ⊢
      simp only [Out.tok] at hbad ho hi ⊢
      have htk : (c' :: t').take k = (c :: t).take k := by
        apply List.ext_getElem?
        intro i
        rw [List.getElem?_take, List.getElem?_take]
        split
        · exact ho i (by omega) (fun ⟨c2, h1, h2, h3⟩ => by have := hcoms _ _ c2 h1; omega)
        · rfl
      have hst := cut1_bare (c :: t) (c' :: t') hb (by simp only [List.length_cons]; omega) hc htk
      rw [cuts_cons, hst, hc]
      simp only [Out.tok]
      rw [cuts_bare n (p + k) ((c :: t).drop k) ((c' :: t').drop k) (by simp; omega) hbad (by simp; omega) (hb.drop k)
        (fun i h1 h2 => by
          simp only [List.length_drop, List.length_cons] at h1
          rw [List.getElem?_drop, List.getElem?_drop]
          refine ho (k + i) (by omega) ?_
          rintro ⟨c2, h3, h4, h5⟩
          exact h2 ⟨c2, h3, by omega, by omega⟩)
        (fun i h1 h2 => by
          simp only [List.length_drop, List.length_cons] at h1
          rw [List.getElem?_drop]
          obtain ⟨c2, h3, h4, h5⟩ := h2
          exact hi (k + i) (by omega) ⟨c2, h3, by omega, by omega⟩)]

theorem blankOut_get (l : Bytes) (a e i : Nat) : (blankOut l a e)[i]? = l[i]?.map (fun b => if a ≤ i ∧ i < e ∧ b ≠ 10 then 32 else b) := by
  unfold blankOut
  rw [List.getElem?_mapIdx]

open Classical in
theorem stripBy_get : ∀ (cs : List (Nat × Nat)) (l : Bytes) (i : Nat), (stripBy l cs)[i]? = l[i]?.map (fun b => if inCom cs i ∧ b ≠ 10 then 32 else b)
  | [], l, i => by
    show l[i]? = _
    cases l[i]? with
    | none => rfl
    | some b => simp [inCom]
  | c :: cs, l, i => by
    show (stripBy (blankOut l c.1 c.2) cs)[i]? = _
    rw [stripBy_get cs, blankOut_get]
    cases l[i]? with
    | none => rfl
    | some b =>
      simp only [Option.map_some, Option.some.injEq]
      have hiff : inCom (c :: cs) i ↔ (c.1 ≤ i ∧ i < c.2) ∨ inCom cs i := by
        unfold inCom
        constructor
        · rintro ⟨c2, h1, h2⟩
          rcases List.mem_cons.1 h1 with rfl | h1
          · exact .inl h2
          · exact .inr ⟨c2, h1, h2⟩
        · rintro (h | ⟨c2, h1, h2⟩)
          · exact ⟨c, List.mem_cons_self, h⟩
          · exact ⟨c2, List.mem_cons_of_mem _ h1, h2⟩
      by_cases h10 : b = 10
      · subst h10; simp
      · by_cases h1 : c.1 ≤ i ∧ i < c.2
        · have h2 : c.1 ≤ i ∧ i < c.2 ∧ b ≠ 10 := ⟨h1.1, h1.2, h10⟩
          rw [if_pos h2, show (if inCom (c :: cs) i ∧ b ≠ 10 then (32 : UInt8) else b) = 32 from if_pos ⟨hiff.2 (.inl h1), h10⟩]
          split <;> rfl
        · have h2 : ¬ (c.1 ≤ i ∧ i < c.2 ∧ b ≠ 10) := fun h => h1 ⟨h.1, h.2.1⟩
          rw [if_neg h2]
          by_cases h3 : inCom cs i
          · rw [if_pos ⟨h3, h10⟩, if_pos ⟨hiff.2 (.inr h3), h10⟩]
          · rw [if_neg (fun h => h3 h.1), if_neg (fun h => (hiff.1 h.1).elim h1 h3)]

/-- A stripped text has the tokens of the text, and no comment. -/
theorem toks_strip (l : Bytes) (h : (toks l).bad = none) : toks (strip l) = ⟨(toks l).toks, [], none⟩ := by
  have hlen : (strip l).length = l.length := stripBy_len _ _
  refine cuts_bare l.length 0 l (strip l) (Nat.le_refl _) h hlen ?_ ?_ ?_
  · intro i
    unfold strip
    rw [stripBy_get]
    cases hg : l[i]? with
    | none => exact .inl rfl
    | some b =>
      simp only [Option.map_some]
      split
      · exact .inr ⟨32, rfl, by decide⟩
      · exact .inl rfl
  · intro i hi hn
    unfold strip
    rw [stripBy_get]
    rw [Nat.zero_add] at hn
    cases hg : l[i]? with
    | none => rfl
    | some b => rw [Option.map_some, if_neg (fun h => hn h.1)]
  · intro i hi hn
    unfold strip
    rw [stripBy_get]
    rw [Nat.zero_add] at hn
    rw [List.getElem?_eq_getElem hi, Option.map_some]
    by_cases h10 : l[i] = 10
    · rw [if_neg (fun h => h.2 h10), h10]
      exact ⟨10, rfl, by decide⟩
    · rw [if_pos ⟨hn, h10⟩]
      exact ⟨32, rfl, by decide⟩

theorem strip_strip (l : Bytes) (h : (toks l).bad = none) : strip (strip l) = strip l := by
  conv => lhs; unfold strip
  rw [show (toks (stripBy l (toks l).coms)).coms = [] from congrArg Out.coms (toks_strip l h)]
  rfl

theorem strip_len (l : Bytes) : (strip l).length = l.length := stripBy_len _ _

theorem count_mapIdx (x : UInt8) : ∀ (l : Bytes) (f : Nat → UInt8 → UInt8), (∀ i b, f i b = x ↔ b = x) → (l.mapIdx f).count x = l.count x
  | [], _, _ => rfl
  | b :: l, f, h => by
    rw [List.mapIdx_cons, List.count_cons, List.count_cons, count_mapIdx x l (fun i => f (i + 1)) (fun i b => h (i + 1) b)]
    congr 1
    have := h 0 b
    by_cases hb : b = x
    · rw [if_pos (by simpa using this.2 hb), if_pos (by simpa using hb)]
    · rw [if_neg (by simpa using fun e => hb (this.1 e)), if_neg (by simpa using hb)]

theorem strip_lines (l : Bytes) : (strip l).count 10 = l.count 10 := by
  unfold strip
  generalize (toks l).coms = cs
  induction cs generalizing l with
  | nil => rfl
  | cons c cs ih =>
    show (stripBy (blankOut l c.1 c.2) cs).count 10 = _
    rw [ih]
    unfold blankOut
    refine count_mapIdx 10 l _ (fun i b => ?_)
    split
    · rename_i h
      constructor
      · intro e; exact absurd e (by decide)
      · intro e; exact absurd e h.2.2
    · exact Iff.rfl
end Lx

/- A cut hangs on the byte behind it, and on none further behind. -/
namespace Lx

theorem takeWhile_near (p : UInt8 → Bool) (b : UInt8) (r r' : Bytes) (s : Bytes) (h : ((s ++ b :: r).takeWhile p).length = s.length) : (s ++ b :: r).takeWhile p = s ∧ (s ++ b :: r').takeWhile p = s ∧ p b = false := by
  have hpre : (s ++ b :: r).takeWhile p = s := by
    have h1 := List.takeWhile_prefix (p := p) (l := s ++ b :: r)
    have h2 : s <+: s ++ b :: r := List.prefix_append _ _
    exact List.IsPrefix.eq_of_length (List.prefix_of_prefix_length_le h1 h2 (by omega)) h
  have hall : ∀ x ∈ s, p x = true := by
    intro x hx
    rw [← hpre] at hx
    exact List.all_eq_true.1 List.all_takeWhile x hx
  have hb : p b = false := by
    cases hpb : p b with
    | false => rfl
    | true =>
      rw [List.takeWhile_append_of_pos hall, List.takeWhile_cons, if_pos hpb] at h
      simp at h
  refine ⟨hpre, ?_, hb⟩
  rw [List.takeWhile_append_of_pos hall, List.takeWhile_cons, if_neg (by simp [hb])]
  simp

theorem signs_half : ∀ s ∈ signs, s.length = 3 → signs.contains (s.take 2) = true := by decide +kernel

theorem signLen_max (l : Bytes) : ∀ k j, signLen l k < j → j ≤ k → j ≤ l.length → signs.contains (l.take j) = false
  | 0, j, h1, h2, _ => by omega
  | k + 1, j, h1, h2, h3 => by
    rw [signLen] at h1
    by_cases hc : (decide (k + 1 ≤ l.length) && signs.contains (l.take (k + 1))) = true
    · rw [if_pos hc] at h1; omega
    · rw [if_neg hc] at h1
      by_cases hj : j = k + 1
      · subst hj
        simp only [Bool.and_eq_true, decide_eq_true_eq, not_and, Bool.not_eq_true] at hc
        exact hc h3
      · exact signLen_max l k j h1 (by omega) h3

theorem signLen_of (l : Bytes) (n : Nat) (hn : n ≠ 0 → n ≤ l.length ∧ signs.contains (l.take n) = true) : ∀ k, n ≤ k → (∀ j, n < j → j ≤ k → j ≤ l.length → signs.contains (l.take j) = false) → signLen l k = n
  | 0, h, _ => by rw [signLen]; omega
  | k + 1, h, hm => by
    rw [signLen]
    by_cases hk : n = k + 1
    · subst hk
      obtain ⟨h1, h2⟩ := hn (by omega)
      rw [if_pos]
      simp only [Bool.and_eq_true, decide_eq_true_eq]
      exact ⟨h1, h2⟩
    · rw [if_neg, signLen_of l n hn k (by omega) (fun j h1 h2 h3 => hm j h1 (by omega) h3)]
      intro hc
      simp only [Bool.and_eq_true, decide_eq_true_eq] at hc
      have := hm (k + 1) (by omega) (Nat.le_refl _) hc.1
      rw [hc.2] at this
      cases this

theorem signLen_near (b : UInt8) (r r' : Bytes) (s : Bytes) (h0 : 0 < s.length) (h : signLen (s ++ b :: r) 3 = s.length) : signLen (s ++ b :: r') 3 = s.length := by
  have hle := signLen_le (s ++ b :: r) 3
  rw [h] at hle
  refine signLen_of _ _ (fun _ => ⟨by simp, ?_⟩) 3 hle.1 ?_
  · have hin := signLen_in (s ++ b :: r) 3 (by omega)
    rw [h] at hin
    rw [List.take_left] at hin ⊢
    exact hin
  · intro j h1 h2 h3
    have hmax : signs.contains (s ++ [b]) = false := by
      have h4 := signLen_max (s ++ b :: r) 3 (s.length + 1) (by omega) (by omega) (by simp)
      rw [List.take_append, List.take_of_length_le (by omega), show s.length + 1 - s.length = 1 by omega] at h4
      simpa using h4
    cases hc : signs.contains ((s ++ b :: r').take j) with
    | false => rfl
    | true =>
      exfalso
      have hm := (List.contains_iff_mem).1 hc
      by_cases hj : j = s.length + 1
      · subst hj
        rw [List.take_append, List.take_of_length_le (by omega), show s.length + 1 - s.length = 1 by omega] at hc
        simp only [List.take_succ_cons, List.take_zero] at hc
        rw [hmax] at hc
        cases hc
      · have hj3 : j = 3 := by omega
        subst hj3
        have h5 := signs_half _ hm (by rw [List.length_take]; omega)
        rw [List.take_take, show min 2 3 = s.length + 1 by omega, List.take_append, List.take_of_length_le (by omega), show s.length + 1 - s.length = 1 by omega] at h5
        simp only [List.take_succ_cons, List.take_zero] at h5
        rw [hmax] at h5
        cases h5

/-- A cut hangs on the byte behind it, and on none further behind. -/
theorem cut1_near (b : UInt8) (r r' s : Bytes) (hne : cut1 (s ++ b :: r) ≠ .bad) (hlen : (cut1 (s ++ b :: r)).len = s.length) : cut1 (s ++ b :: r') = cut1 (s ++ b :: r) := by
  have hl := cut1_len _ hne
  have hs0 : 0 < s.length := by omega
  obtain ⟨c, t, rfl⟩ : ∃ c t, s = c :: t := by
    cases s with
    | nil => simp at hs0
    | cons c t => exact ⟨c, t, rfl⟩
  have hnm := takeWhile_near isInName b r r' (c :: t)
  have hdg := takeWhile_near isDigit b r r' (c :: t)
  have hsy := takeWhile_near isSymbol b r r' (c :: t)
  have hsg := signLen_near b r r' (c :: t) hs0
  clear hl
  simp only [List.cons_append] at hne hlen hnm hdg hsy hsg ⊢
  rw [cut1] at hne hlen
  rw [cut1, cut1]
  by_cases h1 : isBlank c
  · simp [h1]
  by_cases h2 : isLetter c
  · simp only [h1, h2, if_true, Bool.false_eq_true, if_false] at hne hlen ⊢
    unfold cutName at hne hlen ⊢
    simp only at hne hlen ⊢
    split at hne
    · rename_i h5
      rw [if_pos h5] at hlen
      obtain ⟨e1, e2, _⟩ := hnm hlen
      rw [e1, e2]
    · exact absurd rfl hne
  by_cases h3 : isDigit c
  · simp only [h1, h2, h3, if_true, Bool.false_eq_true, if_false] at hne hlen ⊢
    unfold cutNumber at hne hlen ⊢
    simp only at hne hlen ⊢
    split at hne
    · rename_i h5
      rw [if_pos h5] at hlen
      obtain ⟨e1, e2, _⟩ := hdg hlen
      rw [e1, e2]
      have hd : ∀ x : Bytes, (c :: (t ++ b :: x)).drop (c :: t).length = b :: x := fun x => by rw [← List.cons_append, List.drop_left]
      rw [hd, hd]
      simp only [List.head?_cons]
      rfl
    · exact absurd rfl hne
  by_cases h4 : isSymbol c
  · simp only [h1, h2, h3, h4, if_true, Bool.false_eq_true, if_false] at hne hlen ⊢
    unfold cutSymbols at hne hlen ⊢
    simp only at hne hlen ⊢
    split at hne
    · rename_i h5
      rw [if_pos h5] at hlen
      obtain ⟨e1, e2, _⟩ := hsy hlen
      rw [e1, e2]
    · exact absurd rfl hne
  · simp only [h1, h2, h3, h4, Bool.false_eq_true, if_false] at hne hlen ⊢
    unfold cutSign at hne hlen ⊢
    have h2t : ∀ x : Bytes, (c :: (t ++ b :: x)).take 2 = (c :: (t ++ [b])).take 2 := fun x => by
      cases t <;> simp
    rw [h2t r] at hne hlen
    rw [h2t r, h2t r']
    by_cases hcm : (c :: (t ++ [b])).take 2 = [40, 42]
    · rw [if_pos hcm] at hne hlen
      rw [if_pos hcm, if_pos hcm]
      cases hcom : com 1 ((c :: (t ++ b :: r)).drop 2) with
      | none => rw [hcom] at hne; exact absurd rfl hne
      | some n =>
        rw [hcom] at hlen
        simp only [Cut.len, List.length_cons] at hlen
        have h6 := com_take 1 _ n n hcom (Nat.le_refl _)
        obtain ⟨y, t', rfl⟩ : ∃ y t', t = y :: t' := by
          cases t with
          | nil => simp at hlen
          | cons y t' => exact ⟨y, t', rfl⟩
        simp only [List.length_cons] at hlen
        simp only [List.cons_append, List.drop_succ_cons, List.drop_zero] at h6 ⊢
        rw [List.take_append_of_le_length (by omega), List.take_of_length_le (by omega)] at h6
        rw [com_append 1 t' (b :: r') n h6]
    · rw [if_neg hcm] at hne hlen
      rw [if_neg hcm, if_neg hcm]
      cases hk : signLen (c :: (t ++ b :: r)) 3 with
      | zero => rw [hk] at hne; exact absurd rfl hne
      | succ k =>
        rw [hk] at hlen
        simp only [Cut.len] at hlen
        rw [hsg (by rw [hk]; exact hlen), ← hlen]
        simp only
        rw [← List.cons_append, ← List.cons_append, List.take_append_of_le_length (by omega), List.take_append_of_le_length (by omega)]
end Lx

/- An edited text is cut anew only where it has to be. -/
namespace Lx

/-- Tokens stand within the text, one behind the other. -/
theorem toks_within : ∀ (n p : Nat) (l : Bytes), l.length ≤ n → (∀ t ∈ (cuts p l).toks, p ≤ t.at_ ∧ t.at_ < t.end_ ∧ t.end_ ≤ p + l.length) ∧ List.Pairwise (fun a b => a.end_ ≤ b.at_) (cuts p l).toks
  | n, p, [], _ => by simp [cuts_nil]
  | n + 1, p, x :: r, hn => by
    simp only [List.length_cons] at hn
    rw [cuts_cons]
    have hlen := cut1_len (x :: r)
    cases hc : cut1 (x :: r) with
    | bad => simp
    | skip =>
      have ih := toks_within n (p + 1) r (by omega)
      simp only
      exact ⟨fun t ht => by have := ih.1 t ht; simp only [List.length_cons]; omega, ih.2⟩
    | comment k =>
      rw [hc] at hlen
      have hl := hlen (by simp)
      simp only [Cut.len, List.length_cons] at hl
      have ih := toks_within n (p + k) ((x :: r).drop k) (by simp; omega)
      simp only [Out.com]
      exact ⟨fun t ht => by have := ih.1 t ht; simp only [List.length_drop, List.length_cons] at this ⊢; omega, ih.2⟩
    | tok kd m s k =>
      rw [hc] at hlen
      have hl := hlen (by simp)
      simp only [Cut.len, List.length_cons] at hl
      have ih := toks_within n (p + k) ((x :: r).drop k) (by simp; omega)
      simp only [Out.tok]
      refine ⟨fun t ht => ?_, List.pairwise_cons.2 ⟨fun t ht => (ih.1 t ht).1, ih.2⟩⟩
      rcases List.mem_cons.1 ht with rfl | ht
      · simp only [List.length_cons]; omega
      · have := ih.1 t ht
        simp only [List.length_drop, List.length_cons] at this ⊢
        omega

/-- The place behind tokens. -/
def endOf (p : Nat) (ts : List Tok) : Nat := match ts.getLast? with
  | none => p
  | some t => t.end_

theorem endOf_nil (p : Nat) : endOf p [] = p := rfl
theorem endOf_cons (p : Nat) (t : Tok) (l : List Tok) : endOf p (t :: l) = endOf t.end_ l := by
  cases l with
  | nil => rfl
  | cons a l => unfold endOf; rw [List.getLast?_cons_cons]; cases h : (a :: l).getLast? with
    | none => simp at h
    | some t => rfl

/-- Where two texts are the same up to byte A, they are cut alike ahead of it. -/
theorem cut1_ahead (l l' : Bytes) (A : Nat) (hA : l'.take A = l.take A) (hAl : A ≤ l.length) (hne : cut1 l ≠ .bad) (hlt : (cut1 l).len < A) : cut1 l' = cut1 l := by
  have hk : (cut1 l).len < l.length := by omega
  have hA' : A ≤ l'.length := by
    have := congrArg List.length hA
    simp only [List.length_take] at this
    omega
  have h1 : l = l.take (cut1 l).len ++ l[(cut1 l).len] :: l.drop ((cut1 l).len + 1) := by
    rw [List.getElem_cons_drop, List.take_append_drop]
  have hk' : (cut1 l).len < l'.length := by omega
  have ht : l'.take (cut1 l).len = l.take (cut1 l).len := by
    have := congrArg (List.take (cut1 l).len) hA
    rwa [List.take_take, List.take_take, Nat.min_eq_left (by omega)] at this
  have hg : l'[(cut1 l).len] = l[(cut1 l).len] := by
    have := congrArg (fun x => x[(cut1 l).len]?) hA
    simp only [List.getElem?_take, if_pos hlt] at this
    rw [List.getElem?_eq_getElem hk', List.getElem?_eq_getElem hk] at this
    exact Option.some.inj this
  have h2 : l' = l.take (cut1 l).len ++ l[(cut1 l).len] :: l'.drop ((cut1 l).len + 1) := by
    rw [← ht, ← hg, List.getElem_cons_drop, List.take_append_drop]
  have hn := cut1_near l[(cut1 l).len] (l.drop ((cut1 l).len + 1)) (l'.drop ((cut1 l).len + 1)) (l.take (cut1 l).len)
  rw [← h1, ← h2] at hn
  exact hn hne (by rw [List.length_take]; omega)

theorem pre_nil (o : Out) : o.pre [] [] = o := rfl

theorem cuts_prefix : ∀ (n p : Nat) (l l' : Bytes) (A k : Nat), l.length ≤ n → (cuts p l).bad = none → l'.take A = l.take A → A ≤ l.length → k ≤ (cuts p l).toks.length → (∀ t ∈ (cuts p l).toks.take k, t.end_ < p + A) →
    ∃ cs, cuts p l' = (cuts (endOf p ((cuts p l).toks.take k)) (l'.drop (endOf p ((cuts p l).toks.take k) - p))).pre ((cuts p l).toks.take k) cs
  | n, p, l, l', A, 0, _, _, _, _, _, _ => ⟨[], by rw [List.take_zero, endOf_nil, Nat.sub_self, List.drop_zero, pre_nil]⟩
  | n, p, [], l', A, k + 1, _, _, _, _, hk, _ => by simp [cuts_nil] at hk
  | n + 1, p, c :: t, l', A, k + 1, hn, hbad, hA, hAl, hk, hend => by
    have hlen := cut1_len (c :: t)
    have hne : cut1 (c :: t) ≠ .bad := by
      intro h
      rw [cuts_cons, h] at hbad
      cases hbad
    have hlm := hlen hne
    simp only [List.length_cons] at hn hlm hAl
    -- what is cut first ends ahead of A
    have hw := toks_within (c :: t).length p (c :: t) (Nat.le_refl _)
    have hfirst : (cut1 (c :: t)).len < A := by
      rw [cuts_cons] at hk hend
      cases hc : cut1 (c :: t) with
      | bad => exact absurd hc hne
      | skip =>
        rw [hc] at hk hend
        simp only at hk hend
        cases hts : (cuts (p + 1) t).toks with
        | nil => rw [hts] at hk; simp at hk
        | cons t0 ts =>
          rw [hts] at hend
          have h1 := hend t0 (by rw [List.take_succ_cons]; exact List.mem_cons_self)
          have h2 := (toks_within t.length (p + 1) t (Nat.le_refl _)).1 t0 (by rw [hts]; exact List.mem_cons_self)
          simp only [Cut.len]
          omega
      | comment m =>
        rw [hc] at hk hend
        simp only [Out.com] at hk hend
        cases hts : (cuts (p + m) ((c :: t).drop m)).toks with
        | nil => rw [hts] at hk; simp at hk
        | cons t0 ts =>
          rw [hts] at hend
          have h1 := hend t0 (by rw [List.take_succ_cons]; exact List.mem_cons_self)
          have h2 := (toks_within _ (p + m) ((c :: t).drop m) (Nat.le_refl _)).1 t0 (by rw [hts]; exact List.mem_cons_self)
          simp only [Cut.len]
          omega
      | tok kd v s m =>
        rw [hc] at hk hend
        simp only [Out.tok] at hk hend
        have h1 := hend _ (by rw [List.take_succ_cons]; exact List.mem_cons_self)
        simp only [Cut.len]
        simp only at h1
        omega
    have hst := cut1_ahead (c :: t) l' A hA (by simpa using hAl) hne hfirst
    obtain ⟨t', rfl⟩ : ∃ t', l' = c :: t' := by
      cases l' with
      | nil =>
        have := congrArg List.length hA
        simp only [List.length_take, List.length_nil, List.length_cons] at this
        omega
      | cons c' t' =>
        have hc0 := congrArg List.head? hA
        rw [List.head?_take, List.head?_take, if_neg (by omega), if_neg (by omega)] at hc0
        simp only [List.head?_cons, Option.some.injEq] at hc0
        exact ⟨t', by rw [hc0]⟩
    have hdrop : ∀ m, m ≤ A → ((c :: t').drop m).take (A - m) = ((c :: t).drop m).take (A - m) := by
      intro m hm
      have := congrArg (List.drop m) hA
      rwa [List.drop_take, List.drop_take] at this
    rw [cuts_cons] at hbad hk hend ⊢
    rw [hst, cuts_cons p c t]
    cases hc : cut1 (c :: t) with
    | bad => exact absurd hc hne
    | skip =>
      rw [hc] at hbad hk hend hfirst
      simp only [Cut.len] at hbad hk hend hfirst ⊢
      have h5 := hdrop 1 (by omega)
      simp only [List.drop_succ_cons, List.drop_zero] at h5
      obtain ⟨cs, ih⟩ := cuts_prefix n (p + 1) t t' (A - 1) (k + 1) (by omega) hbad h5 (by omega) hk (fun x hx => by have := hend x hx; omega)
      refine ⟨cs, ?_⟩
      rw [ih]
      have hge : p + 1 ≤ endOf (p + 1) ((cuts (p + 1) t).toks.take (k + 1)) := by
        unfold endOf
        cases hl : ((cuts (p + 1) t).toks.take (k + 1)).getLast? with
        | none => exact Nat.le_refl _
        | some x =>
          have hx := List.mem_of_mem_take (List.mem_of_getLast? hl)
          have := (toks_within t.length (p + 1) t (Nat.le_refl _)).1 x hx
          show p + 1 ≤ x.end_
          omega
      have heq : endOf p ((cuts (p + 1) t).toks.take (k + 1)) = endOf (p + 1) ((cuts (p + 1) t).toks.take (k + 1)) := by
        cases hts : (cuts (p + 1) t).toks with
        | nil => rw [hts] at hk; simp at hk
        | cons t0 ts => rw [List.take_succ_cons, endOf_cons, endOf_cons]
      rw [heq]
      rw [show endOf (p + 1) ((cuts (p + 1) t).toks.take (k + 1)) - p = (endOf (p + 1) ((cuts (p + 1) t).toks.take (k + 1)) - (p + 1)) + 1 by omega, List.drop_succ_cons]
    | comment m =>
      rw [hc] at hbad hk hend hfirst hlm
      simp only [Cut.len, Out.com] at hbad hk hend hfirst hlm ⊢
      have h5 := hdrop m (by omega)
      obtain ⟨cs, ih⟩ := cuts_prefix n (p + m) ((c :: t).drop m) ((c :: t').drop m) (A - m) (k + 1) (by simp; omega) hbad h5 (by simp; omega) hk (fun x hx => by have := hend x hx; omega)
      refine ⟨(p, p + m) :: cs, ?_⟩
      rw [ih]
      have hge : p + m ≤ endOf (p + m) ((cuts (p + m) ((c :: t).drop m)).toks.take (k + 1)) := by
        unfold endOf
        cases hl : ((cuts (p + m) ((c :: t).drop m)).toks.take (k + 1)).getLast? with
        | none => exact Nat.le_refl _
        | some x =>
          have hx := List.mem_of_mem_take (List.mem_of_getLast? hl)
          have := (toks_within _ (p + m) ((c :: t).drop m) (Nat.le_refl _)).1 x hx
          show p + m ≤ x.end_
          omega
      have heq : endOf p ((cuts (p + m) ((c :: t).drop m)).toks.take (k + 1)) = endOf (p + m) ((cuts (p + m) ((c :: t).drop m)).toks.take (k + 1)) := by
        cases hts : (cuts (p + m) ((c :: t).drop m)).toks with
        | nil => rw [hts] at hk; simp at hk
        | cons t0 ts => rw [List.take_succ_cons, endOf_cons, endOf_cons]
      rw [heq, List.drop_drop]
      rw [show m + (endOf (p + m) ((cuts (p + m) ((c :: t).drop m)).toks.take (k + 1)) - (p + m)) = endOf (p + m) ((cuts (p + m) ((c :: t).drop m)).toks.take (k + 1)) - p by omega]
      rfl
    | tok kd v s m =>
      rw [hc] at hbad hk hend hfirst hlm
      simp only [Cut.len, Out.tok, List.length_cons, List.take_succ_cons] at hbad hk hend hfirst hlm ⊢
      have h5 := hdrop m (by omega)
      obtain ⟨cs, ih⟩ := cuts_prefix n (p + m) ((c :: t).drop m) ((c :: t').drop m) (A - m) k (by simp; omega) hbad h5 (by simp; omega) (by omega) (fun x hx => by have := hend x (List.mem_cons_of_mem _ hx); omega)
      refine ⟨cs, ?_⟩
      rw [ih, endOf_cons]
      simp only
      have hge : p + m ≤ endOf (p + m) ((cuts (p + m) ((c :: t).drop m)).toks.take k) := by
        unfold endOf
        cases hl : ((cuts (p + m) ((c :: t).drop m)).toks.take k).getLast? with
        | none => exact Nat.le_refl _
        | some x =>
          have hx := List.mem_of_mem_take (List.mem_of_getLast? hl)
          have := (toks_within _ (p + m) ((c :: t).drop m) (Nat.le_refl _)).1 x hx
          show p + m ≤ x.end_
          omega
      rw [List.drop_drop]
      rw [show m + (endOf (p + m) ((cuts (p + m) ((c :: t).drop m)).toks.take k) - (p + m)) = endOf (p + m) ((cuts (p + m) ((c :: t).drop m)).toks.take k) - p by omega]
      rfl

/-- From a token on a text is cut as it was. -/
theorem cuts_resume : ∀ (n p : Nat) (l : Bytes) (j : Nat) (x : Tok), l.length ≤ n → (cuts p l).bad = none → (cuts p l).toks[j]? = some x →
    (cuts x.at_ (l.drop (x.at_ - p))).toks = (cuts p l).toks.drop j ∧ (cuts x.at_ (l.drop (x.at_ - p))).bad = none
  | n, p, [], j, x, _, _, h => by simp [cuts_nil] at h
  | n + 1, p, c :: t, j, x, hn, hbad, hj => by
    have hw := (toks_within (c :: t).length p (c :: t) (Nat.le_refl _)).1 x (List.mem_of_getElem? hj)
    have hlen := cut1_len (c :: t)
    simp only [List.length_cons] at hn hlen
    have hcut := cuts_cons p c t
    cases hc : cut1 (c :: t) with
    | bad => rw [hcut, hc] at hbad; cases hbad
    | skip =>
      rw [hc] at hcut
      simp only at hcut
      rw [hcut] at hbad hj ⊢
      have hx := (toks_within t.length (p + 1) t (Nat.le_refl _)).1 x (List.mem_of_getElem? hj)
      rw [show x.at_ - p = (x.at_ - (p + 1)) + 1 by omega, List.drop_succ_cons]
      exact cuts_resume n (p + 1) t j x (by omega) hbad hj
    | comment k =>
      rw [hc] at hcut hlen
      have hl := hlen (by simp)
      simp only [Out.com, Cut.len] at hcut hl
      rw [hcut] at hbad hj ⊢
      simp only at hbad hj ⊢
      have hx := (toks_within _ (p + k) ((c :: t).drop k) (Nat.le_refl _)).1 x (List.mem_of_getElem? hj)
      have ih := cuts_resume n (p + k) ((c :: t).drop k) j x (by simp; omega) hbad hj
      rw [List.drop_drop, show k + (x.at_ - (p + k)) = x.at_ - p by omega] at ih
      exact ih
    | tok kd v s k =>
      rw [hc] at hcut hlen
      have hl := hlen (by simp)
      simp only [Out.tok, Cut.len] at hcut hl
      cases j with
      | zero =>
        rw [hcut] at hj
        simp only [List.getElem?_cons_zero, Option.some.injEq] at hj
        subst hj
        simp only [Nat.sub_self, List.drop_zero]
        exact ⟨trivial, hbad⟩
      | succ j =>
        rw [hcut] at hbad hj ⊢
        simp only [List.getElem?_cons_succ, List.drop_succ_cons] at hbad hj ⊢
        have hx := (toks_within _ (p + k) ((c :: t).drop k) (Nat.le_refl _)).1 x (List.mem_of_getElem? hj)
        have ih := cuts_resume n (p + k) ((c :: t).drop k) j x (by simp; omega) hbad hj
        rw [List.drop_drop, show k + (x.at_ - (p + k)) = x.at_ - p by omega] at ih
        exact ih

/-- Cuts that stop early are the first ones of all. -/
theorem cutE_cuts (E : Nat → Bool) : ∀ (n p : Nat) (l : Bytes), l.length ≤ n →
    (∀ q, (cutE E p l).2.bad = some q → (cuts p l).bad = some q) ∧
    ((cutE E p l).2.bad = none → p ≤ (cutE E p l).1 ∧ (cutE E p l).1 ≤ p + l.length ∧ (E (cutE E p l).1 = true ∧ (cutE E p l).1 < p + l.length ∨ (cutE E p l).1 = p + l.length) ∧ cuts p l = (cuts (cutE E p l).1 (l.drop ((cutE E p l).1 - p))).pre (cutE E p l).2.toks (cutE E p l).2.coms)
  | n, p, [], _ => by simp [cutE_nil, cuts_nil, Out.pre]
  | n + 1, p, c :: t, hn => by
    simp only [List.length_cons] at hn
    rw [cutE_cons]
    by_cases hE : E p = true
    · rw [if_pos hE]
      refine ⟨fun q h => (by cases h), fun _ => ⟨Nat.le_refl _, by simp, .inl ⟨hE, by simp⟩, ?_⟩⟩
      simp only [Nat.sub_self, List.drop_zero]
      rfl
    · rw [if_neg hE]
      have hstep := cuts_step p (c :: t) (by simp)
      cases hs : step p (c :: t) with
      | none =>
        rw [hs] at hstep
        simp only at hstep
        refine ⟨fun q h => by rw [hstep]; exact h, fun h => by cases h⟩
      | some x =>
        obtain ⟨k, ts, cs⟩ := x
        rw [hs] at hstep
        simp only at hstep
        have hl := step_len p (c :: t) hs
        simp only [List.length_cons] at hl
        obtain ⟨ih1, ih2⟩ := cutE_cuts E n (p + k) ((c :: t).drop k) (by simp; omega)
        simp only [Out.pre, List.length_drop, List.length_cons] at ih1 ih2 hstep ⊢
        generalize cutE E (p + k) ((c :: t).drop k) = X at *
        rw [hstep]
        refine ⟨ih1, fun hb => ?_⟩
        obtain ⟨h1, h2, h3, h4⟩ := ih2 hb
        refine ⟨by omega, by omega, ?_, ?_⟩
        · rcases h3 with ⟨h3, h5⟩ | h3
          · exact .inl ⟨h3, by omega⟩
          · exact .inr (by omega)
        · rw [h4]
          simp only [List.drop_drop, List.append_assoc]
          rw [show k + (X.1 - (p + k)) = X.1 - p by omega]

def Tok.byI (d : Int) (t : Tok) : Tok := { t with at_ := (t.at_ + d).toNat, end_ := (t.end_ + d).toNat }

/-- What of the tokens stands ahead of an edit. -/
def aheadOf (old : List Tok) (A : Nat) : List Tok := old.takeWhile fun t => decide (t.end_ < A)
/-- What of the tokens stands, moved, from a byte on. -/
def fromOn (old : List Tok) (d : Int) (p : Nat) : List Tok := old.dropWhile fun t => decide ((t.at_ : Int) + d < p)
/-- Whether the rest is cut as it was. -/
def again (old : List Tok) (d : Int) (A : Nat) (p : Nat) : Bool := decide (A ≤ p) && (fromOn old d p).head?.any fun t => decide ((t.at_ : Int) + d = p)

/-- How an edited text is cut anew. -/
def recut (old : List Tok) (ed : Bytes) (A C n : Nat) : Out :=
  let d : Int := (n : Int) - C
  let X := cutE (again old d (A + n)) (endOf 0 (aheadOf old A)) (ed.drop (endOf 0 (aheadOf old A)))
  ⟨aheadOf old A ++ X.2.toks ++ (if X.1 < ed.length then (fromOn old d X.1).map (Tok.byI d) else []), [], X.2.bad⟩

theorem recut_eq (l S : Bytes) (A C : Nat) (hb : (toks l).bad = none) (hA : A + C ≤ l.length) :
    let ed := l.take A ++ S ++ l.drop (A + C)
    (recut (toks l).toks ed A C S.length).bad = (toks ed).bad ∧ ((toks ed).bad = none → (recut (toks l).toks ed A C S.length).toks = (toks ed).toks) := by
  intro ed
  have hedA : ed.take A = l.take A := by
    show (l.take A ++ S ++ l.drop (A + C)).take A = _
    rw [List.append_assoc, List.take_append_of_le_length (by rw [List.length_take]; omega), List.take_take, Nat.min_self]
  have hedl : ed.length = A + S.length + (l.length - (A + C)) := by
    show (l.take A ++ S ++ l.drop (A + C)).length = _
    simp only [List.length_append, List.length_take, List.length_drop]
    omega
  have hw := toks_within l.length 0 l (Nat.le_refl _)
  -- the tokens ahead
  have hpre : aheadOf (toks l).toks A = (toks l).toks.take (aheadOf (toks l).toks A).length := by
    have := List.takeWhile_prefix (p := fun t : Tok => decide (t.end_ < A)) (l := (toks l).toks)
    exact (List.prefix_iff_eq_take.1 this)
  have hall : ∀ t ∈ aheadOf (toks l).toks A, t.end_ < A := fun t ht => by
    have := List.all_eq_true.1 List.all_takeWhile t ht
    simpa using this
  obtain ⟨cs, h1⟩ := cuts_prefix l.length 0 l ed A (aheadOf (toks l).toks A).length (Nat.le_refl _) hb hedA (by omega)
    (List.IsPrefix.length_le (List.takeWhile_prefix (p := fun t : Tok => decide (t.end_ < A)))) (fun t ht => by rw [Nat.zero_add]; exact hall t (by rw [hpre]; exact ht))
  have hts : (cuts 0 l).toks = (toks l).toks := rfl
  rw [hts, ← hpre, Nat.sub_zero] at h1
  have hst : endOf 0 (aheadOf (toks l).toks A) ≤ A := by
    unfold endOf
    cases hg : (aheadOf (toks l).toks A).getLast? with
    | none => exact Nat.zero_le _
    | some x => exact Nat.le_of_lt (hall x (List.mem_of_getLast? hg))
  obtain ⟨h2, h3⟩ := cutE_cuts (again (toks l).toks ((S.length : Int) - C) (A + S.length)) (ed.drop (endOf 0 (aheadOf (toks l).toks A))).length (endOf 0 (aheadOf (toks l).toks A)) (ed.drop (endOf 0 (aheadOf (toks l).toks A))) (Nat.le_refl _)
  have hed : toks ed = cuts 0 ed := rfl
  unfold recut
  rw [hed, h1]
  simp only [Out.pre]
  generalize endOf 0 (aheadOf (toks l).toks A) = st at *
  generalize hX : cutE (again (toks l).toks ((S.length : Int) - C) (A + S.length)) st (ed.drop st) = X at *
  cases hbx : X.2.bad with
  | some q =>
    have := h2 q hbx
    rw [this]
    exact ⟨rfl, fun h => (by cases h)⟩
  | none =>
    obtain ⟨h4, h5, h6, h7⟩ := h3 hbx
    rw [h7]
    simp only [Out.pre, List.length_drop] at h5 h6 ⊢
    rcases h6 with ⟨h6, h8⟩ | h6
    · have hlt : X.1 < ed.length := by omega
      rw [if_pos hlt, List.drop_drop, show st + (X.1 - st) = X.1 by omega]
      -- the token that stands here
      unfold again at h6
      simp only [Bool.and_eq_true, decide_eq_true_eq] at h6
      obtain ⟨h9, h10⟩ := h6
      have hsuf : ∃ j, fromOn (toks l).toks ((S.length : Int) - C) X.1 = (toks l).toks.drop j := by
        have := List.dropWhile_suffix (l := (toks l).toks) (fun t : Tok => decide ((t.at_ : Int) + ((S.length : Int) - C) < X.1))
        rw [List.suffix_iff_eq_drop] at this
        exact ⟨_, this⟩
      obtain ⟨j, hj⟩ := hsuf
      rw [hj] at h10 ⊢
      cases hh : ((toks l).toks.drop j).head? with
      | none => rw [hh] at h10; simp at h10
      | some x =>
        rw [hh] at h10
        simp only [Option.any_some, decide_eq_true_eq] at h10
        rw [List.head?_drop] at hh
        obtain ⟨h11, h12⟩ := cuts_resume l.length 0 l j x (Nat.le_refl _) hb hh
        rw [Nat.sub_zero] at h11 h12
        have hxin := hw.1 x (List.mem_of_getElem? hh)
        have hdr : ed.drop X.1 = l.drop x.at_ := by
          show (l.take A ++ S ++ l.drop (A + C)).drop X.1 = _
          rw [List.drop_append, List.drop_of_length_le (by simp only [List.length_append, List.length_take]; omega), List.nil_append, List.drop_drop]
          congr 1
          simp only [List.length_append, List.length_take]
          omega
        rw [hdr]
        by_cases hd : x.at_ ≤ X.1
        · obtain ⟨d, hd2⟩ : ∃ d, X.1 = x.at_ + d := ⟨X.1 - x.at_, by omega⟩
          rw [hd2, cuts_shift d _ x.at_ (l.drop x.at_) (Nat.le_refl _), h12]
          refine ⟨rfl, fun _ => ?_⟩
          simp only
          rw [h11, List.append_assoc]
          congr 2
          apply List.map_congr_left
          intro y _
          unfold Tok.byI Tok.by
          have e : ((S.length : Int) - C) = (d : Int) := by omega
          rw [e]
          congr 1
        · obtain ⟨d, hd2⟩ : ∃ d, x.at_ = X.1 + d := ⟨x.at_ - X.1, by omega⟩
          have hsh := cuts_shift d _ X.1 (l.drop x.at_) (Nat.le_refl _)
          rw [← hd2] at hsh
          have hbn : (cuts X.1 (l.drop x.at_)).bad = none := by
            have := congrArg Out.bad hsh
            rw [h12] at this
            cases hq : (cuts X.1 (l.drop x.at_)).bad with
            | none => rfl
            | some q => rw [hq] at this; cases this
          rw [hbn]
          refine ⟨rfl, fun _ => ?_⟩
          have ht := congrArg Out.toks hsh
          rw [h11] at ht
          have hts2 : (cuts 0 l).toks = (toks l).toks := rfl
          rw [hts2] at ht
          rw [ht, List.append_assoc]
          congr 2
          rw [List.map_map]
          conv => rhs; rw [← List.map_id (cuts X.1 (l.drop x.at_)).toks]
          apply List.map_congr_left
          intro y _
          unfold Tok.byI Tok.by
          have e : ((S.length : Int) - C) = -(d : Int) := by omega
          simp only [Function.comp, e, id]
          cases y
          congr 1 <;> (simp only; omega)
    · have hnl : ¬ X.1 < ed.length := by omega
      rw [if_neg hnl, List.append_nil, List.drop_of_length_le (by rw [List.length_drop]; omega), cuts_nil]
      exact ⟨rfl, fun _ => by simp⟩
end Lx

/- The reference, in plain words. -/
namespace Lx

/-- The longest sign at the head of a text that is not made of symbols alone, as it is found one by one. -/
def bestOf (l : Bytes) : List Bytes → Bytes → Bytes
  | [], best => best
  | s :: r, best => bestOf l r (if (!s.all isSymbol && s.isPrefixOf l && decide (best.length < s.length)) = true then s else best)

theorem bestOf_spec (l : Bytes) : ∀ (L : List Bytes) (best : Bytes), best.length ≤ (bestOf l L best).length ∧
    (bestOf l L best = best ∨ bestOf l L best ∈ L ∧ (bestOf l L best).isPrefixOf l = true) ∧ ∀ s ∈ L, s.all isSymbol = false → s.isPrefixOf l = true → s.length ≤ (bestOf l L best).length
  | [], best => ⟨Nat.le_refl _, .inl rfl, fun s hs => by cases hs⟩
  | s :: L, best => by
    rw [bestOf]
    by_cases hc : (!s.all isSymbol && s.isPrefixOf l && decide (best.length < s.length)) = true
    · rw [if_pos hc]
      obtain ⟨h1, h2, h3⟩ := bestOf_spec l L s
      simp only [Bool.and_eq_true, Bool.not_eq_true', decide_eq_true_eq] at hc
      refine ⟨by omega, .inr ?_, fun x hx hxs hxp => ?_⟩
      · rcases h2 with h2 | h2
        · rw [h2]; exact ⟨List.mem_cons_self, hc.1.2⟩
        · exact ⟨List.mem_cons_of_mem _ h2.1, h2.2⟩
      · rcases List.mem_cons.1 hx with rfl | hx
        · exact h1
        · exact h3 x hx hxs hxp
    · rw [if_neg hc]
      obtain ⟨h1, h2, h3⟩ := bestOf_spec l L best
      refine ⟨h1, ?_, fun x hx hxs hxp => ?_⟩
      · rcases h2 with h2 | h2
        · exact .inl h2
        · exact .inr ⟨List.mem_cons_of_mem _ h2.1, h2.2⟩
      · rcases List.mem_cons.1 hx with rfl | hx
        · have : ¬ best.length < x.length := by
            intro hlt
            apply hc
            simp only [Bool.and_eq_true, Bool.not_eq_true', decide_eq_true_eq]
            exact ⟨⟨hxs, hxp⟩, hlt⟩
          omega
        · exact h3 x hx hxs hxp

theorem signs_ne : ∀ s ∈ signs, s ≠ [] := by decide +kernel
theorem signs_head : ∀ s ∈ signs, s.all isSymbol = false → s.head?.any isSymbol = false := by decide +kernel
theorem signs_pure : ∀ s ∈ signs, s.all isSymbol = true → s.head?.any isSymbol = true := by decide +kernel

theorem prefix_take {s l : Bytes} (h : s.isPrefixOf l = true) : l.take s.length = s := by
  rw [List.isPrefixOf_iff_prefix, List.prefix_iff_eq_take] at h
  exact h.symm

/-- At a byte that is no symbol it is the longest sign. -/
theorem best_eq (c : UInt8) (r : Bytes) (hc : isSymbol c = false) : bestOf (c :: r) signs [] = (c :: r).take (signLen (c :: r) 3) := by
  obtain ⟨-, h2, h3⟩ := bestOf_spec (c :: r) signs []
  have hle := signLen_le (c :: r) 3
  have hge : signLen (c :: r) 3 ≤ (bestOf (c :: r) signs []).length := by
    by_cases h0 : signLen (c :: r) 3 = 0
    · omega
    · have hin := signLen_in (c :: r) 3 h0
      rw [List.contains_iff_mem] at hin
      have hlen : ((c :: r).take (signLen (c :: r) 3)).length = signLen (c :: r) 3 := by rw [List.length_take]; omega
      have hall : ((c :: r).take (signLen (c :: r) 3)).all isSymbol = false := by
        cases hx : ((c :: r).take (signLen (c :: r) 3)).all isSymbol with
        | false => rfl
        | true =>
          have := signs_pure _ hin hx
          obtain ⟨k, hk⟩ : ∃ k, signLen (c :: r) 3 = k + 1 := ⟨signLen (c :: r) 3 - 1, by omega⟩
          rw [hk, List.take_succ_cons] at this
          simp [hc] at this
      have := h3 _ hin hall (by rw [List.isPrefixOf_iff_prefix]; exact List.take_prefix _ _)
      omega
  have hgl : (bestOf (c :: r) signs []).length ≤ signLen (c :: r) 3 := by
    rcases h2 with h2 | ⟨h2, h4⟩
    · rw [h2]; simp
    · apply Nat.le_of_not_lt
      intro hlt
      have hs := signs_short _ h2
      have hpl := (List.isPrefixOf_iff_prefix.1 h4).length_le
      have := signLen_max (c :: r) 3 _ hlt hs hpl
      rw [prefix_take h4] at this
      rw [Bool.eq_false_iff] at this
      exact this (List.contains_iff_mem.2 h2)
  have hlen : (bestOf (c :: r) signs []).length = signLen (c :: r) 3 := by omega
  rcases h2 with h2 | ⟨h2, h4⟩
  · rw [h2] at hlen ⊢
    rw [← hlen]; rfl
  · rw [← hlen, prefix_take h4]

/-- At a symbol there is none. -/
theorem best_none (c : UInt8) (r : Bytes) (hc : isSymbol c = true) : bestOf (c :: r) signs [] = [] := by
  have gen : ∀ (L : List Bytes), (∀ s ∈ L, s ∈ signs) → bestOf (c :: r) L [] = [] := by
    intro L
    induction L with
    | nil => intro _; rfl
    | cons s L ih =>
      intro h
      rw [bestOf, if_neg, ih (fun x hx => h x (List.mem_cons_of_mem _ hx))]
      intro hx
      simp only [Bool.and_eq_true, Bool.not_eq_true', decide_eq_true_eq] at hx
      have h1 := signs_head s (h s List.mem_cons_self) hx.1.1
      have h2 := prefix_take hx.1.2
      have h3 := signs_ne s (h s List.mem_cons_self)
      match s, h3, h1, h2 with
      | x :: s, _, h1, h2 =>
        rw [List.length_cons, List.take_succ_cons, List.cons.injEq] at h2
        rw [← h2.1] at h1
        simp [hc] at h1
  exact gen signs (fun _ h => h)

/-- Cut from byte p on, and from byte q on: the same tokens, the same fault. -/
def Eqv (l : Bytes) (p q : Nat) : Prop := (cuts p (l.drop p)).toks = (cuts q (l.drop q)).toks ∧ (cuts p (l.drop p)).bad = (cuts q (l.drop q)).bad

theorem Eqv.refl (l : Bytes) (p : Nat) : Eqv l p p := ⟨rfl, rfl⟩
theorem Eqv.trans {l : Bytes} {p q r : Nat} (h : Eqv l p q) (k : Eqv l q r) : Eqv l p r := ⟨h.1.trans k.1, h.2.trans k.2⟩

theorem drop_cons {l : Bytes} {q : Nat} (h : q < l.length) : l.drop q = l[q] :: l.drop (q + 1) := (List.getElem_cons_drop h).symm

theorem eqv_blank {l : Bytes} {q : Nat} (h : q < l.length) (hb : isBlank l[q] = true) : Eqv l q (q + 1) := by
  unfold Eqv
  rw [drop_cons h, cuts_cons, cut1_blank hb]
  exact ⟨rfl, rfl⟩

theorem cut1_com {l : Bytes} (h : l.take 2 = [40, 42]) : cut1 l = match com 1 (l.drop 2) with
    | some n => .comment (n + 2)
    | none => .bad := by
  match l, h with
  | [], h => cases h
  | c :: r, h =>
    rw [List.take_succ_cons, List.cons.injEq] at h
    obtain ⟨rfl, h⟩ := h
    have h2 : (40 :: r).take 2 = [40, 42] := by rw [List.take_succ_cons, h]
    rw [cut1]
    rw [if_neg (by decide), if_neg (by decide), if_neg (by decide), if_neg (by decide)]
    unfold cutSign
    rw [if_pos h2]
    cases com 1 ((40 :: r).drop 2) <;> rfl

theorem eqv_comment {l : Bytes} {q n : Nat} (h : (l.drop q).take 2 = [40, 42]) (hn : com 1 (l.drop (q + 2)) = some n) : Eqv l q (q + (n + 2)) ∧ q + (n + 2) ≤ l.length := by
  have hlt : q + 2 ≤ l.length := by
    have := congrArg List.length h
    simp only [List.length_take, List.length_drop, List.length_cons, List.length_nil] at this
    omega
  have hc := cut1_com h
  rw [List.drop_drop, hn] at hc
  have hl := com_len _ _ _ hn
  rw [List.length_drop] at hl
  refine ⟨?_, by omega⟩
  unfold Eqv
  have hq : q < l.length := by omega
  rw [drop_cons hq] at hc ⊢
  rw [cuts_cons, hc]
  simp only [Out.com]
  rw [← drop_cons hq, List.drop_drop]
  exact ⟨rfl, rfl⟩

theorem cuts_no_end {l : Bytes} {q : Nat} (h : (l.drop q).take 2 = [40, 42]) (hn : com 1 (l.drop (q + 2)) = none) : (cuts q (l.drop q)).toks = [] ∧ (cuts q (l.drop q)).bad = some q := by
  have hlt : q + 2 ≤ l.length := by
    have := congrArg List.length h
    simp only [List.length_take, List.length_drop, List.length_cons, List.length_nil] at this
    omega
  have hc := cut1_com h
  rw [List.drop_drop, hn] at hc
  have hq : q < l.length := by omega
  rw [drop_cons hq] at hc ⊢
  rw [cuts_cons, hc]
  exact ⟨rfl, rfl⟩

/-- What is no token at a byte, where no blank stands and no comment begins. -/
theorem cut1_else {c : UInt8} {r : Bytes} (hb : isBlank c = false) (h2 : (c :: r).take 2 ≠ [40, 42]) : (∃ k n s len, cut1 (c :: r) = .tok k n s len) ∨ cut1 (c :: r) = .bad := by
  cases hc : cut1 (c :: r) with
  | skip => exact absurd hc (cut1_not_skip (by simp [hb]))
  | comment n =>
    exfalso
    rw [cut1] at hc
    rw [if_neg (by simp [hb])] at hc
    split at hc
    · unfold cutName at hc; simp only at hc; split at hc <;> cases hc
    split at hc
    · unfold cutNumber at hc; simp only at hc; split at hc <;> cases hc
    split at hc
    · unfold cutSymbols at hc; simp only at hc; split at hc <;> cases hc
    · unfold cutSign at hc
      rw [if_neg h2] at hc
      split at hc <;> cases hc
  | tok k n s len => exact .inl ⟨_, _, _, _, rfl⟩
  | bad => exact .inr rfl

theorem cuts_tok {l : Bytes} {q k n : Nat} {s : Bytes} {len : Nat} (hq : q < l.length) (hc : cut1 (l.drop q) = .tok k n s len) :
    (cuts q (l.drop q)).toks = ⟨k, n, s, q, q + len⟩ :: (cuts (q + len) (l.drop (q + len))).toks ∧ (cuts q (l.drop q)).bad = (cuts (q + len) (l.drop (q + len))).bad ∧ 0 < len ∧ q + len ≤ l.length := by
  have hl := cut1_len (l.drop q) (by rw [hc]; simp)
  rw [hc] at hl
  simp only [Cut.len, List.length_drop] at hl
  have hc2 := hc
  rw [drop_cons hq] at hc2
  have e : cuts q (l.drop q) = (cuts (q + len) (l.drop (q + len))).tok ⟨k, n, s, q, q + len⟩ := by
    rw [drop_cons hq, cuts_cons, hc2]
    simp only
    rw [← drop_cons hq, List.drop_drop]
  rw [e]
  exact ⟨rfl, rfl, hl.1, by omega⟩

theorem cuts_bad_here {l : Bytes} {q : Nat} (hq : q < l.length) (hc : cut1 (l.drop q) = .bad) : (cuts q (l.drop q)).toks = [] ∧ (cuts q (l.drop q)).bad = some q := by
  rw [drop_cons hq] at hc ⊢
  rw [cuts_cons, hc]
  exact ⟨rfl, rfl⟩

theorem cuts_end {l : Bytes} {q : Nat} (h : l.length ≤ q) : cuts q (l.drop q) = ⟨[], [], none⟩ := by rw [List.drop_of_length_le h, cuts_nil]

/-- The kind of a text as a whole, off its tokens. -/
def kindT (l : Bytes) : Nat := match (toks l).bad, (toks l).toks with
  | none, [t] => if t.at_ = 0 ∧ t.end_ = l.length then t.kind else 0
  | _, _ => 0

theorem kind_kindT (l : Bytes) : kind l = kindT l := by
  match l with
  | [] => rfl
  | c :: r =>
    have hk : kind (c :: r) = kc (c :: r).length (cut1 (c :: r)) := by
      unfold kind
      simp only
      cases cut1 (c :: r) <;> rfl
    rw [hk]
    have ht : toks (c :: r) = cuts 0 (c :: r) := rfl
    unfold kindT
    rw [ht, cuts_cons]
    have hlen := cut1_len (c :: r)
    have hat : ∀ k l2, ∀ t ∈ (cuts k l2).toks, k ≤ t.at_ := fun k l2 t h => ((toks_within l2.length k l2 (Nat.le_refl _)).1 t h).1
    cases hc : cut1 (c :: r) with
    | bad => rfl
    | skip =>
      simp only [kc, Nat.zero_add]
      split
      · rename_i t _ h
        have := hat 1 r t (by rw [h]; exact List.mem_cons_self)
        rw [if_neg (by omega)]
      · rfl
    | comment k =>
      rw [hc] at hlen
      have hl := hlen (by simp)
      simp only [Cut.len] at hl
      simp only [kc, Out.com, Nat.zero_add]
      split
      · rename_i t _ h
        have := hat k _ t (by rw [h]; exact List.mem_cons_self)
        rw [if_neg (by omega)]
      · rfl
    | tok kd m s k =>
      rw [hc] at hlen
      have hl := hlen (by simp)
      simp only [Cut.len] at hl
      simp only [kc, Out.tok, Nat.zero_add]
      by_cases hkl : k = (c :: r).length
      · rw [if_pos hkl, hkl, List.drop_length, cuts_nil]
        simp
      · rw [if_neg hkl]
        split
        · rename_i t _ h
          simp only [List.cons.injEq] at h
          rw [← h.1, if_neg]
          intro hx
          exact hkl hx.2
        · rfl
end Lx

/- The first token of a text: what stands ahead of it, and where it is cut alone. -/
namespace Lx

/-- The first token: the text ahead of it is blanks and comments; behind it the cuts go on. -/
theorem cuts_head : ∀ (n p : Nat) (l : Bytes), l.length ≤ n → ∀ (t : Tok) (ts : List Tok), (cuts p l).toks = t :: ts →
    ∃ i len, t.at_ = p + i ∧ t.end_ = p + i + len ∧ 0 < len ∧ i + len ≤ l.length ∧ cut1 (l.drop i) = .tok t.kind t.n t.s len ∧ ts = (cuts (p + i + len) (l.drop (i + len))).toks ∧
      (cuts p l).bad = (cuts (p + i + len) (l.drop (i + len))).bad ∧ ∀ q, (cuts q (l.take i)).toks = [] ∧ (cuts q (l.take i)).bad = none
  | n, p, [], _, t, ts, h => by simp [cuts_nil] at h
  | n + 1, p, c :: r, hn, t, ts, h => by
    simp only [List.length_cons] at hn
    have hlen := cut1_len (c :: r)
    have hcc := cuts_cons p c r
    have htake := cut1_take (c :: r)
    cases hc : cut1 (c :: r) with
    | bad => rw [hcc, hc] at h; cases h
    | skip =>
      rw [hc] at hcc htake
      rw [hcc] at h ⊢
      simp only at h ⊢
      obtain ⟨i, len, h1, h2, h3, h4, h5, h6, h7, h8⟩ := cuts_head n (p + 1) r (by omega) t ts h
      refine ⟨i + 1, len, by omega, by omega, h3, by simp only [List.length_cons]; omega, h5, ?_, ?_, fun q => ?_⟩
      · rw [h6, show p + (i + 1) + len = p + 1 + i + len by omega, show i + 1 + len = (i + len) + 1 by omega]; rfl
      · rw [h7, show p + (i + 1) + len = p + 1 + i + len by omega, show i + 1 + len = (i + len) + 1 by omega]; rfl
      · have e := htake (i + 1) (by simp) (by simp [Cut.len])
        rw [List.take_succ_cons] at e ⊢
        rw [cuts_cons, e]
        exact h8 (q + 1)
    | comment k =>
      rw [hc] at hcc hlen htake
      have hl := hlen (by simp)
      simp only [Cut.len, List.length_cons] at hl
      rw [hcc] at h ⊢
      simp only [Out.com] at h ⊢
      obtain ⟨i, len, h1, h2, h3, h4, h5, h6, h7, h8⟩ := cuts_head n (p + k) ((c :: r).drop k) (by simp; omega) t ts h
      rw [List.drop_drop] at h5 h6 h7
      simp only [List.length_drop, List.length_cons] at h4
      refine ⟨k + i, len, by omega, by omega, h3, by simp only [List.length_cons]; omega, h5, ?_, ?_, fun q => ?_⟩
      · rw [h6, show p + (k + i) + len = p + k + i + len by omega, show k + i + len = k + (i + len) by omega]
      · rw [h7, show p + (k + i) + len = p + k + i + len by omega, show k + i + len = k + (i + len) by omega]
      · have e := htake (k + i) (by simp) (by simp [Cut.len])
        obtain ⟨m, hm⟩ : ∃ m, k + i = m + 1 := ⟨k + i - 1, by omega⟩
        have e2 : (c :: r).take (k + i) = c :: r.take m := by rw [hm, List.take_succ_cons]
        have e3 : ((c :: r).take (k + i)).drop k = ((c :: r).drop k).take i := by rw [List.drop_take, show k + i - k = i by omega]
        rw [e2] at e e3 ⊢
        rw [cuts_cons, e]
        simp only [Out.com]
        rw [e3]
        exact h8 (q + k)
    | tok kd m s len =>
      rw [hc] at hcc hlen
      have hl := hlen (by simp)
      simp only [Cut.len, List.length_cons] at hl
      rw [hcc] at h ⊢
      simp only [Out.tok, List.cons.injEq] at h ⊢
      obtain ⟨rfl, rfl⟩ := h
      exact ⟨0, len, rfl, rfl, hl.1, by simp only [List.length_cons]; omega, by simpa using hc, by simp, by simp, fun q => by simp [cuts_nil]⟩

/-- A token is its own place in the text, cut alone; a number has no spelling. -/
theorem cut1_text {l : Bytes} {k m : Nat} {s : Bytes} {len : Nat} (h : cut1 l = .tok k m s len) : (k ≠ 3 → s = l.take len) ∧ 1 ≤ k := by
  match l, h with
  | [], h => cases h
  | c :: r, h =>
    rw [cut1] at h
    split at h
    · cases h
    split at h
    · unfold cutName at h
      simp only at h
      split at h
      · simp only [Cut.tok.injEq] at h
        obtain ⟨rfl, rfl, rfl, rfl⟩ := h
        exact ⟨fun _ => List.prefix_iff_eq_take.1 (List.takeWhile_prefix _), by unfold kindOf; split <;> omega⟩
      · cases h
    split at h
    · unfold cutNumber at h
      simp only at h
      split at h
      · simp only [Cut.tok.injEq] at h
        obtain ⟨rfl, rfl, rfl, rfl⟩ := h
        exact ⟨fun h => absurd rfl h, by omega⟩
      · cases h
    split at h
    · unfold cutSymbols at h
      simp only at h
      split at h
      · simp only [Cut.tok.injEq] at h
        obtain ⟨rfl, rfl, rfl, rfl⟩ := h
        exact ⟨fun _ => List.prefix_iff_eq_take.1 (List.takeWhile_prefix _), by unfold kindOf; split <;> omega⟩
      · cases h
    · unfold cutSign at h
      split at h
      · split at h <;> cases h
      · split at h
        · cases h
        · simp only [Cut.tok.injEq] at h
          obtain ⟨rfl, rfl, rfl, rfl⟩ := h
          exact ⟨fun _ => rfl, by omega⟩

theorem kind_of_cut {l : Bytes} {k m : Nat} {s : Bytes} {len : Nat} (h : cut1 l = .tok k m s len) : kind l = if len = l.length then k else 0 := by
  match l, h with
  | [], h => cases h
  | c :: r, h =>
    unfold kind
    simp only
    rw [h]

/-- A token cut alone has its kind; with a byte more it has none. -/
theorem kind_alone {l : Bytes} {k m : Nat} {s : Bytes} {len : Nat} (h : cut1 l = .tok k m s len) : kind (l.take len) = k ∧ (len + 1 ≤ l.length → kind (l.take (len + 1)) = 0) := by
  have hlen := cut1_len l (by rw [h]; simp)
  rw [h] at hlen
  simp only [Cut.len] at hlen
  have t1 := cut1_take l len (by rw [h]; simp) (by rw [h]; exact Nat.le_refl _)
  have t2 := cut1_take l (len + 1) (by rw [h]; simp) (by rw [h]; exact Nat.le_succ _)
  rw [h] at t1 t2
  refine ⟨?_, fun h1 => ?_⟩
  · rw [kind_of_cut t1, if_pos (by rw [List.length_take]; omega)]
  · rw [kind_of_cut t2, if_neg (by rw [List.length_take]; omega)]

theorem cuts_at_zero (p : Nat) (l : Bytes) : (cuts p l).toks = (toks l).toks.map (Tok.by p) ∧ (cuts p l).bad = (toks l).bad.map (· + p) := by
  have := cuts_shift p l.length 0 l (Nat.le_refl _)
  rw [Nat.zero_add] at this
  rw [this]
  exact ⟨rfl, rfl⟩

theorem toks_cut (l : Bytes) : ∀ (ts : List Tok) (p : Nat), p ≤ l.length → (cuts p (l.drop p)).toks = ts → ∀ t ∈ ts, t.at_ < t.end_ ∧ t.end_ ≤ l.length ∧ cut1 (l.drop t.at_) = .tok t.kind t.n t.s (t.end_ - t.at_)
  | [], _, _, _, t, ht => by cases ht
  | x :: ts, p, hp, h, t, ht => by
    obtain ⟨i, len, h1, h2, h3, h4, h5, h6, _, _⟩ := cuts_head _ p (l.drop p) (Nat.le_refl _) x ts h
    rw [List.drop_drop] at h5 h6
    rw [List.length_drop] at h4
    rcases List.mem_cons.1 ht with rfl | ht
    · refine ⟨by omega, by omega, ?_⟩
      rw [h1, h2, h5, show p + i + len - (p + i) = len by omega]
    · rw [show p + (i + len) = p + i + len by omega] at h6
      exact toks_cut l ts (p + i + len) (by omega) h6.symm t ht

theorem toks_cut0 (l : Bytes) : ∀ t ∈ (toks l).toks, t.at_ < t.end_ ∧ t.end_ ≤ l.length ∧ cut1 (l.drop t.at_) = .tok t.kind t.n t.s (t.end_ - t.at_) := toks_cut l _ 0 (Nat.zero_le _) rfl
end Lx
