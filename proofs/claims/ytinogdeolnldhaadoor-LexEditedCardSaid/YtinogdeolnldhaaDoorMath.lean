/- Plain facts on cuts: how long they are, and how a whole text is cut step by step. -/
import Derived.Test.YtinogdeolnldhaaDoorSpec
namespace Lx

theorem com_len : ∀ (d : Nat) (l : Bytes) (n : Nat), com d l = some n → 0 < n ∧ n ≤ l.length
  | d, [], n, h => by simp [com] at h
  | d, [x], n, h => by simp [com] at h
  | d, x :: y :: r, n, h => by
    by_cases h1 : x = 40 ∧ y = 42
    · obtain ⟨rfl, rfl⟩ := h1
      rw [com] at h
      simp only [Option.map_eq_some_iff] at h
      obtain ⟨k, hk, rfl⟩ := h
      have := com_len (d + 1) r k hk
      simp; omega
    · by_cases h2 : x = 42 ∧ y = 41
      · obtain ⟨rfl, rfl⟩ := h2
        rw [com] at h
        split at h
        · simp at h; subst h; simp
        · simp only [Option.map_eq_some_iff] at h
          obtain ⟨k, hk, rfl⟩ := h
          have := com_len (d - 1) r k hk
          simp; omega
      · rw [com] at h
        · simp only [Option.map_eq_some_iff] at h
          obtain ⟨k, hk, rfl⟩ := h
          have := com_len d (y :: r) k hk
          simp at this ⊢; omega
        · intro r' ex e
          simp at e
          exact h1 ⟨ex, e.1⟩
        · intro r' ex e
          simp at e
          exact h2 ⟨ex, e.1⟩

theorem takeWhile_len (p : UInt8 → Bool) : ∀ (l : Bytes), (l.takeWhile p).length ≤ l.length
  | [] => Nat.le_refl _
  | c :: l => by
    simp only [List.takeWhile_cons]
    split
    · simpa using takeWhile_len p l
    · simp

theorem takeWhile_pos (p : UInt8 → Bool) (c : UInt8) (l : Bytes) (h : p c = true) : 0 < ((c :: l).takeWhile p).length := by
  simp [h]

theorem signLen_le (l : Bytes) : ∀ k, signLen l k ≤ k ∧ signLen l k ≤ l.length
  | 0 => by simp [signLen]
  | k + 1 => by
    rw [signLen]
    have := signLen_le l k
    split
    · rename_i h
      simp at h
      omega
    · omega

theorem cut1_len (l : Bytes) (h : cut1 l ≠ .bad) : 0 < (cut1 l).len ∧ (cut1 l).len ≤ l.length := by
  match l, h with
  | [], h => exact absurd rfl h
  | c :: r, h =>
    rw [cut1] at h ⊢
    split
    · simp [Cut.len]
    rename_i hb
    rw [if_neg hb] at h
    split
    · rename_i hl
      rw [if_pos hl] at h
      unfold cutName at h ⊢
      simp only at h ⊢
      split
      · have := takeWhile_len isInName (c :: r)
        have := takeWhile_pos isInName c r (by simp [isInName, hl])
        simp only [Cut.len]
        omega
      · rename_i h'; rw [if_neg h'] at h; exact absurd rfl h
    rename_i hl
    rw [if_neg hl] at h
    split
    · rename_i hd
      rw [if_pos hd] at h
      unfold cutNumber at h ⊢
      simp only at h ⊢
      split
      · have := takeWhile_len isDigit (c :: r)
        have := takeWhile_pos isDigit c r hd
        simp only [Cut.len]
        omega
      · rename_i h'; rw [if_neg h'] at h; exact absurd rfl h
    rename_i hd
    rw [if_neg hd] at h
    split
    · rename_i hs
      rw [if_pos hs] at h
      unfold cutSymbols at h ⊢
      simp only at h ⊢
      split
      · have := takeWhile_len isSymbol (c :: r)
        have := takeWhile_pos isSymbol c r hs
        simp only [Cut.len]
        omega
      · rename_i h'; rw [if_neg h'] at h; exact absurd rfl h
    rename_i hs
    rw [if_neg hs] at h
    unfold cutSign at h ⊢
    split
    · rename_i ht
      rw [if_pos ht] at h
      have hlen : 2 ≤ (c :: r).length := by
        have := congrArg List.length ht
        simp at this
        simp; omega
      split
      · rename_i n hn
        have := com_len _ _ _ hn
        simp only [Cut.len, List.length_drop] at this ⊢
        omega
      · rename_i hn
        rw [hn] at h
        exact absurd rfl h
    · rename_i ht
      rw [if_neg ht] at h
      split
      · rename_i h0; rw [h0] at h; exact absurd rfl h
      · rename_i k hk
        have := signLen_le (c :: r) 3
        simp only [Cut.len]
        omega

/-- One step of the scanner at byte p: how many bytes, which tokens, which comments. -/
def step (p : Nat) (l : Bytes) : Option (Nat × List Tok × List (Nat × Nat)) :=
  match l with
  | [] => none
  | c :: _ =>
    if isBlank c then some ((l.takeWhile isBlank).length, [], [])
    else match cut1 l with
      | .skip => none
      | .comment n => some (n, [], [(p, p + n)])
      | .tok k n s len => some (len, [⟨k, n, s, p, p + len⟩], [])
      | .bad => none

def Out.pre (ts : List Tok) (cs : List (Nat × Nat)) (o : Out) : Out := ⟨ts ++ o.toks, cs ++ o.coms, o.bad⟩

theorem step_len (p : Nat) (l : Bytes) {k : Nat} {ts : List Tok} {cs : List (Nat × Nat)} (h : step p l = some (k, ts, cs)) : 0 < k ∧ k ≤ l.length ∧ ts.length ≤ 1 ∧ cs.length ≤ 1 ∧ ts.length + cs.length ≤ 1 := by
  match l, h with
  | c :: r, h =>
    simp only [step] at h
    split at h
    · rename_i hb
      simp only [Option.some.injEq, Prod.mk.injEq] at h
      obtain ⟨rfl, rfl, rfl⟩ := h
      exact ⟨takeWhile_pos _ _ _ hb, takeWhile_len _ _, by simp, by simp, by simp⟩
    · have hl := cut1_len (c :: r)
      split at h
      · cases h
      · rename_i n hc
        simp only [Option.some.injEq, Prod.mk.injEq] at h
        obtain ⟨rfl, rfl, rfl⟩ := h
        rw [hc] at hl
        have := hl (by simp)
        simp only [Cut.len] at this
        exact ⟨this.1, this.2, by simp, by simp, by simp⟩
      · rename_i k' n s len hc
        simp only [Option.some.injEq, Prod.mk.injEq] at h
        obtain ⟨rfl, rfl, rfl⟩ := h
        rw [hc] at hl
        have := hl (by simp)
        simp only [Cut.len] at this
        exact ⟨this.1, this.2, by simp, by simp, by simp⟩
      · cases h

/-- The fuel does not matter. -/
theorem run_fuel : ∀ (f : Nat) (p : Nat) (l : Bytes), l.length ≤ f → run f p l = run l.length p l := by
  intro f
  induction f using Nat.strongRecOn with
  | _ f ih =>
    intro p l hf
    match f, l, hf with
    | f, [], _ => cases f <;> rfl
    | f + 1, c :: r, hf =>
      simp only [List.length_cons] at hf ⊢
      have hlen := cut1_len (c :: r)
      rw [run, run]
      · cases hc : cut1 (c :: r) with
        | skip => 
          simp only [List.drop_succ_cons, List.drop_zero]
          exact ih f (by omega) _ _ (by omega)
        | comment n =>
          rw [hc] at hlen
          have h1 := hlen (by simp)
          simp only [Cut.len, List.length_cons] at h1
          simp only
          rw [ih f (by omega) (p + n) ((c :: r).drop n) (by simp; omega)]
          rcases Nat.lt_or_ge r.length f with h2 | h2
          · rw [ih r.length (by omega) (p + n) ((c :: r).drop n) (by simp; omega)]
          · obtain rfl : f = r.length := by omega
            rw [ih r.length (by omega) (p + n) ((c :: r).drop n) (by simp; omega)]
        | tok k n s len =>
          rw [hc] at hlen
          have h1 := hlen (by simp)
          simp only [Cut.len, List.length_cons] at h1
          simp only
          rw [ih f (by omega) (p + len) ((c :: r).drop len) (by simp; omega)]
          rcases Nat.lt_or_ge r.length f with h2 | h2
          · rw [ih r.length (by omega) (p + len) ((c :: r).drop len) (by simp; omega)]
          · obtain rfl : f = r.length := by omega
            rw [ih r.length (by omega) (p + len) ((c :: r).drop len) (by simp; omega)]
        | bad => rfl
      all_goals simp

/-- All cuts of a text from byte p of it on. -/
def cuts (p : Nat) (l : Bytes) : Out := run l.length p l

theorem cuts_nil (p : Nat) : cuts p [] = ⟨[], [], none⟩ := rfl

theorem cuts_cons (p : Nat) (c : UInt8) (r : Bytes) : cuts p (c :: r) = match cut1 (c :: r) with
    | .skip => cuts (p + 1) r
    | .comment n => (cuts (p + n) ((c :: r).drop n)).com (p, p + n)
    | .tok k n s len => (cuts (p + len) ((c :: r).drop len)).tok ⟨k, n, s, p, p + len⟩
    | .bad => ⟨[], [], some p⟩ := by
  have hlen := cut1_len (c :: r)
  unfold cuts
  simp only [List.length_cons]
  rw [run]
  · cases hc : cut1 (c :: r) with
    | skip => rfl
    | comment n =>
      rw [hc] at hlen
      have h1 := hlen (by simp)
      simp only [Cut.len, List.length_cons] at h1
      simp only
      rw [run_fuel r.length (p + n) ((c :: r).drop n) (by simp; omega)]
    | tok k n s len =>
      rw [hc] at hlen
      have h1 := hlen (by simp)
      simp only [Cut.len, List.length_cons] at h1
      simp only
      rw [run_fuel r.length (p + len) ((c :: r).drop len) (by simp; omega)]
    | bad => rfl
  all_goals simp

theorem cut1_blank {c : UInt8} {r : Bytes} (h : isBlank c = true) : cut1 (c :: r) = .skip := by simp [cut1, h]

theorem cuts_blanks : ∀ (l : Bytes) (p : Nat), cuts p l = cuts (p + (l.takeWhile isBlank).length) (l.drop (l.takeWhile isBlank).length)
  | [], p => rfl
  | c :: r, p => by
    by_cases h : isBlank c
    · rw [cuts_cons, cut1_blank h]
      simp only [List.takeWhile_cons, h, if_true, List.length_cons, List.drop_succ_cons]
      rw [cuts_blanks r (p + 1)]
      congr 1
      omega
    · simp [h]

theorem cut1_not_skip {c : UInt8} {r : Bytes} (h : ¬ isBlank c = true) : cut1 (c :: r) ≠ .skip := by
  rw [cut1, if_neg h]
  unfold cutName cutNumber cutSymbols cutSign
  simp only
  repeat' split
  all_goals simp

/-- A whole text is cut by its first step, and then the rest. -/
theorem cuts_step (p : Nat) (l : Bytes) (h : l ≠ []) : cuts p l = match step p l with
    | none => ⟨[], [], some p⟩
    | some (k, ts, cs) => (cuts (p + k) (l.drop k)).pre ts cs := by
  match l, h with
  | c :: r, _ =>
    by_cases hb : isBlank c
    · simp only [step, hb, if_true]
      rw [cuts_blanks]
      rfl
    · rw [cuts_cons]
      simp only [step, hb, if_false, Bool.false_eq_true]
      have hns := cut1_not_skip (r := r) hb
      cases hc : cut1 (c :: r) with
      | skip => exact absurd hc hns
      | comment n => rfl
      | tok k n s len => rfl
      | bad => rfl

/-- Cuts from byte p on, until the text ends or enough says so; where it stopped. -/
def cutsTo (E : Nat → Bool) : Nat → Nat → Bytes → Nat × Out
  | 0, p, _ => (p, ⟨[], [], none⟩)
  | _ + 1, p, [] => (p, ⟨[], [], none⟩)
  | f + 1, p, c :: r =>
    if E p then (p, ⟨[], [], none⟩)
    else match step p (c :: r) with
      | none => (p, ⟨[], [], some p⟩)
      | some (k, ts, cs) =>
        let x := cutsTo E f (p + k) ((c :: r).drop k)
        (x.1, x.2.pre ts cs)

def cutE (E : Nat → Bool) (p : Nat) (l : Bytes) : Nat × Out := cutsTo E l.length p l

theorem cutsTo_fuel (E : Nat → Bool) : ∀ (f : Nat) (p : Nat) (l : Bytes), l.length ≤ f → cutsTo E f p l = cutE E p l := by
  intro f
  induction f using Nat.strongRecOn with
  | _ f ih =>
    intro p l hf
    match f, l, hf with
    | 0, [], _ => rfl
    | f + 1, [], _ => rfl
    | f + 1, c :: r, hf =>
      simp only [List.length_cons] at hf
      unfold cutE
      simp only [List.length_cons, cutsTo]
      split
      · rfl
      · cases hs : step p (c :: r) with
        | none => rfl
        | some x =>
          obtain ⟨k, ts, cs⟩ := x
          have := step_len p (c :: r) hs
          simp only [List.length_cons] at this
          simp only
          rw [ih f (by omega) (p + k) ((c :: r).drop k) (by simp; omega)]
          rcases Nat.lt_or_ge r.length f with h2 | h2
          · rw [ih r.length (by omega) (p + k) ((c :: r).drop k) (by simp; omega)]
          · obtain rfl : f = r.length := by omega
            rw [ih r.length (by omega) (p + k) ((c :: r).drop k) (by simp; omega)]

theorem cutE_nil (E : Nat → Bool) (p : Nat) : cutE E p [] = (p, ⟨[], [], none⟩) := rfl

theorem cutE_cons (E : Nat → Bool) (p : Nat) (c : UInt8) (r : Bytes) : cutE E p (c :: r) = if E p then (p, ⟨[], [], none⟩) else match step p (c :: r) with
    | none => (p, ⟨[], [], some p⟩)
    | some (k, ts, cs) => ((cutE E (p + k) ((c :: r).drop k)).1, (cutE E (p + k) ((c :: r).drop k)).2.pre ts cs) := by
  conv => lhs; unfold cutE
  simp only [List.length_cons, cutsTo]
  split
  · rfl
  · cases hs : step p (c :: r) with
    | none => rfl
    | some x =>
      obtain ⟨k, ts, cs⟩ := x
      have := step_len p (c :: r) hs
      simp only [List.length_cons] at this
      simp only
      rw [cutsTo_fuel E r.length (p + k) ((c :: r).drop k) (by simp; omega)]

theorem cutE_never : ∀ (n : Nat) (p : Nat) (l : Bytes), l.length ≤ n → (cutE (fun _ => false) p l).2 = cuts p l ∧ ((cuts p l).bad = none → (cutE (fun _ => false) p l).1 = p + l.length)
  | n, p, [], _ => ⟨rfl, fun _ => rfl⟩
  | n + 1, p, c :: r, hn => by
    simp only [List.length_cons] at hn
    rw [cutE_cons, cuts_step p (c :: r) (by simp)]
    simp only [Bool.false_eq_true, if_false]
    cases hs : step p (c :: r) with
    | none => exact ⟨rfl, fun h => by cases h⟩
    | some x =>
      obtain ⟨k, ts, cs⟩ := x
      have hl := step_len p (c :: r) hs
      simp only [List.length_cons] at hl
      have ih := cutE_never n (p + k) ((c :: r).drop k) (by simp; omega)
      simp only
      refine ⟨by rw [ih.1], fun hb => ?_⟩
      rw [ih.2 hb]
      simp
      omega

end Lx
