/- Tokens that are written one behind the other are cut into themselves, a text with a byte less into others; right tokens as plain ones. -/
import Derived.Test.YtbcmjinifilamaaGreatDoorLike
import Derived.Test.YtbcmjinifilamaaGreatDoorJoin
import Derived.Test.YtbcmjinifilamaaGreatDoorPure
import Derived.Lib.ItoaMem
namespace Lx

/-- What a token is, but for its place. -/
def Tok.bare (t : Tok) : Nat × Nat × Bytes := (t.kind, t.n, t.s)
/-- How a token is written. -/
def spellT (t : Tok) : Bytes := if t.kind = 3 then Go.Lib.decDigits t.n else t.s
/-- Whether its text is cut into just this token. -/
def RightT (t : Tok) : Prop := cut1 (spellT t) = .tok t.kind t.n t.s (spellT t).length
/-- Whether the text of both is cut into the first one, and no more. -/
def Side (a b : Tok) : Prop := cut1 (spellT a ++ spellT b) = .tok a.kind a.n a.s (spellT a).length

theorem spellT_bare {a b : Tok} (h : a.bare = b.bare) : spellT a = spellT b := by
  simp only [Tok.bare, Prod.mk.injEq] at h
  unfold spellT
  rw [h.1, h.2.1, h.2.2]

/-- How many bytes are no blanks. -/
def nb (l : Bytes) : Nat := l.countP fun b => !isBlank b

theorem nb_append (a b : Bytes) : nb (a ++ b) = nb a + nb b := by simp [nb]
theorem nb_cons (c : UInt8) (r : Bytes) : nb (c :: r) = nb r + (if isBlank c then 0 else 1) := by
  unfold nb
  rw [List.countP_cons]
  cases isBlank c <;> simp
theorem nb_le (l : Bytes) : nb l ≤ l.length := List.countP_le_length
theorem nb_all {l : Bytes} (h : ∀ b ∈ l, isBlank b = false) : nb l = l.length := by
  unfold nb
  rw [List.countP_eq_length]
  intro b hb
  simp [h b hb]
theorem nb_drop (l : Bytes) (k : Nat) : nb (l.take k) + nb (l.drop k) = nb l := by rw [← nb_append, List.take_append_drop]

theorem digits_nb : ∀ b : UInt8, isInName b = true ∨ isDigit b = true ∨ isSymbol b = true → isBlank b = false := by
  intro b h
  cases hb : isBlank b with
  | false => rfl
  | true =>
    have := blank_other hb
    rw [this.1, this.2.1, this.2.2.1] at h
    simp at h

theorem num_lt : ∀ (ds : Bytes), (∀ d ∈ ds, isDigit d = true) → ∀ n, ds.foldl (fun n d => n * 10 + (d.toNat - 48)) n < (n + 1) * 10 ^ ds.length
  | [], _, n => by simp
  | d :: ds, h, n => by
    have hd := h d List.mem_cons_self
    simp only [isDigit, Bool.and_eq_true, decide_eq_true_eq] at hd
    have h9 : d.toNat ≤ 57 := hd.2
    have ih := num_lt ds (fun x hx => h x (List.mem_cons_of_mem _ hx)) (n * 10 + (d.toNat - 48))
    rw [List.foldl_cons, List.length_cons, Nat.pow_succ]
    refine Nat.lt_of_lt_of_le ih ?_
    rw [show (n + 1) * (10 ^ ds.length * 10) = ((n + 1) * 10) * 10 ^ ds.length by rw [Nat.mul_comm (10 ^ ds.length) 10, Nat.mul_assoc]]
    exact Nat.mul_le_mul_right _ (by omega)

theorem digits_short {ds : Bytes} (h : ∀ d ∈ ds, isDigit d = true) (h0 : 0 < ds.length) : (Go.Lib.decDigits (num ds)).length ≤ ds.length := by
  rw [Go.Lib.decDigits_length]
  have h1 := num_lt ds h 0
  rw [Nat.zero_add, Nat.one_mul] at h1
  have h2 : num ds < 10 ^ ds.length := h1
  rcases Nat.lt_or_ge ds.length (Go.Lib.nDigits (num ds)) with h3 | h3
  · exfalso
    have key : ∀ (k u : Nat), 0 < k → u < 10 ^ k → Go.Lib.nDigits u ≤ k := by
      intro k
      induction k with
      | zero => intro u hk; omega
      | succ k ih =>
        intro u _ hu
        by_cases hs : u < 10
        · rw [Go.Lib.nDigits_small hs]; omega
        · rw [Go.Lib.nDigits_big hs]
          have hk0 : 0 < k := by
            rcases Nat.eq_zero_or_pos k with rfl | h
            · simp at hu; omega
            · exact h
          have := ih (u / 10) hk0 (by rw [Nat.pow_succ] at hu; omega)
          omega
    have := key ds.length (num ds) h0 h2
    omega
  · exact h3

/-- A token takes at least the bytes that it is written with, and none of them is a blank. -/
theorem cut1_spell {l : Bytes} {k m : Nat} {s : Bytes} {len : Nat} (h : cut1 l = .tok k m s len) : (if k = 3 then Go.Lib.decDigits m else s).length ≤ len ∧ ∀ b ∈ l.take len, isBlank b = false := by
  have hpos := cut1_len l (by rw [h]; simp)
  rw [h] at hpos
  simp only [Cut.len] at hpos
  have htext := (cut1_text h).1
  match l, h, hpos, htext with
  | [], h, _, _ => cases h
  | c :: r, h, hpos, htext =>
    rw [cut1] at h
    split at h
    · cases h
    split at h
    · unfold cutName at h
      simp only at h
      split at h
      · simp only [Cut.tok.injEq] at h
        obtain ⟨rfl, rfl, rfl, rfl⟩ := h
        have hk : kindOf words ((c :: r).takeWhile isInName) 1 2 ≠ 3 := by unfold kindOf; split <;> omega
        rw [if_neg hk]
        refine ⟨Nat.le_refl _, ?_⟩
        rw [← List.prefix_iff_eq_take.1 (List.takeWhile_prefix _)]
        intro b hb
        exact digits_nb b (.inl (List.all_eq_true.1 List.all_takeWhile b hb))
      · cases h
    split at h
    · unfold cutNumber at h
      simp only at h
      split at h
      · simp only [Cut.tok.injEq] at h
        obtain ⟨rfl, rfl, rfl, rfl⟩ := h
        have hall : ∀ d ∈ (c :: r).takeWhile isDigit, isDigit d = true := fun d hd => List.all_eq_true.1 List.all_takeWhile d hd
        rw [if_pos rfl]
        refine ⟨digits_short hall hpos.1, ?_⟩
        rw [← List.prefix_iff_eq_take.1 (List.takeWhile_prefix _)]
        intro b hb
        exact digits_nb b (.inr (.inl (hall b hb)))
      · cases h
    split at h
    · unfold cutSymbols at h
      simp only at h
      split at h
      · simp only [Cut.tok.injEq] at h
        obtain ⟨rfl, rfl, rfl, rfl⟩ := h
        have hk : kindOf signs ((c :: r).takeWhile isSymbol) 4 5 ≠ 3 := by unfold kindOf; split <;> omega
        rw [if_neg hk]
        refine ⟨Nat.le_refl _, ?_⟩
        rw [← List.prefix_iff_eq_take.1 (List.takeWhile_prefix _)]
        intro b hb
        exact digits_nb b (.inr (.inr (List.all_eq_true.1 List.all_takeWhile b hb)))
      · cases h
    · unfold cutSign at h
      split at h
      · split at h <;> cases h
      · split at h
        · cases h
        · rename_i j hj
          simp only [Cut.tok.injEq] at h
          obtain ⟨rfl, rfl, rfl, rfl⟩ := h
          have hin := signLen_in (c :: r) 3 (by rw [hj]; omega)
          rw [hj] at hin
          rw [if_neg (by omega)]
          refine ⟨by rw [List.length_take]; omega, fun b hb => signs_no_blank _ (by simpa using hin) b hb⟩

/-- How long tokens are, as they are written. -/
def spelt (ts : List Tok) : Nat := (ts.map fun t => (spellT t).length).sum

theorem spelt_nil : spelt [] = 0 := rfl
theorem spelt_cons (t : Tok) (ts : List Tok) : spelt (t :: ts) = (spellT t).length + spelt ts := by simp [spelt]
theorem spelt_append (a b : List Tok) : spelt (a ++ b) = spelt a + spelt b := by simp [spelt]
theorem spelt_bare : ∀ (a b : List Tok), a.map Tok.bare = b.map Tok.bare → spelt a = spelt b
  | [], [], _ => rfl
  | [], _ :: _, h => by simp at h
  | _ :: _, [], h => by simp at h
  | x :: a, y :: b, h => by
    simp only [List.map_cons, List.cons.injEq] at h
    rw [spelt_cons, spelt_cons, spellT_bare h.1, spelt_bare a b h.2]

/-- The tokens of a text do not need more bytes than it has. -/
theorem spelt_cuts : ∀ (n p : Nat) (l : Bytes), l.length ≤ n → spelt (cuts p l).toks ≤ nb l
  | n, p, [], _ => by simp [cuts_nil, spelt, nb]
  | n + 1, p, c :: r, hn => by
    simp only [List.length_cons] at hn
    have hlen := cut1_len (c :: r)
    rw [cuts_cons]
    cases hc : cut1 (c :: r) with
    | bad => simp [spelt]
    | skip =>
      simp only
      have := spelt_cuts n (p + 1) r (by omega)
      rw [nb_cons]
      omega
    | comment k =>
      rw [hc] at hlen
      have hl := hlen (by simp)
      simp only [Cut.len, List.length_cons] at hl
      simp only [Out.com]
      have := spelt_cuts n (p + k) ((c :: r).drop k) (by simp; omega)
      have := nb_drop (c :: r) k
      omega
    | tok kd m s k =>
      rw [hc] at hlen
      have hl := hlen (by simp)
      simp only [Cut.len, List.length_cons] at hl
      simp only [Out.tok]
      have h1 := spelt_cuts n (p + k) ((c :: r).drop k) (by simp; omega)
      have h2 := nb_drop (c :: r) k
      obtain ⟨h3, h4⟩ := cut1_spell hc
      rw [nb_all h4, List.length_take, List.length_cons] at h2
      rw [spelt_cons]
      have h5 : (spellT ⟨kd, m, s, p, p + k⟩).length ≤ k := h3
      omega

/-- Where no byte is left over, each token takes just the bytes that it is written with. -/
theorem cut1_tight (p : Nat) (c : UInt8) (r : Bytes) (t : Tok) (ts : List Tok) (hc : isBlank c = false) (h : (cuts p (c :: r)).toks.map Tok.bare = (t :: ts).map Tok.bare) (hb : (cuts p (c :: r)).bad = none) (hn : nb (c :: r) = spelt (t :: ts)) :
    cut1 (c :: r) = .tok t.kind t.n t.s (spellT t).length ∧ (cuts (p + (spellT t).length) ((c :: r).drop (spellT t).length)).toks.map Tok.bare = ts.map Tok.bare ∧ (cuts (p + (spellT t).length) ((c :: r).drop (spellT t).length)).bad = none := by
  have hlen := cut1_len (c :: r)
  have hcc := cuts_cons p c r
  cases h1 : cut1 (c :: r) with
  | bad => rw [hcc, h1] at hb; simp at hb
  | skip => exact absurd h1 (cut1_not_skip (by simp [hc]))
  | comment k =>
    exfalso
    rw [h1] at hlen hcc
    have hl := hlen (by simp)
    simp only [Cut.len, List.length_cons] at hl
    simp only [Out.com] at hcc
    rw [hcc] at h
    simp only at h
    have h2 := spelt_cuts _ (p + k) ((c :: r).drop k) (Nat.le_refl _)
    rw [spelt_bare _ _ h] at h2
    have h3 := nb_drop (c :: r) k
    obtain ⟨j, rfl⟩ : ∃ j, k = j + 1 := ⟨k - 1, by omega⟩
    rw [List.take_succ_cons, nb_cons, hc] at h3
    simp only [Bool.false_eq_true, if_false] at h3
    omega
  | tok kd m s k =>
    rw [h1] at hlen hcc
    have hl := hlen (by simp)
    simp only [Cut.len, List.length_cons] at hl
    simp only [Out.tok] at hcc
    rw [hcc] at h hb
    simp only [List.map_cons, List.cons.injEq] at h
    simp only at hb
    obtain ⟨hx, hts⟩ := h
    have h2 := spelt_cuts _ (p + k) ((c :: r).drop k) (Nat.le_refl _)
    rw [spelt_bare _ _ hts] at h2
    have h3 := nb_drop (c :: r) k
    obtain ⟨h4, h5⟩ := cut1_spell h1
    rw [nb_all h5, List.length_take, List.length_cons] at h3
    have h6 : (spellT ⟨kd, m, s, p, p + k⟩).length ≤ k := h4
    rw [spellT_bare hx] at h6
    rw [spelt_cons] at hn
    simp only [Tok.bare, Prod.mk.injEq] at hx
    obtain ⟨rfl, rfl, rfl⟩ := hx
    have hk : k = (spellT t).length := by omega
    subst hk
    exact ⟨rfl, hts, hb⟩

/-- The text of tokens, ahead of some of which a blank stands. -/
def lay : List (Bool × Tok) → Bytes
  | [] => []
  | (b, t) :: r => (if b then [32] else []) ++ (spellT t ++ lay r)

theorem lay_append : ∀ a b, lay (a ++ b) = lay a ++ lay b
  | [], b => rfl
  | (x, t) :: a, b => by rw [List.cons_append, lay, lay, lay_append a b]; simp

/-- A blank stands wherever one has to. -/
def ChainP : Option Tok → List (Bool × Tok) → Prop
  | _, [] => True
  | p, (b, t) :: r => (match p with | none => True | some a => b = true ∨ Side a t) ∧ ChainP (some t) r

/-- A blank stands just where one has to. -/
def Exact : Option Tok → List (Bool × Tok) → Prop
  | _, [] => True
  | p, (b, t) :: r => (match p with | none => b = false | some a => (b = true ↔ ¬ Side a t)) ∧ Exact (some t) r

theorem Exact.chain : ∀ {p : Option Tok} {L : List (Bool × Tok)}, Exact p L → ChainP p L
  | _, [], _ => trivial
  | p, (b, t) :: r, h => by
    refine ⟨?_, Exact.chain h.2⟩
    have h1 := h.1
    match p, h1 with
    | none, _ => trivial
    | some a, h1 =>
      simp only at h1 ⊢
      by_cases hs : Side a t
      · exact .inr hs
      · exact .inl (h1.2 hs)

theorem right_pos {t : Tok} (h : RightT t) : 0 < (spellT t).length := by
  have := cut1_len (spellT t) (by rw [h]; simp)
  rw [h] at this
  exact this.1

theorem right_nb {t : Tok} (h : RightT t) : ∀ b ∈ spellT t, isBlank b = false := by
  have := (cut1_spell h).2
  rwa [List.take_length] at this

theorem nb_lay : ∀ (L : List (Bool × Tok)), (∀ x ∈ L, RightT x.2) → nb (lay L) = spelt (L.map Prod.snd)
  | [], _ => rfl
  | (b, t) :: r, h => by
    have ih := nb_lay r (fun x hx => h x (List.mem_cons_of_mem _ hx))
    have h1 := nb_all (right_nb (h _ List.mem_cons_self))
    rw [lay, nb_append, nb_append, ih, List.map_cons, spelt_cons, h1]
    cases b
    · simp [nb]
    · have : nb [32] = 0 := by decide
      simp [this]

/-- A token ahead of a blank, of the end, or of a token that can stand beside it. -/
theorem cut1_laid (t : Tok) (L : List (Bool × Tok)) (ht : RightT t) (hL : ∀ x ∈ L, RightT x.2) (hc : ChainP (some t) L) : cut1 (spellT t ++ lay L) = .tok t.kind t.n t.s (spellT t).length := by
  have h0 := right_pos ht
  match L, hL, hc with
  | [], _, _ => rw [lay, List.append_nil]; exact ht
  | (b, u) :: r, hL, hc =>
    have hu := right_pos (hL _ List.mem_cons_self)
    rw [lay]
    cases b with
    | true =>
      simp only [if_true, List.singleton_append]
      rw [cut1_stop 32 _ (by decide) (spellT t) (by intro e; rw [e] at h0; simp at h0) (fun _ => by rw [ht]; simp)]
      exact ht
    | false =>
      simp only [Bool.false_eq_true, if_false, List.nil_append]
      have hs : Side t u := by
        have := hc.1
        simpa using this
      obtain ⟨c, x, hx⟩ : ∃ c x, spellT u = c :: x := by
        cases hsu : spellT u with
        | nil => rw [hsu] at hu; simp at hu
        | cons c x => exact ⟨c, x, rfl⟩
      unfold Side at hs
      rw [hx] at hs ⊢
      rw [List.cons_append]
      rw [cut1_near c x (x ++ lay r) (spellT t) (by rw [hs]; simp) (by rw [hs]; rfl)]
      exact hs

theorem spell_cons {t : Tok} (h : RightT t) : ∃ c r, spellT t = c :: r ∧ isBlank c = false := by
  have h0 := right_pos h
  have h1 := right_nb h
  cases hs : spellT t with
  | nil => rw [hs] at h0; simp at h0
  | cons c r => exact ⟨c, r, rfl, h1 c (by rw [hs]; exact List.mem_cons_self)⟩

/-- There and back. -/
theorem cuts_lay : ∀ (L : List (Bool × Tok)) (o : Option Tok) (p : Nat), (∀ x ∈ L, RightT x.2) → ChainP o L → (cuts p (lay L)).toks.map Tok.bare = (L.map Prod.snd).map Tok.bare ∧ (cuts p (lay L)).bad = none
  | [], _, p, _, _ => by rw [lay, cuts_nil]; exact ⟨rfl, rfl⟩
  | (b, t) :: r, o, p, hR, hc => by
    have ht := hR _ List.mem_cons_self
    have hr : ∀ x ∈ r, RightT x.2 := fun x hx => hR x (List.mem_cons_of_mem _ hx)
    have hcut := cut1_laid t r ht hr hc.2
    have key : ∀ q, (cuts q (spellT t ++ lay r)).toks.map Tok.bare = ((t :: r.map Prod.snd)).map Tok.bare ∧ (cuts q (spellT t ++ lay r)).bad = none := by
      intro q
      have ih := cuts_lay r (some t) (q + (spellT t).length) hr hc.2
      obtain ⟨c, x, hx, _⟩ := spell_cons ht
      have e : spellT t ++ lay r = c :: (x ++ lay r) := by rw [hx]; rfl
      have ed : (spellT t ++ lay r).drop (spellT t).length = lay r := List.drop_left
      rw [e] at hcut ed
      rw [e, cuts_cons, hcut]
      simp only [Out.tok]
      rw [ed]
      exact ⟨by rw [List.map_cons, List.map_cons, ih.1]; rfl, ih.2⟩
    rw [lay]
    cases b with
    | false => simpa using key p
    | true =>
      simp only [if_true, List.singleton_append]
      rw [cuts_cons, cut1_blank (by decide)]
      simpa using key (p + 1)

/-- If a text is cut into the tokens of which it is laid, blanks stand where they have to. -/
theorem chain_of_cuts : ∀ (L : List (Bool × Tok)) (p : Nat), (∀ x ∈ L, RightT x.2) → (cuts p (lay L)).toks.map Tok.bare = (L.map Prod.snd).map Tok.bare → (cuts p (lay L)).bad = none → ChainP none L
  | [], _, _, _, _ => trivial
  | (b, t) :: r, p, hR, h, hb => by
    have ht := hR _ List.mem_cons_self
    have hr : ∀ x ∈ r, RightT x.2 := fun x hx => hR x (List.mem_cons_of_mem _ hx)
    have key : ∀ q, (cuts q (spellT t ++ lay r)).toks.map Tok.bare = ((t :: r.map Prod.snd)).map Tok.bare → (cuts q (spellT t ++ lay r)).bad = none → ChainP none ((b, t) :: r) := by
      intro q hq hqb
      obtain ⟨c, x, hx, hcb⟩ := spell_cons ht
      have e : spellT t ++ lay r = c :: (x ++ lay r) := by rw [hx]; rfl
      have hn : nb (c :: (x ++ lay r)) = spelt (t :: r.map Prod.snd) := by
        rw [← e, nb_append, nb_lay r hr, spelt_cons, nb_all (right_nb ht)]
      have ed : (spellT t ++ lay r).drop (spellT t).length = lay r := List.drop_left
      rw [e] at hq hqb ed
      obtain ⟨h1, h2, h3⟩ := cut1_tight q c (x ++ lay r) t (r.map Prod.snd) hcb hq hqb hn
      rw [ed] at h2 h3
      have ih := chain_of_cuts r _ hr h2 h3
      refine ⟨trivial, ?_⟩
      match r, hr, ih, h1 with
      | [], _, _, _ => trivial
      | (b', u) :: r', hr, ih, h1 =>
        refine ⟨?_, ih.2⟩
        show b' = true ∨ Side t u
        cases b' with
        | true => exact .inl rfl
        | false =>
          refine .inr ?_
          rw [← e] at h1
          rw [lay] at h1
          simp only [Bool.false_eq_true, if_false, List.nil_append] at h1
          have h4 := cut1_take (spellT t ++ (spellT u ++ lay r')) ((spellT t).length + (spellT u).length) (by rw [h1]; simp) (by rw [h1]; exact Nat.le_add_right _ _)
          rw [h1] at h4
          have e2 : (spellT t ++ (spellT u ++ lay r')).take ((spellT t).length + (spellT u).length) = spellT t ++ spellT u := by
            rw [← List.append_assoc, ← List.length_append, List.take_left]
          rw [e2] at h4
          exact h4
    rw [lay] at h hb
    cases b with
    | false => exact key p (by simpa using h) (by simpa using hb)
    | true =>
      simp only [if_true, List.singleton_append] at h hb
      rw [cuts_cons, cut1_blank (by decide)] at h hb
      exact key (p + 1) (by simpa using h) (by simpa using hb)

/-- Two tokens can stand side by side just if the text of both is cut into both. -/
theorem side_iff {a b : Tok} (ha : RightT a) (hb : RightT b) : Side a b ↔ ((toks (spellT a ++ spellT b)).bad = none ∧ (toks (spellT a ++ spellT b)).toks.map Tok.bare = [a.bare, b.bare]) := by
  have hR : ∀ x ∈ [(false, a), (false, b)], RightT x.2 := by
    intro x hx
    simp only [List.mem_cons, List.not_mem_nil, or_false] at hx
    rcases hx with rfl | rfl
    · exact ha
    · exact hb
  have e : lay [(false, a), (false, b)] = spellT a ++ spellT b := by simp [lay]
  constructor
  · intro h
    have := cuts_lay [(false, a), (false, b)] none 0 hR ⟨trivial, .inr h, trivial⟩
    rw [e] at this
    exact ⟨this.2, this.1⟩
  · rintro ⟨h1, h2⟩
    have := chain_of_cuts [(false, a), (false, b)] 0 hR (by rw [e]; exact h2) (by rw [e]; exact h1)
    simpa using this.2.1

/-- A blank taken out of a text that has just the blanks that it needs. -/
theorem erase_blank : ∀ (L : List (Bool × Tok)) (o : Option Tok) (k : Nat) (c : UInt8), (∀ x ∈ L, RightT x.2) → Exact o L → (lay L)[k]? = some c → isBlank c = true →
    ∃ L', L'.map Prod.snd = L.map Prod.snd ∧ lay L' = (lay L).eraseIdx k ∧ ¬ ChainP o L'
  | [], _, k, c, _, _, h, _ => by simp [lay] at h
  | (b, t) :: r, o, k, c, hR, hE, h, hc => by
    have ht := hR _ List.mem_cons_self
    have hr : ∀ x ∈ r, RightT x.2 := fun x hx => hR x (List.mem_cons_of_mem _ hx)
    have key : ∀ j, (spellT t ++ lay r)[j]? = some c → ∃ r', r'.map Prod.snd = r.map Prod.snd ∧ spellT t ++ lay r' = (spellT t ++ lay r).eraseIdx j ∧ ¬ ChainP (some t) r' := by
      intro j hj
      rcases Nat.lt_or_ge j (spellT t).length with hlt | hge
      · rw [List.getElem?_append_left hlt] at hj
        have := right_nb ht c (List.mem_of_getElem? hj)
        rw [hc] at this
        cases this
      · rw [List.getElem?_append_right hge] at hj
        obtain ⟨r', h1, h2, h3⟩ := erase_blank r (some t) _ c hr hE.2 hj hc
        exact ⟨r', h1, by rw [h2, List.eraseIdx_append_of_length_le hge], h3⟩
    rw [lay] at h ⊢
    cases b with
    | false =>
      simp only [Bool.false_eq_true, if_false, List.nil_append] at h ⊢
      obtain ⟨r', h1, h2, h3⟩ := key k h
      exact ⟨(false, t) :: r', by simp [h1], by simp [lay, h2], fun hch => h3 hch.2⟩
    | true =>
      simp only [if_true, List.singleton_append] at h ⊢
      cases k with
      | zero =>
        refine ⟨(false, t) :: r, by simp, by simp [lay], fun hch => ?_⟩
        have h1 := hE.1
        have h2 := hch.1
        match o, h1, h2 with
        | none, h1, _ => simp at h1
        | some a, h1, h2 =>
          simp only [true_iff] at h1
          simp only [Bool.false_eq_true, false_or] at h2
          exact h1 h2
      | succ j =>
        rw [List.getElem?_cons_succ] at h
        obtain ⟨r', h1, h2, h3⟩ := key j h
        exact ⟨(true, t) :: r', by simp [h1], by simp [lay, h2], fun hch => h3 hch.2⟩

theorem nb_erase : ∀ (l : Bytes) (k : Nat) (c : UInt8), l[k]? = some c → isBlank c = false → nb (l.eraseIdx k) + 1 = nb l
  | [], k, c, h, _ => by simp at h
  | x :: r, 0, c, h, hc => by
    simp only [List.getElem?_cons_zero, Option.some.injEq] at h
    subst h
    rw [List.eraseIdx_cons_zero, nb_cons, hc]
    simp
  | x :: r, k + 1, c, h, hc => by
    rw [List.getElem?_cons_succ] at h
    have := nb_erase r k c h hc
    rw [List.eraseIdx_cons_succ, nb_cons, nb_cons]
    omega

/-- With a byte less a text of tokens is cut into others, or not at all. -/
theorem erase_law (L : List (Bool × Tok)) (hR : ∀ x ∈ L, RightT x.2) (hE : Exact none L) (k : Nat) (hk : k < (lay L).length) (hb : (toks ((lay L).eraseIdx k)).bad = none) :
    (toks ((lay L).eraseIdx k)).toks.map Tok.bare ≠ (L.map Prod.snd).map Tok.bare := by
  intro h
  have hx : (lay L)[k]? = some (lay L)[k] := List.getElem?_eq_getElem hk
  cases hc : isBlank (lay L)[k] with
  | false =>
    have h1 := nb_erase _ k _ hx hc
    have h2 := spelt_cuts _ 0 ((lay L).eraseIdx k) (Nat.le_refl _)
    have h3 := spelt_bare _ _ h
    have h4 := nb_lay L hR
    have e : (cuts 0 ((lay L).eraseIdx k)).toks = (toks ((lay L).eraseIdx k)).toks := rfl
    rw [e, h3] at h2
    omega
  | true =>
    obtain ⟨L', h1, h2, h3⟩ := erase_blank L none k _ hR hE hx hc
    have hR' : ∀ x ∈ L', RightT x.2 := by
      intro x hx
      have : x.2 ∈ L'.map Prod.snd := List.mem_map_of_mem hx
      rw [h1] at this
      obtain ⟨y, hy, he⟩ := List.mem_map.1 this
      rw [← he]
      exact hR y hy
    rw [← h2] at hb h
    rw [← h1] at h
    exact h3 (chain_of_cuts L' 0 hR' h hb)

theorem lay_length : ∀ (L : List (Bool × Tok)), (lay L).length = spelt (L.map Prod.snd) + L.countP (fun x => x.1)
  | [] => rfl
  | (b, t) :: r => by
    rw [lay, List.length_append, List.length_append, lay_length r, List.map_cons, spelt_cons, List.countP_cons]
    cases b <;> simp <;> omega

theorem exact_count : ∀ (o : Option Tok) (L : List (Bool × Tok)), Exact o L → L.countP (fun x => x.1) ≤ L.length - (match o with | none => 1 | some _ => 0)
  | o, [], _ => by simp
  | none, (b, t) :: r, h => by
    have ih := exact_count (some t) r h.2
    have h1 : b = false := h.1
    subst h1
    rw [List.countP_cons]
    simp at ih ⊢
    exact ih
  | some a, (b, t) :: r, h => by
    have ih := exact_count (some t) r h.2
    rw [List.countP_cons]
    simp only [List.length_cons, Nat.sub_zero] at ih ⊢
    split <;> omega

theorem exact_snoc : ∀ (L : List (Bool × Tok)) (o : Option Tok) (b : Bool) (t : Tok), Exact o (L ++ [(b, t)]) ↔ (Exact o L ∧ (match (match L.getLast? with | some x => some x.2 | none => o) with | none => b = false | some a => (b = true ↔ ¬ Side a t)))
  | [], o, b, t => by
    simp only [List.nil_append, List.getLast?_nil]
    constructor
    · intro h; exact ⟨trivial, h.1⟩
    · intro h; exact ⟨h.2, trivial⟩
  | (b', u) :: r, o, b, t => by
    have ih := exact_snoc r (some u) b t
    have hl : (match ((b', u) :: r).getLast? with | some x => some x.2 | none => o) = (match r.getLast? with | some x => some x.2 | none => some u) := by
      cases r with
      | nil => rfl
      | cons y r => rw [List.getLast?_cons_cons]; cases hg : (y :: r).getLast? with
        | none => simp at hg
        | some z => rfl
    rw [hl]
    constructor
    · intro h
      have := ih.1 h.2
      exact ⟨⟨h.1, this.1⟩, this.2⟩
    · intro h
      exact ⟨h.1.1, ih.2 ⟨h.1.2, h.2⟩⟩
end Lx
namespace Go.Proofs.YtbcmjinifilamaaGreatDoor
open Go.RowKit

def tokOf (a : ATok) : Lx.Tok := ⟨a.kind.toNat, a.n.toNat, a.s, 0, 0⟩
def bareA (a : ATok) : Int × Int × Lx.Bytes := (a.kind, a.n, a.s)

theorem same_iff (a b : ATok) : a.same b = true ↔ bareA a = bareA b := by
  unfold ATok.same bareA
  simp [Prod.mk.injEq, and_assoc]

theorem zip_all : ∀ (a b : List ATok), (a.length == b.length && (a.zip b).all fun x => x.1.same x.2) = true ↔ a.map bareA = b.map bareA
  | [], [] => by simp
  | [], _ :: _ => by simp
  | _ :: _, [] => by simp
  | x :: a, y :: b => by
    have ih := zip_all a b
    rw [List.map_cons, List.map_cons, List.cons.injEq, ← ih, ← same_iff]
    simp only [List.length_cons, List.zip_cons_cons, List.all_cons, Bool.and_eq_true, beq_iff_eq, Nat.add_right_cancel_iff]
    constructor
    · rintro ⟨h1, h2, h3⟩; exact ⟨h2, h1, h3⟩
    · rintro ⟨h1, h2, h3⟩; exact ⟨h2, h1, h3⟩

theorem likeB_iff (a b : List ATok) : likeB a b = true ↔ a.map bareA = b.map bareA := zip_all a b

theorem cutsInto_iff (l : Lx.Bytes) (want : List ATok) : cutsInto l want = true ↔ ((Lx.toks l).bad = none ∧ ((Lx.toks l).toks.map ofTok).map bareA = want.map bareA) := by
  unfold cutsInto
  cases h : (Lx.toks l).bad with
  | some q => simp
  | none => simp only [true_and]; exact zip_all _ _

/-- A token whose numbers are those of a plain one. -/
def Plain (a : ATok) : Prop := bareA (ofTok (tokOf a)) = bareA a

theorem bareA_ofTok (t u : Lx.Tok) : bareA (ofTok t) = bareA (ofTok u) ↔ t.bare = u.bare := by
  unfold bareA ofTok Lx.Tok.bare
  simp only [Prod.mk.injEq, Int.natCast_inj]

theorem plain_map : ∀ (ts : List Lx.Tok) (l : List ATok), (∀ a ∈ l, Plain a) → ((ts.map ofTok).map bareA = l.map bareA ↔ ts.map Lx.Tok.bare = (l.map tokOf).map Lx.Tok.bare)
  | [], [], _ => by simp
  | [], _ :: _, _ => by simp
  | _ :: _, [], _ => by simp
  | t :: ts, a :: l, h => by
    have ih := plain_map ts l (fun x hx => h x (List.mem_cons_of_mem _ hx))
    have ha : bareA (ofTok (tokOf a)) = bareA a := h a List.mem_cons_self
    simp only [List.map_cons, List.cons.injEq]
    rw [ih, ← ha, bareA_ofTok]

theorem plain_spell {a : ATok} (h : Plain a) : spell a = Lx.spellT (tokOf a) := by
  unfold Plain bareA ofTok at h
  simp only [Prod.mk.injEq] at h
  unfold spell Lx.spellT
  have hk : (a.kind = 3) ↔ (tokOf a).kind = 3 := by
    rw [← h.1]; omega
  by_cases h3 : a.kind = 3
  · rw [if_pos h3, if_pos (hk.1 h3), ← h.2.1, Lib.itoa_nonneg]
  · rw [if_neg h3, if_neg (fun e => h3 (hk.2 e))]
    rfl

theorem right_of_toks {t : Lx.Tok} (hb : (Lx.toks (Lx.spellT t)).bad = none) (h : (Lx.toks (Lx.spellT t)).toks.map Lx.Tok.bare = [t.bare]) : Lx.RightT t := by
  have h1 := Lx.spelt_cuts _ 0 (Lx.spellT t) (Nat.le_refl _)
  have h2 : Lx.spelt (Lx.cuts 0 (Lx.spellT t)).toks = Lx.spelt [t] := Lx.spelt_bare _ _ h
  rw [h2] at h1
  have h3 := Lx.nb_le (Lx.spellT t)
  have h4 : Lx.spelt [t] = (Lx.spellT t).length := by simp [Lx.spelt]
  have h5 : Lx.nb (Lx.spellT t) = Lx.spelt [t] := by omega
  cases hx : Lx.spellT t with
  | nil => rw [hx] at h; simp [Lx.toks, Lx.run] at h
  | cons c r =>
    have hall : ∀ b ∈ Lx.spellT t, Lx.isBlank b = false := by
      rw [h4] at h5
      unfold Lx.nb at h5
      rw [List.countP_eq_length] at h5
      intro b hbm
      simpa using h5 b hbm
    have hc : Lx.isBlank c = false := hall c (by rw [hx]; exact List.mem_cons_self)
    have := Lx.cut1_tight 0 c r t [] hc (by rw [← hx]; exact h) (by rw [← hx]; exact hb) (by rw [← hx]; exact h5)
    unfold Lx.RightT
    rw [hx] at this ⊢
    exact this.1

theorem right_plain {a : ATok} (h : rightB a = true) : Plain a ∧ Lx.RightT (tokOf a) := by
  have hc : cutsInto (spell a) [a] = true := by
    unfold rightB at h
    simp at h
    exact h.2
  obtain ⟨hb, ht⟩ := (cutsInto_iff _ _).1 hc
  have hp : Plain a := by
    match hts : (Lx.toks (spell a)).toks, ht with
    | [], ht => simp at ht
    | [t], ht =>
      simp only [List.map_cons, List.map_nil, List.cons.injEq, and_true] at ht
      unfold Plain
      rw [← ht]
      unfold bareA ofTok at ht
      simp only [Prod.mk.injEq] at ht
      rw [bareA_ofTok]
      unfold tokOf Lx.Tok.bare
      rw [← ht.1, ← ht.2.1, ← ht.2.2]
      simp
    | _ :: _ :: _, ht => simp at ht
  refine ⟨hp, right_of_toks ?_ ?_⟩
  · rw [← plain_spell hp]; exact hb
  · rw [← plain_spell hp]
    exact (plain_map _ [a] (by intro x hx; rw [List.mem_singleton.1 hx]; exact hp)).1 ht

theorem apart_side {a b : ATok} (ha : rightB a = true) (hb : rightB b = true) : apartB a b = true ↔ Lx.Side (tokOf a) (tokOf b) := by
  obtain ⟨pa, ra⟩ := right_plain ha
  obtain ⟨pb, rb⟩ := right_plain hb
  rw [Lx.side_iff ra rb, ← plain_spell pa, ← plain_spell pb]
  unfold apartB
  rw [cutsInto_iff, plain_map _ [a, b] (by intro x hx; simp only [List.mem_cons, List.not_mem_nil, or_false] at hx; rcases hx with rfl | rfl <;> assumption)]
  rfl

def sepF : Option ATok → ATok → Bool
  | none, _ => false
  | some a, t => !apartB a t

/-- The first k tokens, with the blanks ahead of them. -/
def laidA (l : List ATok) : Nat → List (Bool × Lx.Tok)
  | 0 => []
  | k + 1 => laidA l k ++ match l[k]? with
    | none => []
    | some t => [(sepF (if k = 0 then none else l[k - 1]?) t, tokOf t)]

theorem joinPre_lay (l : List ATok) (h : ∀ a ∈ l, rightB a = true) : ∀ k, joinPre l k = Lx.lay (laidA l k)
  | 0 => rfl
  | k + 1 => by
    rw [joinPre, laidA, Lx.lay_append, joinPre_lay l h k]
    cases hx : l[k]? with
    | none => rfl
    | some t =>
      have ht := h t (List.mem_of_getElem? hx)
      have hs := plain_spell (right_plain ht).1
      congr 1
      simp only [Lx.lay, List.append_nil]
      rw [← hs]
      congr 1
      cases (if k = 0 then none else l[k - 1]?) with
      | none => rfl
      | some a =>
        show (if apartB a t = true then [] else [32]) = (if sepF (some a) t = true then [32] else [])
        by_cases h : apartB a t = true
        · have e : sepF (some a) t = false := by show (!apartB a t) = false; rw [h]; rfl
          rw [if_pos h, if_neg (by rw [e]; decide)]
        · have e : sepF (some a) t = true := by show (!apartB a t) = true; simpa using h
          rw [if_neg h, if_pos e]

theorem laidA_snd (l : List ATok) : ∀ k, (laidA l k).map Prod.snd = (l.take k).map tokOf
  | 0 => by simp [laidA]
  | k + 1 => by
    rw [laidA, List.map_append, laidA_snd l k]
    rcases Nat.lt_or_ge k l.length with hlt | hge
    · rw [List.getElem?_eq_getElem hlt, List.take_succ_eq_append_getElem hlt, List.map_append]
      rfl
    · rw [List.getElem?_eq_none hge, List.take_of_length_le hge, List.take_of_length_le (Nat.le_succ_of_le hge)]
      simp

theorem laidA_len (l : List ATok) (k : Nat) : (laidA l k).length = min k l.length := by
  have := congrArg List.length (laidA_snd l k)
  simpa using this

theorem laidA_exact (l : List ATok) (h : ∀ a ∈ l, rightB a = true) : ∀ k, Lx.Exact none (laidA l k)
  | 0 => trivial
  | k + 1 => by
    have ih := laidA_exact l h k
    rw [laidA]
    rcases Nat.lt_or_ge k l.length with hlt | hge
    · rw [List.getElem?_eq_getElem hlt]
      simp only
      rw [Lx.exact_snoc]
      refine ⟨ih, ?_⟩
      cases k with
      | zero => rfl
      | succ j =>
        have hj : j < l.length := by omega
        have hl : (laidA l (j + 1)).getLast? = some (sepF (if j = 0 then none else l[j - 1]?) l[j], tokOf l[j]) := by
          rw [laidA, List.getElem?_eq_getElem hj]
          simp
        rw [hl]
        simp only [Nat.add_sub_cancel, if_neg (Nat.succ_ne_zero j)]
        rw [List.getElem?_eq_getElem hj]
        simp only [sepF]
        rw [← apart_side (h _ (List.getElem_mem hj)) (h _ (List.getElem_mem hlt))]
        simp
    · rw [List.getElem?_eq_none hge]
      simpa using ih

def speltA (l : List ATok) : Nat := (l.map fun a => (spell a).length).sum

theorem speltA_eq : ∀ (l : List ATok), (∀ a ∈ l, rightB a = true) → speltA l = Lx.spelt (l.map tokOf)
  | [], _ => rfl
  | a :: l, h => by
    have ih := speltA_eq l (fun x hx => h x (List.mem_cons_of_mem _ hx))
    rw [List.map_cons, Lx.spelt_cons, ← ih, ← plain_spell (right_plain (h a List.mem_cons_self)).1]
    simp [speltA]

/-- What is joined is cut into what it was, and is as short as it can be. -/
theorem back_law (l : List ATok) (h : l.all rightB = true) :
    (Lx.toks (joinFrom l)).bad = none ∧ likeB l ((Lx.toks (joinFrom l)).toks.map ofTok) = true ∧
    speltA l ≤ (joinFrom l).length ∧ (joinFrom l).length ≤ speltA l + (l.length - 1) ∧
    ∀ k, k < (joinFrom l).length → (Lx.toks ((joinFrom l).take k ++ (joinFrom l).drop (k + 1))).bad = none →
      likeB l ((Lx.toks ((joinFrom l).take k ++ (joinFrom l).drop (k + 1))).toks.map ofTok) = false := by
  have hall : ∀ a ∈ l, rightB a = true := List.all_eq_true.1 h
  have hpl : ∀ a ∈ l, Plain a := fun a ha => (right_plain (hall a ha)).1
  have hj : joinFrom l = Lx.lay (laidA l l.length) := joinPre_lay l hall l.length
  have hsnd := laidA_snd l l.length
  rw [List.take_length] at hsnd
  have hE := laidA_exact l hall l.length
  have hR : ∀ x ∈ laidA l l.length, Lx.RightT x.2 := by
    intro x hx
    have : x.2 ∈ (laidA l l.length).map Prod.snd := List.mem_map_of_mem hx
    rw [hsnd] at this
    obtain ⟨a, ha, he⟩ := List.mem_map.1 this
    rw [← he]
    exact (right_plain (hall a ha)).2
  have hlen := laidA_len l l.length
  rw [hj]
  generalize laidA l l.length = L at *
  have hlike : ∀ ts : List Lx.Tok, likeB l (ts.map ofTok) = true ↔ ts.map Lx.Tok.bare = (L.map Prod.snd).map Lx.Tok.bare := by
    intro ts
    rw [likeB_iff, hsnd, ← plain_map ts l hpl]
    exact eq_comm
  have hc := Lx.cuts_lay L none 0 hR hE.chain
  have hcount := Lx.exact_count none L hE
  have hl := Lx.lay_length L
  rw [hsnd, ← speltA_eq l hall] at hl
  refine ⟨hc.2, (hlike _).2 hc.1, by omega, ?_, ?_⟩
  · simp only [hlen, Nat.min_self] at hcount
    omega
  · intro k hk hb
    rw [← List.eraseIdx_eq_take_drop_succ] at hb ⊢
    have := Lx.erase_law L hR hE k hk hb
    cases hx : likeB l ((Lx.toks ((Lx.lay L).eraseIdx k)).toks.map ofTok) with
    | false => rfl
    | true => exact absurd ((hlike _).1 hx) this
end Go.Proofs.YtbcmjinifilamaaGreatDoor
