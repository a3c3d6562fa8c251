/- An edited text is cut anew only where it has to be. -/
import Derived.Test.YtbcmjinifilamaaDoorNearMath
namespace Lx

/-- Tokens stand within the text, one behind the other. -/
theorem toks_within : ∀ (n p : Nat) (l : Bytes), l.length ≤ n → (∀ t ∈ (cuts p l).toks, p ≤ t.at_ ∧ t.at_ < t.end_ ∧ t.end_ ≤ p + l.length) ∧ List.Pairwise (fun a b => a.end_ ≤ b.at_) (cuts p l).toks
  | n, p, [], _ => by simp [cuts_nil]
  | n + 1, p, x :: r, hn => by
    simp only [List.length_cons] at hn
    rw [cuts_cons]
    have hlen := cut1_len (x :: r)
    cases hc : cut1 (x :: r) with
    | bad => simp
    | skip =>
      have ih := toks_within n (p + 1) r (by omega)
      simp only
      exact ⟨fun t ht => by have := ih.1 t ht; simp only [List.length_cons]; omega, ih.2⟩
    | comment k =>
      rw [hc] at hlen
      have hl := hlen (by simp)
      simp only [Cut.len, List.length_cons] at hl
      have ih := toks_within n (p + k) ((x :: r).drop k) (by simp; omega)
      simp only [Out.com]
      exact ⟨fun t ht => by have := ih.1 t ht; simp only [List.length_drop, List.length_cons] at this ⊢; omega, ih.2⟩
    | tok kd m s k =>
      rw [hc] at hlen
      have hl := hlen (by simp)
      simp only [Cut.len, List.length_cons] at hl
      have ih := toks_within n (p + k) ((x :: r).drop k) (by simp; omega)
      simp only [Out.tok]
      refine ⟨fun t ht => ?_, List.pairwise_cons.2 ⟨fun t ht => (ih.1 t ht).1, ih.2⟩⟩
      rcases List.mem_cons.1 ht with rfl | ht
      · simp only [List.length_cons]; omega
      · have := ih.1 t ht
        simp only [List.length_drop, List.length_cons] at this ⊢
        omega

/-- The place behind tokens. -/
def endOf (p : Nat) (ts : List Tok) : Nat := match ts.getLast? with
  | none => p
  | some t => t.end_

theorem endOf_nil (p : Nat) : endOf p [] = p := rfl
theorem endOf_cons (p : Nat) (t : Tok) (l : List Tok) : endOf p (t :: l) = endOf t.end_ l := by
  cases l with
  | nil => rfl
  | cons a l => unfold endOf; rw [List.getLast?_cons_cons]; cases h : (a :: l).getLast? with
    | none => simp at h
    | some t => rfl

/-- Where two texts are the same up to byte A, they are cut alike ahead of it. -/
theorem cut1_ahead (l l' : Bytes) (A : Nat) (hA : l'.take A = l.take A) (hAl : A ≤ l.length) (hne : cut1 l ≠ .bad) (hlt : (cut1 l).len < A) : cut1 l' = cut1 l := by
  have hk : (cut1 l).len < l.length := by omega
  have hA' : A ≤ l'.length := by
    have := congrArg List.length hA
    simp only [List.length_take] at this
    omega
  have h1 : l = l.take (cut1 l).len ++ l[(cut1 l).len] :: l.drop ((cut1 l).len + 1) := by
    rw [List.getElem_cons_drop, List.take_append_drop]
  have hk' : (cut1 l).len < l'.length := by omega
  have ht : l'.take (cut1 l).len = l.take (cut1 l).len := by
    have := congrArg (List.take (cut1 l).len) hA
    rwa [List.take_take, List.take_take, Nat.min_eq_left (by omega)] at this
  have hg : l'[(cut1 l).len] = l[(cut1 l).len] := by
    have := congrArg (fun x => x[(cut1 l).len]?) hA
    simp only [List.getElem?_take, if_pos hlt] at this
    rw [List.getElem?_eq_getElem hk', List.getElem?_eq_getElem hk] at this
    exact Option.some.inj this
  have h2 : l' = l.take (cut1 l).len ++ l[(cut1 l).len] :: l'.drop ((cut1 l).len + 1) := by
    rw [← ht, ← hg, List.getElem_cons_drop, List.take_append_drop]
  have hn := cut1_near l[(cut1 l).len] (l.drop ((cut1 l).len + 1)) (l'.drop ((cut1 l).len + 1)) (l.take (cut1 l).len)
  rw [← h1, ← h2] at hn
  exact hn hne (by rw [List.length_take]; omega)

theorem pre_nil (o : Out) : o.pre [] [] = o := rfl

theorem cuts_prefix : ∀ (n p : Nat) (l l' : Bytes) (A k : Nat), l.length ≤ n → (cuts p l).bad = none → l'.take A = l.take A → A ≤ l.length → k ≤ (cuts p l).toks.length → (∀ t ∈ (cuts p l).toks.take k, t.end_ < p + A) →
    ∃ cs, cuts p l' = (cuts (endOf p ((cuts p l).toks.take k)) (l'.drop (endOf p ((cuts p l).toks.take k) - p))).pre ((cuts p l).toks.take k) cs
  | n, p, l, l', A, 0, _, _, _, _, _, _ => ⟨[], by rw [List.take_zero, endOf_nil, Nat.sub_self, List.drop_zero, pre_nil]⟩
  | n, p, [], l', A, k + 1, _, _, _, _, hk, _ => by simp [cuts_nil] at hk
  | n + 1, p, c :: t, l', A, k + 1, hn, hbad, hA, hAl, hk, hend => by
    have hlen := cut1_len (c :: t)
    have hne : cut1 (c :: t) ≠ .bad := by
      intro h
      rw [cuts_cons, h] at hbad
      cases hbad
    have hlm := hlen hne
    simp only [List.length_cons] at hn hlm hAl
    -- what is cut first ends ahead of A
    have hw := toks_within (c :: t).length p (c :: t) (Nat.le_refl _)
    have hfirst : (cut1 (c :: t)).len < A := by
      rw [cuts_cons] at hk hend
      cases hc : cut1 (c :: t) with
      | bad => exact absurd hc hne
      | skip =>
        rw [hc] at hk hend
        simp only at hk hend
        cases hts : (cuts (p + 1) t).toks with
        | nil => rw [hts] at hk; simp at hk
        | cons t0 ts =>
          rw [hts] at hend
          have h1 := hend t0 (by rw [List.take_succ_cons]; exact List.mem_cons_self)
          have h2 := (toks_within t.length (p + 1) t (Nat.le_refl _)).1 t0 (by rw [hts]; exact List.mem_cons_self)
          simp only [Cut.len]
          omega
      | comment m =>
        rw [hc] at hk hend
        simp only [Out.com] at hk hend
        cases hts : (cuts (p + m) ((c :: t).drop m)).toks with
        | nil => rw [hts] at hk; simp at hk
        | cons t0 ts =>
          rw [hts] at hend
          have h1 := hend t0 (by rw [List.take_succ_cons]; exact List.mem_cons_self)
          have h2 := (toks_within _ (p + m) ((c :: t).drop m) (Nat.le_refl _)).1 t0 (by rw [hts]; exact List.mem_cons_self)
          simp only [Cut.len]
          omega
      | tok kd v s m =>
        rw [hc] at hk hend
        simp only [Out.tok] at hk hend
        have h1 := hend _ (by rw [List.take_succ_cons]; exact List.mem_cons_self)
        simp only [Cut.len]
        simp only at h1
        omega
    have hst := cut1_ahead (c :: t) l' A hA (by simpa using hAl) hne hfirst
    obtain ⟨t', rfl⟩ : ∃ t', l' = c :: t' := by
      cases l' with
      | nil =>
        have := congrArg List.length hA
        simp only [List.length_take, List.length_nil, List.length_cons] at this
        omega
      | cons c' t' =>
        have hc0 := congrArg List.head? hA
        rw [List.head?_take, List.head?_take, if_neg (by omega), if_neg (by omega)] at hc0
        simp only [List.head?_cons, Option.some.injEq] at hc0
        exact ⟨t', by rw [hc0]⟩
    have hdrop : ∀ m, m ≤ A → ((c :: t').drop m).take (A - m) = ((c :: t).drop m).take (A - m) := by
      intro m hm
      have := congrArg (List.drop m) hA
      rwa [List.drop_take, List.drop_take] at this
    rw [cuts_cons] at hbad hk hend ⊢
    rw [hst, cuts_cons p c t]
    cases hc : cut1 (c :: t) with
    | bad => exact absurd hc hne
    | skip =>
      rw [hc] at hbad hk hend hfirst
      simp only [Cut.len] at hbad hk hend hfirst ⊢
      have h5 := hdrop 1 (by omega)
      simp only [List.drop_succ_cons, List.drop_zero] at h5
      obtain ⟨cs, ih⟩ := cuts_prefix n (p + 1) t t' (A - 1) (k + 1) (by omega) hbad h5 (by omega) hk (fun x hx => by have := hend x hx; omega)
      refine ⟨cs, ?_⟩
      rw [ih]
      have hge : p + 1 ≤ endOf (p + 1) ((cuts (p + 1) t).toks.take (k + 1)) := by
        unfold endOf
        cases hl : ((cuts (p + 1) t).toks.take (k + 1)).getLast? with
        | none => exact Nat.le_refl _
        | some x =>
          have hx := List.mem_of_mem_take (List.mem_of_getLast? hl)
          have := (toks_within t.length (p + 1) t (Nat.le_refl _)).1 x hx
          show p + 1 ≤ x.end_
          omega
      have heq : endOf p ((cuts (p + 1) t).toks.take (k + 1)) = endOf (p + 1) ((cuts (p + 1) t).toks.take (k + 1)) := by
        cases hts : (cuts (p + 1) t).toks with
        | nil => rw [hts] at hk; simp at hk
        | cons t0 ts => rw [List.take_succ_cons, endOf_cons, endOf_cons]
      rw [heq]
      rw [show endOf (p + 1) ((cuts (p + 1) t).toks.take (k + 1)) - p = (endOf (p + 1) ((cuts (p + 1) t).toks.take (k + 1)) - (p + 1)) + 1 by omega, List.drop_succ_cons]
    | comment m =>
      rw [hc] at hbad hk hend hfirst hlm
      simp only [Cut.len, Out.com] at hbad hk hend hfirst hlm ⊢
      have h5 := hdrop m (by omega)
      obtain ⟨cs, ih⟩ := cuts_prefix n (p + m) ((c :: t).drop m) ((c :: t').drop m) (A - m) (k + 1) (by simp; omega) hbad h5 (by simp; omega) hk (fun x hx => by have := hend x hx; omega)
      refine ⟨(p, p + m) :: cs, ?_⟩
      rw [ih]
      have hge : p + m ≤ endOf (p + m) ((cuts (p + m) ((c :: t).drop m)).toks.take (k + 1)) := by
        unfold endOf
        cases hl : ((cuts (p + m) ((c :: t).drop m)).toks.take (k + 1)).getLast? with
        | none => exact Nat.le_refl _
        | some x =>
          have hx := List.mem_of_mem_take (List.mem_of_getLast? hl)
          have := (toks_within _ (p + m) ((c :: t).drop m) (Nat.le_refl _)).1 x hx
          show p + m ≤ x.end_
          omega
      have heq : endOf p ((cuts (p + m) ((c :: t).drop m)).toks.take (k + 1)) = endOf (p + m) ((cuts (p + m) ((c :: t).drop m)).toks.take (k + 1)) := by
        cases hts : (cuts (p + m) ((c :: t).drop m)).toks with
        | nil => rw [hts] at hk; simp at hk
        | cons t0 ts => rw [List.take_succ_cons, endOf_cons, endOf_cons]
      rw [heq, List.drop_drop]
      rw [show m + (endOf (p + m) ((cuts (p + m) ((c :: t).drop m)).toks.take (k + 1)) - (p + m)) = endOf (p + m) ((cuts (p + m) ((c :: t).drop m)).toks.take (k + 1)) - p by omega]
      rfl
    | tok kd v s m =>
      rw [hc] at hbad hk hend hfirst hlm
      simp only [Cut.len, Out.tok, List.length_cons, List.take_succ_cons] at hbad hk hend hfirst hlm ⊢
      have h5 := hdrop m (by omega)
      obtain ⟨cs, ih⟩ := cuts_prefix n (p + m) ((c :: t).drop m) ((c :: t').drop m) (A - m) k (by simp; omega) hbad h5 (by simp; omega) (by omega) (fun x hx => by have := hend x (List.mem_cons_of_mem _ hx); omega)
      refine ⟨cs, ?_⟩
      rw [ih, endOf_cons]
      simp only
      have hge : p + m ≤ endOf (p + m) ((cuts (p + m) ((c :: t).drop m)).toks.take k) := by
        unfold endOf
        cases hl : ((cuts (p + m) ((c :: t).drop m)).toks.take k).getLast? with
        | none => exact Nat.le_refl _
        | some x =>
          have hx := List.mem_of_mem_take (List.mem_of_getLast? hl)
          have := (toks_within _ (p + m) ((c :: t).drop m) (Nat.le_refl _)).1 x hx
          show p + m ≤ x.end_
          omega
      rw [List.drop_drop]
      rw [show m + (endOf (p + m) ((cuts (p + m) ((c :: t).drop m)).toks.take k) - (p + m)) = endOf (p + m) ((cuts (p + m) ((c :: t).drop m)).toks.take k) - p by omega]
      rfl

/-- From a token on a text is cut as it was. -/
theorem cuts_resume : ∀ (n p : Nat) (l : Bytes) (j : Nat) (x : Tok), l.length ≤ n → (cuts p l).bad = none → (cuts p l).toks[j]? = some x →
    (cuts x.at_ (l.drop (x.at_ - p))).toks = (cuts p l).toks.drop j ∧ (cuts x.at_ (l.drop (x.at_ - p))).bad = none
  | n, p, [], j, x, _, _, h => by simp [cuts_nil] at h
  | n + 1, p, c :: t, j, x, hn, hbad, hj => by
    have hw := (toks_within (c :: t).length p (c :: t) (Nat.le_refl _)).1 x (List.mem_of_getElem? hj)
    have hlen := cut1_len (c :: t)
    simp only [List.length_cons] at hn hlen
    have hcut := cuts_cons p c t
    cases hc : cut1 (c :: t) with
    | bad => rw [hcut, hc] at hbad; cases hbad
    | skip =>
      rw [hc] at hcut
      simp only at hcut
      rw [hcut] at hbad hj ⊢
      have hx := (toks_within t.length (p + 1) t (Nat.le_refl _)).1 x (List.mem_of_getElem? hj)
      rw [show x.at_ - p = (x.at_ - (p + 1)) + 1 by omega, List.drop_succ_cons]
      exact cuts_resume n (p + 1) t j x (by omega) hbad hj
    | comment k =>
      rw [hc] at hcut hlen
      have hl := hlen (by simp)
      simp only [Out.com, Cut.len] at hcut hl
      rw [hcut] at hbad hj ⊢
      simp only at hbad hj ⊢
      have hx := (toks_within _ (p + k) ((c :: t).drop k) (Nat.le_refl _)).1 x (List.mem_of_getElem? hj)
      have ih := cuts_resume n (p + k) ((c :: t).drop k) j x (by simp; omega) hbad hj
      rw [List.drop_drop, show k + (x.at_ - (p + k)) = x.at_ - p by omega] at ih
      exact ih
    | tok kd v s k =>
      rw [hc] at hcut hlen
      have hl := hlen (by simp)
      simp only [Out.tok, Cut.len] at hcut hl
      cases j with
      | zero =>
        rw [hcut] at hj
        simp only [List.getElem?_cons_zero, Option.some.injEq] at hj
        subst hj
        simp only [Nat.sub_self, List.drop_zero]
        exact ⟨trivial, hbad⟩
      | succ j =>
        rw [hcut] at hbad hj ⊢
        simp only [List.getElem?_cons_succ, List.drop_succ_cons] at hbad hj ⊢
        have hx := (toks_within _ (p + k) ((c :: t).drop k) (Nat.le_refl _)).1 x (List.mem_of_getElem? hj)
        have ih := cuts_resume n (p + k) ((c :: t).drop k) j x (by simp; omega) hbad hj
        rw [List.drop_drop, show k + (x.at_ - (p + k)) = x.at_ - p by omega] at ih
        exact ih

/-- Cuts that stop early are the first ones of all. -/
theorem cutE_cuts (E : Nat → Bool) : ∀ (n p : Nat) (l : Bytes), l.length ≤ n →
    (∀ q, (cutE E p l).2.bad = some q → (cuts p l).bad = some q) ∧
    ((cutE E p l).2.bad = none → p ≤ (cutE E p l).1 ∧ (cutE E p l).1 ≤ p + l.length ∧ (E (cutE E p l).1 = true ∧ (cutE E p l).1 < p + l.length ∨ (cutE E p l).1 = p + l.length) ∧ cuts p l = (cuts (cutE E p l).1 (l.drop ((cutE E p l).1 - p))).pre (cutE E p l).2.toks (cutE E p l).2.coms)
  | n, p, [], _ => by simp [cutE_nil, cuts_nil, Out.pre]
  | n + 1, p, c :: t, hn => by
    simp only [List.length_cons] at hn
    rw [cutE_cons]
    by_cases hE : E p = true
    · rw [if_pos hE]
      refine ⟨fun q h => (by cases h), fun _ => ⟨Nat.le_refl _, by simp, .inl ⟨hE, by simp⟩, ?_⟩⟩
      simp only [Nat.sub_self, List.drop_zero]
      rfl
    · rw [if_neg hE]
      have hstep := cuts_step p (c :: t) (by simp)
      cases hs : step p (c :: t) with
      | none =>
        rw [hs] at hstep
        simp only at hstep
        refine ⟨fun q h => by rw [hstep]; exact h, fun h => by cases h⟩
      | some x =>
        obtain ⟨k, ts, cs⟩ := x
        rw [hs] at hstep
        simp only at hstep
        have hl := step_len p (c :: t) hs
        simp only [List.length_cons] at hl
        obtain ⟨ih1, ih2⟩ := cutE_cuts E n (p + k) ((c :: t).drop k) (by simp; omega)
        simp only [Out.pre, List.length_drop, List.length_cons] at ih1 ih2 hstep ⊢
        generalize cutE E (p + k) ((c :: t).drop k) = X at *
        rw [hstep]
        refine ⟨ih1, fun hb => ?_⟩
        obtain ⟨h1, h2, h3, h4⟩ := ih2 hb
        refine ⟨by omega, by omega, ?_, ?_⟩
        · rcases h3 with ⟨h3, h5⟩ | h3
          · exact .inl ⟨h3, by omega⟩
          · exact .inr (by omega)
        · rw [h4]
          simp only [List.drop_drop, List.append_assoc]
          rw [show k + (X.1 - (p + k)) = X.1 - p by omega]

def Tok.byI (d : Int) (t : Tok) : Tok := { t with at_ := (t.at_ + d).toNat, end_ := (t.end_ + d).toNat }

/-- What of the tokens stands ahead of an edit. -/
def aheadOf (old : List Tok) (A : Nat) : List Tok := old.takeWhile fun t => decide (t.end_ < A)
/-- What of the tokens stands, moved, from a byte on. -/
def fromOn (old : List Tok) (d : Int) (p : Nat) : List Tok := old.dropWhile fun t => decide ((t.at_ : Int) + d < p)
/-- Whether the rest is cut as it was. -/
def again (old : List Tok) (d : Int) (A : Nat) (p : Nat) : Bool := decide (A ≤ p) && (fromOn old d p).head?.any fun t => decide ((t.at_ : Int) + d = p)

/-- How an edited text is cut anew. -/
def recut (old : List Tok) (ed : Bytes) (A C n : Nat) : Out :=
  let d : Int := (n : Int) - C
  let X := cutE (again old d (A + n)) (endOf 0 (aheadOf old A)) (ed.drop (endOf 0 (aheadOf old A)))
  ⟨aheadOf old A ++ X.2.toks ++ (if X.1 < ed.length then (fromOn old d X.1).map (Tok.byI d) else []), [], X.2.bad⟩

theorem recut_eq (l S : Bytes) (A C : Nat) (hb : (toks l).bad = none) (hA : A + C ≤ l.length) :
    let ed := l.take A ++ S ++ l.drop (A + C)
    (recut (toks l).toks ed A C S.length).bad = (toks ed).bad ∧ ((toks ed).bad = none → (recut (toks l).toks ed A C S.length).toks = (toks ed).toks) := by
  intro ed
  have hedA : ed.take A = l.take A := by
    show (l.take A ++ S ++ l.drop (A + C)).take A = _
    rw [List.append_assoc, List.take_append_of_le_length (by rw [List.length_take]; omega), List.take_take, Nat.min_self]
  have hedl : ed.length = A + S.length + (l.length - (A + C)) := by
    show (l.take A ++ S ++ l.drop (A + C)).length = _
    simp only [List.length_append, List.length_take, List.length_drop]
    omega
  have hw := toks_within l.length 0 l (Nat.le_refl _)
  -- the tokens ahead
  have hpre : aheadOf (toks l).toks A = (toks l).toks.take (aheadOf (toks l).toks A).length := by
    have := List.takeWhile_prefix (p := fun t : Tok => decide (t.end_ < A)) (l := (toks l).toks)
    exact (List.prefix_iff_eq_take.1 this)
  have hall : ∀ t ∈ aheadOf (toks l).toks A, t.end_ < A := fun t ht => by
    have := List.all_eq_true.1 List.all_takeWhile t ht
    simpa using this
  obtain ⟨cs, h1⟩ := cuts_prefix l.length 0 l ed A (aheadOf (toks l).toks A).length (Nat.le_refl _) hb hedA (by omega)
    (List.IsPrefix.length_le (List.takeWhile_prefix (p := fun t : Tok => decide (t.end_ < A)))) (fun t ht => by rw [Nat.zero_add]; exact hall t (by rw [hpre]; exact ht))
  have hts : (cuts 0 l).toks = (toks l).toks := rfl
  rw [hts, ← hpre, Nat.sub_zero] at h1
  have hst : endOf 0 (aheadOf (toks l).toks A) ≤ A := by
    unfold endOf
    cases hg : (aheadOf (toks l).toks A).getLast? with
    | none => exact Nat.zero_le _
    | some x => exact Nat.le_of_lt (hall x (List.mem_of_getLast? hg))
  obtain ⟨h2, h3⟩ := cutE_cuts (again (toks l).toks ((S.length : Int) - C) (A + S.length)) (ed.drop (endOf 0 (aheadOf (toks l).toks A))).length (endOf 0 (aheadOf (toks l).toks A)) (ed.drop (endOf 0 (aheadOf (toks l).toks A))) (Nat.le_refl _)
  have hed : toks ed = cuts 0 ed := rfl
  unfold recut
  rw [hed, h1]
  simp only [Out.pre]
  generalize endOf 0 (aheadOf (toks l).toks A) = st at *
  generalize hX : cutE (again (toks l).toks ((S.length : Int) - C) (A + S.length)) st (ed.drop st) = X at *
  cases hbx : X.2.bad with
  | some q =>
    have := h2 q hbx
    rw [this]
    exact ⟨rfl, fun h => (by cases h)⟩
  | none =>
    obtain ⟨h4, h5, h6, h7⟩ := h3 hbx
    rw [h7]
    simp only [Out.pre, List.length_drop] at h5 h6 ⊢
    rcases h6 with ⟨h6, h8⟩ | h6
    · have hlt : X.1 < ed.length := by omega
      rw [if_pos hlt, List.drop_drop, show st + (X.1 - st) = X.1 by omega]
      -- the token that stands here
      unfold again at h6
      simp only [Bool.and_eq_true, decide_eq_true_eq] at h6
      obtain ⟨h9, h10⟩ := h6
      have hsuf : ∃ j, fromOn (toks l).toks ((S.length : Int) - C) X.1 = (toks l).toks.drop j := by
        have := List.dropWhile_suffix (l := (toks l).toks) (fun t : Tok => decide ((t.at_ : Int) + ((S.length : Int) - C) < X.1))
        rw [List.suffix_iff_eq_drop] at this
        exact ⟨_, this⟩
      obtain ⟨j, hj⟩ := hsuf
      rw [hj] at h10 ⊢
      cases hh : ((toks l).toks.drop j).head? with
      | none => rw [hh] at h10; simp at h10
      | some x =>
        rw [hh] at h10
        simp only [Option.any_some, decide_eq_true_eq] at h10
        rw [List.head?_drop] at hh
        obtain ⟨h11, h12⟩ := cuts_resume l.length 0 l j x (Nat.le_refl _) hb hh
        rw [Nat.sub_zero] at h11 h12
        have hxin := hw.1 x (List.mem_of_getElem? hh)
        have hdr : ed.drop X.1 = l.drop x.at_ := by
          show (l.take A ++ S ++ l.drop (A + C)).drop X.1 = _
          rw [List.drop_append, List.drop_of_length_le (by simp only [List.length_append, List.length_take]; omega), List.nil_append, List.drop_drop]
          congr 1
          simp only [List.length_append, List.length_take]
          omega
        rw [hdr]
        by_cases hd : x.at_ ≤ X.1
        · obtain ⟨d, hd2⟩ : ∃ d, X.1 = x.at_ + d := ⟨X.1 - x.at_, by omega⟩
          rw [hd2, cuts_shift d _ x.at_ (l.drop x.at_) (Nat.le_refl _), h12]
          refine ⟨rfl, fun _ => ?_⟩
          simp only
          rw [h11, List.append_assoc]
          congr 2
          apply List.map_congr_left
          intro y _
          unfold Tok.byI Tok.by
          have e : ((S.length : Int) - C) = (d : Int) := by omega
          rw [e]
          congr 1
        · obtain ⟨d, hd2⟩ : ∃ d, x.at_ = X.1 + d := ⟨x.at_ - X.1, by omega⟩
          have hsh := cuts_shift d _ X.1 (l.drop x.at_) (Nat.le_refl _)
          rw [← hd2] at hsh
          have hbn : (cuts X.1 (l.drop x.at_)).bad = none := by
            have := congrArg Out.bad hsh
            rw [h12] at this
            cases hq : (cuts X.1 (l.drop x.at_)).bad with
            | none => rfl
            | some q => rw [hq] at this; cases this
          rw [hbn]
          refine ⟨rfl, fun _ => ?_⟩
          have ht := congrArg Out.toks hsh
          rw [h11] at ht
          have hts2 : (cuts 0 l).toks = (toks l).toks := rfl
          rw [hts2] at ht
          rw [ht, List.append_assoc]
          congr 2
          rw [List.map_map]
          conv => rhs; rw [← List.map_id (cuts X.1 (l.drop x.at_)).toks]
          apply List.map_congr_left
          intro y _
          unfold Tok.byI Tok.by
          have e : ((S.length : Int) - C) = -(d : Int) := by omega
          simp only [Function.comp, e, id]
          cases y
          congr 1 <;> (simp only; omega)
    · have hnl : ¬ X.1 < ed.length := by omega
      rw [if_neg hnl, List.append_nil, List.drop_of_length_le (by rw [List.length_drop]; omega), cuts_nil]
      exact ⟨rfl, fun _ => by simp⟩
end Lx
