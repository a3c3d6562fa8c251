/- Blanks in the place of comments. -/
import Derived.Test.YtbcmjinifilamaaDoorLawMath
namespace Lx

/-- Blanks in the place of the bytes from a up to e, but for line feeds. -/
def blankOut (l : Bytes) (a e : Nat) : Bytes := l.mapIdx fun i b => if a ≤ i ∧ i < e ∧ b ≠ 10 then 32 else b
def stripBy (l : Bytes) (cs : List (Nat × Nat)) : Bytes := cs.foldl (fun l c => blankOut l c.1 c.2) l
/-- A text with blanks in the place of comments. -/
def strip (l : Bytes) : Bytes := stripBy l (toks l).coms

theorem blankOut_len (l : Bytes) (a e : Nat) : (blankOut l a e).length = l.length := by simp [blankOut]
theorem blankOut_self (l : Bytes) (a : Nat) : blankOut l a a = l := by
  apply List.ext_getElem?
  intro i
  unfold blankOut
  rw [List.getElem?_mapIdx]
  cases l[i]? with
  | none => rfl
  | some b => simp; intro h1 h2; omega
theorem blankOut_step (l : Bytes) (a e : Nat) (h : a ≤ e) (he : e < l.length) : blankOut l a (e + 1) = if (blankOut l a e).getD e 0 = 10 then blankOut l a e else (blankOut l a e).set e 32 := by
  have hg : (blankOut l a e).getD e 0 = l[e] := by
    unfold blankOut
    rw [List.getD_eq_getElem?_getD, List.getElem?_mapIdx, List.getElem?_eq_getElem he]
    simp
  rw [hg]
  apply List.ext_getElem?
  intro i
  split
  · rename_i h10
    unfold blankOut
    rw [List.getElem?_mapIdx, List.getElem?_mapIdx]
    by_cases hi : i = e
    · subst hi
      rw [List.getElem?_eq_getElem he]
      simp [h10]
    · cases l[i]? with
      | none => rfl
      | some b => 
        simp only [Option.map_some, Option.some.injEq]
        congr 1
        simp only [eq_iff_iff]
        constructor <;> rintro ⟨h1, h2, h3⟩ <;> exact ⟨h1, by omega, h3⟩
  · rename_i h10
    rw [List.getElem?_set]
    unfold blankOut
    rw [List.getElem?_mapIdx]
    by_cases hi : i = e
    · subst hi
      rw [List.getElem?_eq_getElem he]
      simp [h10, h, he]
    · rw [if_neg (fun h => hi h.symm), List.getElem?_mapIdx]
      cases l[i]? with
      | none => rfl
      | some b => 
        simp only [Option.map_some, Option.some.injEq]
        congr 1
        simp only [eq_iff_iff]
        constructor <;> rintro ⟨h1, h2, h3⟩ <;> exact ⟨h1, by omega, h3⟩

theorem stripBy_len : ∀ (cs : List (Nat × Nat)) (l : Bytes), (stripBy l cs).length = l.length
  | [], _ => rfl
  | c :: cs, l => by
    show (stripBy (blankOut l c.1 c.2) cs).length = _
    rw [stripBy_len cs, blankOut_len]

theorem stripBy_snoc (l : Bytes) (cs : List (Nat × Nat)) (k : Nat) (h : k < cs.length) : stripBy l (cs.take (k + 1)) = blankOut (stripBy l (cs.take k)) cs[k].1 cs[k].2 := by
  unfold stripBy
  rw [List.take_succ_eq_append_getElem h, List.foldl_append]
  rfl

/-- Comments stand within the text. -/
theorem coms_within : ∀ (n p : Nat) (l : Bytes), l.length ≤ n → ∀ c ∈ (cuts p l).coms, p ≤ c.1 ∧ c.1 < c.2 ∧ c.2 ≤ p + l.length
  | n, p, [], _, c, h => by simp [cuts_nil] at h
  | n + 1, p, x :: r, hn, c, h => by
    simp only [List.length_cons] at hn
    rw [cuts_step p (x :: r) (by simp)] at h
    cases hs : step p (x :: r) with
    | none => rw [hs] at h; simp at h
    | some y =>
      obtain ⟨k, ts, cs⟩ := y
      have hl := step_len p (x :: r) hs
      simp only [List.length_cons] at hl
      rw [hs] at h
      simp only [Out.pre, List.mem_append] at h
      rcases h with h | h
      · have hc : c = (p, p + k) := by
          simp only [step] at hs
          split at hs
          · simp only [Option.some.injEq, Prod.mk.injEq] at hs
            obtain ⟨_, _, rfl⟩ := hs
            simp at h
          · split at hs <;> simp only [Option.some.injEq, Prod.mk.injEq, reduceCtorEq] at hs
            · obtain ⟨rfl, _, rfl⟩ := hs
              simpa using h
            · obtain ⟨_, _, rfl⟩ := hs
              simp at h
        subst hc
        simp only [List.length_cons]
        omega
      · have ih := coms_within n (p + k) ((x :: r).drop k) (by simp; omega) c h
        simp only [List.length_drop, List.length_cons] at ih ⊢
        omega

theorem toks_coms_within (l : Bytes) : ∀ c ∈ (toks l).coms, c.1 < c.2 ∧ c.2 ≤ l.length := fun c h => by
  have := coms_within l.length 0 l (Nat.le_refl _) c h
  omega
end Lx
