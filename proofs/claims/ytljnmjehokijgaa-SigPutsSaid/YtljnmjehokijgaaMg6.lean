/- Parts of the proof, one behind the other. -/
import Derived.Maps.AppendAt
import Derived.Laws.AppendOwnNone
import Derived.Test.YtljnmjehokijgaaMg5

/- A whole row of trees appended to one of the call's own. -/
namespace Go.Proofs.Ytljnmjehokijgaa
open Go.RowKit

/-- The cells of a row of trees. -/
theorem tmsS_cells {w : World} {S : Nat → Prop} : ∀ {l : List Tm} {g off : Nat}, TmsS w S l (some ⟨g, off, none⟩) → ∃ cs : List (Value × Value × Value), cs.length = l.length ∧
    (∀ (i : Nat) (c : Value × Value × Value) (t : Tm), cs[i]? = some c → l[i]? = some t → TmS w S t (.agg #[c.1, c.2.1, c.2.2])) ∧ (∀ (j : Nat) (u : Value), (cs.flatMap tmCells)[j]? = some u → w.cell? ⟨g, off + j, none⟩ = some u) ∧
    (∀ u ∈ cs.flatMap tmCells, u.oneCell' = true)
  | [], _, _, _ => ⟨[], rfl, fun i c t h => by simp at h, fun j u h => by simp at h, fun u h => by simp at h⟩
  | t :: l, g, off, h => by
    obtain ⟨g', off', v0, v1, v2, ha, hg, hS, h0, h1, h2, ht, hl⟩ := h
    simp only [Option.some.injEq, Addr.mk.injEq, and_true] at ha
    obtain ⟨rfl, rfl⟩ := ha
    obtain ⟨cs, hlen, hc, hcell, hone⟩ := tmsS_cells hl
    obtain ⟨sa, sc, hv⟩ := ht.form
    have hv2 := hv
    simp only [Value.agg.injEq, Array.mk.injEq, List.cons.injEq, and_true] at hv2
    refine ⟨(v0, v1, v2) :: cs, by simp [hlen], fun i c u hi hu => ?_, fun j u hj => ?_, fun u hu => ?_⟩
    · match i, hi, hu with
      | 0, hi, hu =>
        simp only [List.getElem?_cons_zero, Option.some.injEq] at hi hu
        subst hi; subst hu
        exact ht
      | i + 1, hi, hu =>
        simp only [List.getElem?_cons_succ] at hi hu
        exact hc i c u hi hu
    · simp only [List.flatMap_cons, tmCells, List.cons_append, List.nil_append] at hj
      match j, hj with
      | 0, hj => simp only [List.getElem?_cons_zero, Option.some.injEq] at hj; subst hj; exact h0
      | 1, hj => simp only [List.getElem?_cons_zero, List.getElem?_cons_succ, Option.some.injEq] at hj; subst hj; exact h1
      | 2, hj => simp only [List.getElem?_cons_zero, List.getElem?_cons_succ, Option.some.injEq] at hj; subst hj; exact h2
      | j + 3, hj =>
        simp only [List.getElem?_cons_succ] at hj
        have := hcell j u hj
        rw [show off + (j + 3) = off + 3 + j by omega]
        exact this
    · simp only [List.flatMap_cons, tmCells, List.cons_append, List.nil_append, List.mem_cons] at hu
      rcases hu with rfl | rfl | rfl | hu
      · rw [hv2.1]; rfl
      · rw [hv2.2.1]; rfl
      · rw [hv2.2.2]; rfl
      · exact hone u hu

/-- A whole row of trees put behind: nil, empty or not. -/
theorem append_terms {ops : Array Oper} {rest : List Oper} {o : Oper} {a : Act} {Q : Exit → Act → World → Prop} (w : World) (hgd : o.guard = none) (s x : Operand)
    (ho : o.op = .call { callee := .builtin .append, args := #[s, x], argTypes := #[22, 22] }) (B : Nat) (R : Nat → Prop) (v : Value) (l l2 : List Tm) (hs : a.eval s = v) (hown : OwnTT w B R v l) (ad : Option Addr) (cp : Nat)
    (hx : a.eval x = .slice ad l2.length cp) (hnil : ad = none → cp = 0) (hl2 : TmsS w (fun k => R k ∧ v.ownBlock ≠ some k) l2 ad) (hsp : ∀ g off sp, ad = some ⟨g, off, sp⟩ → l2 ≠ [] → sp = none) (hlen : (l.length + l2.length) * 40 ≤ 140737488355328) (hB : B ≤ w.heap.size)
    (h : ∀ (v' : Value) (w' : World), OwnTT w' B R v' (l ++ l2) → Turned w w' (fun k => v.ownBlock = some k) → wpList Try.prog ops Q rest (a.put o.dst v') w') : wpList Try.prog ops Q (o :: rest) a w := by
  obtain ⟨i0, hi0, hz0, hz1, hz2⟩ := info_parts Try.infoTerm
  have hown2 := hown
  obtain ⟨cs, hl, hc, hr⟩ := hown
  rcases ad with _ | ⟨g0, off0, sp⟩
  · have h0 : l2 = [] := by
      cases l2 with
      | nil => rfl
      | cons t l2 => obtain ⟨g, off, v0, v1, v2, ha, -⟩ := hl2; cases ha
    subst h0
    rw [hnil rfl] at hx
    refine wpList_append_own_none hgd s x _ ho B 24 i0 3 Try.underlying22 hi0 v l.length _ hs hr hx (h v w (by simpa using hown2) (Turned.refl _ _))
  · have hex : ∃ cs2 : List (Value × Value × Value), cs2.length = l2.length ∧ (∀ (i : Nat) (c : Value × Value × Value) (t : Tm), cs2[i]? = some c → l2[i]? = some t → TmS w (fun k => R k ∧ v.ownBlock ≠ some k) t (.agg #[c.1, c.2.1, c.2.2])) ∧
        (∀ (j : Nat) (u : Value), (cs2.flatMap tmCells)[j]? = some u → w.cell? ((⟨g0, off0, sp⟩ : Addr).add j) = some u) ∧ (∀ u ∈ cs2.flatMap tmCells, u.oneCell' = true) := by
      by_cases hne : l2 = []
      · subst hne
        exact ⟨[], rfl, fun i c t h => by simp at h, fun j u h => by simp at h, fun u h => by simp at h⟩
      · have := hsp g0 off0 sp rfl hne
        subst this
        obtain ⟨cs2, k1, k2, k3, k4⟩ := tmsS_cells hl2
        refine ⟨cs2, k1, k2, fun j u hj => ?_, k4⟩
        have := k3 j u hj
        have e : ((⟨g0, off0, none⟩ : Addr).add j) = ⟨g0, off0 + j, none⟩ := by
          unfold Addr.add
          split
          · rename_i h0; simp only [Addr.mk.injEq, true_and, and_true]; omega
          · rfl
        rw [e]
        exact this
    obtain ⟨cs2, k1, k2, k3, k4⟩ := hex
    have hfl : (cs2.flatMap tmCells).length = l2.length * 3 := by
      rw [← k1]
      clear k1 k2 k3 k4
      induction cs2 with
      | nil => rfl
      | cons c cs2 ih => simp only [List.flatMap_cons, List.length_append, ih, tmCells, List.length_cons, List.length_nil]; omega
    refine wpList_append_own_at w hgd s x _ ho B 24 i0 _ 3 40 Try.underlying22 hi0 hz0 hz1 hz2 rfl (by omega) v l.length _ hs hr ⟨g0, off0, sp⟩ l2.length cp _ hx hfl k3 k4 (by unfold maxLen; omega) hlen hB ?_
    intro v' w' h1 h2 _ h4
    have hT : Turned w w' (fun k => v.ownBlock = some k) := Turned.grown (Turned.refl _ _) h2 (fun k _ e => e)
    have hmove : ∀ (u : Tm) (c : Value), TmS w (fun k => R k ∧ v.ownBlock ≠ some k) u c → TmS w' (fun k => R k ∧ v'.ownBlock ≠ some k) u c := fun u c hu =>
      TmS.turned hT (fun k _ hk e => hk.2 e) (fun k hk hR => ⟨hR.1, fun e => by
        rcases h4 with h5 | h5
        · rw [h5] at e; exact hR.2 e
        · rw [h5] at e; simp only [Option.some.injEq] at e; omega⟩) u hu
    refine h v' w' ⟨cs ++ cs2, by simp [hl, k1], fun i c u hi hu => ?_, ?_⟩ hT
    · rcases Nat.lt_or_ge i cs.length with hlt | hge
      · rw [List.getElem?_append_left hlt] at hi
        rw [List.getElem?_append_left (by omega)] at hu
        exact hmove _ _ (hc i c u hi hu)
      · rw [List.getElem?_append_right hge] at hi
        rw [List.getElem?_append_right (by omega), ← hl] at hu
        exact hmove _ _ (k2 _ c u hi hu)
    · rw [List.length_append, List.flatMap_append]
      exact h1

/-- A row of one tree of the call's own. -/
theorem ownTT_one {w1 : World} {R : Nat → Prop} {t : Tm} {x y z : Value} {B : Nat} (h : TmS w1 R t (.agg #[x, y, z])) (hB : B ≤ w1.heap.size) :
    OwnTT (w1.alloc (.cells #[x, y, z] 24)) B R (.slice (some ⟨w1.heap.size, 0, none⟩) 1 1) [t] := by
  refine ⟨[(x, y, z)], rfl, fun i c u hi hu => ?_, rfl, .inr ⟨_, 1, _, rfl, hB, heap_alloc_new _ _, Nat.le_refl _, by unfold maxLen; omega, rfl, rfl⟩⟩
  match i, hi, hu with
  | 0, hi, hu =>
    simp only [List.getElem?_cons_zero, Option.some.injEq] at hi hu
    subst hi; subst hu
    exact TmS.turned (D := fun _ => False) ((Turned.refl _ _).alloc _) (fun _ _ _ hf => hf) (fun k hk hR => ⟨hR, by simp only [Value.ownBlock, ne_eq, Option.some.injEq]; omega⟩) _ h
  | i + 1, hi, _ => simp at hi

/-- A row of no tree of the call's own. -/
theorem ownTT_empty (w1 : World) (R : Nat → Prop) {B : Nat} (hB : B ≤ w1.heap.size) : OwnTT (w1.alloc (.cells #[] 24)) B R (.slice (some ⟨w1.heap.size, 0, none⟩) 0 0) [] :=
  ⟨[], rfl, fun i c u hi _ => by simp at hi, rfl, .inr ⟨_, 0, #[], rfl, hB, heap_alloc_new _ _, Nat.le_refl _, Nat.zero_le _, rfl, rfl⟩⟩
end Go.Proofs.Ytljnmjehokijgaa
