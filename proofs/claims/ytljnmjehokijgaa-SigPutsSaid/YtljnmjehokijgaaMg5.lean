/- Parts of the proof, one behind the other. -/
import Derived.Deep.RegionLaw
import Derived.Test.YtljnmjehokijgaaMg4

/- Trees in memory whose rows lie in known blocks; rows of trees of the call's own. -/
namespace Go.Proofs.Ytljnmjehokijgaa
open Go.RowKit

mutual
/-- A tree lies in memory, all its rows in blocks of S. -/
def TmS (w : World) (S : Nat → Prop) : Tm → Value → Prop
  | .node k n l, v => ∃ a cap, v = .agg #[.int .i64 k, .int .i64 n, .slice a l.length cap] ∧ l.length ≤ maxLen ∧ TmsS w S l a
def TmsS (w : World) (S : Nat → Prop) : List Tm → Option Addr → Prop
  | [], _ => True
  | t :: l, a => ∃ g off v0 v1 v2, a = some ⟨g, off, none⟩ ∧ g < w.heap.size ∧ S g ∧ w.cell? ⟨g, off, none⟩ = some v0 ∧ w.cell? ⟨g, off + 1, none⟩ = some v1 ∧ w.cell? ⟨g, off + 2, none⟩ = some v2 ∧
      TmS w S t (.agg #[v0, v1, v2]) ∧ TmsS w S l (some ⟨g, off + 3, none⟩)
end

mutual
theorem TmS.toIn {w : World} {S : Nat → Prop} : ∀ (t : Tm) {v : Value}, TmS w S t v → TmIn w t v
  | .node _ _ l, _, ⟨a, cap, hv, hl, hr⟩ => ⟨a, cap, hv, hl, TmsS.toIn l hr⟩
theorem TmsS.toIn {w : World} {S : Nat → Prop} : ∀ (l : List Tm) {a : Option Addr}, TmsS w S l a → TmsIn w l a
  | [], _, _ => trivial
  | t :: l, _, ⟨g, off, v0, v1, v2, ha, hg, _, h0, h1, h2, ht, hl⟩ => ⟨g, off, v0, v1, v2, ha, hg, h0, h1, h2, TmS.toIn t ht, TmsS.toIn l hl⟩
end

mutual
theorem TmIn.toS {w : World} : ∀ (t : Tm) {v : Value}, TmIn w t v → TmS w (· < w.heap.size) t v
  | .node _ _ l, _, ⟨a, cap, hv, hl, hr⟩ => ⟨a, cap, hv, hl, TmsIn.toS l hr⟩
theorem TmsIn.toS {w : World} : ∀ (l : List Tm) {a : Option Addr}, TmsIn w l a → TmsS w (· < w.heap.size) l a
  | [], _, _ => trivial
  | t :: l, _, ⟨g, off, v0, v1, v2, ha, hg, h0, h1, h2, ht, hl⟩ => ⟨g, off, v0, v1, v2, ha, hg, hg, h0, h1, h2, TmIn.toS t ht, TmsIn.toS l hl⟩
end

mutual
/-- A tree stays where its blocks stay. -/
theorem TmS.turned {w w' : World} {D S S' : Nat → Prop} (h : Turned w w' D) (hd : ∀ k, k < w.heap.size → S k → ¬ D k) (hs : ∀ k, k < w.heap.size → S k → S' k) : ∀ (t : Tm) {v : Value}, TmS w S t v → TmS w' S' t v
  | .node _ _ l, _, ⟨a, cap, hv, hl, hr⟩ => ⟨a, cap, hv, hl, TmsS.turned h hd hs l hr⟩
theorem TmsS.turned {w w' : World} {D S S' : Nat → Prop} (h : Turned w w' D) (hd : ∀ k, k < w.heap.size → S k → ¬ D k) (hs : ∀ k, k < w.heap.size → S k → S' k) : ∀ (l : List Tm) {a : Option Addr}, TmsS w S l a → TmsS w' S' l a
  | [], _, _ => trivial
  | t :: l, _, ⟨g, off, v0, v1, v2, ha, hg, hS, h0, h1, h2, ht, hl⟩ =>
    ⟨g, off, v0, v1, v2, ha, Nat.lt_of_lt_of_le hg h.size, hs g hg hS, (h.cell (p := ⟨g, off, none⟩) hg (hd g hg hS)).trans h0, (h.cell (p := ⟨g, off + 1, none⟩) hg (hd g hg hS)).trans h1, (h.cell (p := ⟨g, off + 2, none⟩) hg (hd g hg hS)).trans h2,
      TmS.turned h hd hs t ht, TmsS.turned h hd hs l hl⟩
end

theorem TmS.mono {w : World} {S S' : Nat → Prop} (hs : ∀ k, k < w.heap.size → S k → S' k) (t : Tm) {v : Value} (h : TmS w S t v) : TmS w S' t v := TmS.turned (D := fun _ => False) (Turned.refl w _) (fun _ _ _ hf => hf) hs t h

/-- A tree's value, written out. -/
theorem TmS.form {w : World} {S : Nat → Prop} {t : Tm} {v : Value} (h : TmS w S t v) : ∃ a cap, v = .agg #[.int .i64 t.kind, .int .i64 t.num, .slice a t.kids.length cap] := by
  obtain ⟨k, n, l⟩ := t
  obtain ⟨a, cap, hv, -⟩ := h
  exact ⟨a, cap, hv⟩

theorem Try.infoTerm : (Try.prog.info? 24).map (fun i => (i.zero, i.size, i.bytes)) = some (some (.agg #[.int .i64 0, .int .i64 0, .slice none 0 0]), 3, 40) := by kernel_rfl

theorem flatMap_at {α : Type} (f : α → List Value) (n : Nat) (hf : ∀ x, (f x).length = n) : ∀ (l : List α) (j : Nat) (x : α), l[j]? = some x → ∀ i u, (f x)[i]? = some u → (l.flatMap f)[j * n + i]? = some u
  | [], j, x, h, _, _, _ => by simp at h
  | y :: l, 0, x, h, i, u, hu => by
    simp only [List.getElem?_cons_zero, Option.some.injEq] at h
    subst h
    have hi : i < (f y).length := (List.getElem?_eq_some_iff.1 hu).1
    rw [List.flatMap_cons, Nat.zero_mul, Nat.zero_add, List.getElem?_append_left hi]
    exact hu
  | y :: l, j + 1, x, h, i, u, hu => by
    simp only [List.getElem?_cons_succ] at h
    rw [List.flatMap_cons, List.getElem?_append_right (by rw [hf, Nat.add_mul]; omega)]
    have := flatMap_at f n hf l j x h i u hu
    rw [hf, show (j + 1) * n + i - n = j * n + i by rw [Nat.add_mul]; omega]
    exact this

/-- Cells of trees. -/
def tmCells (c : Value × Value × Value) : List Value := [c.1, c.2.1, c.2.2]

/-- A row of trees of the call's own; the trees' own rows lie in blocks of S. -/
def OwnT (w : World) (B : Nat) (S : Nat → Prop) (v : Value) (l : List Tm) : Prop :=
  ∃ cs : List (Value × Value × Value), cs.length = l.length ∧ (∀ (i : Nat) (c : Value × Value × Value) (t : Tm), cs[i]? = some c → l[i]? = some t → TmS w S t (.agg #[c.1, c.2.1, c.2.2])) ∧ w.ownsRow B 24 3 v l.length (cs.flatMap tmCells)

theorem OwnT.form {w : World} {B : Nat} {S : Nat → Prop} {v : Value} {l : List Tm} (h : OwnT w B S v l) : ∃ a cap, v = .slice a l.length cap := by
  obtain ⟨cs, -, -, h⟩ := h
  rcases h.2 with ⟨hv, h0⟩ | ⟨g, cap, cur, hv, _⟩
  · exact ⟨none, 0, by rw [hv, h0]⟩
  · exact ⟨_, cap, hv⟩

theorem OwnT.nil (w : World) (B : Nat) (S : Nat → Prop) : OwnT w B S (.slice none 0 0) [] := ⟨[], rfl, fun i c t hc => by simp at hc, by trivial, .inl ⟨rfl, rfl⟩⟩

theorem OwnT.turned {w w' : World} {B : Nat} {S S' D : Nat → Prop} {v : Value} {l : List Tm} (h : OwnT w B S v l) (t : Turned w w' D) (hn : ∀ k, v.ownBlock = some k → ¬ D k) (hd : ∀ k, k < w.heap.size → S k → ¬ D k) (hs : ∀ k, k < w.heap.size → S k → S' k) : OwnT w' B S' v l := by
  obtain ⟨cs, hl, hc, ho⟩ := h
  exact ⟨cs, hl, fun i c u h1 h2 => TmS.turned t hd hs u (hc i c u h1 h2), ownsRow_turned ho t hn⟩

theorem OwnT.own_le {w : World} {B : Nat} {S : Nat → Prop} {v : Value} {l : List Tm} (h : OwnT w B S v l) {k : Nat} (hk : v.ownBlock = some k) : B ≤ k ∧ k < w.heap.size := by
  obtain ⟨cs, -, -, ho⟩ := h
  obtain ⟨h1, c, h2⟩ := ownsRow_tag ho hk
  exact ⟨h1, lt_of_block h2⟩

theorem tmsS_mk {w : World} {S : Nat → Prop} : ∀ {l : List Tm} {g off : Nat}, g < w.heap.size → S g → (∀ i (h : i < l.length), ∃ v0 v1 v2,
    w.cell? ⟨g, off + i * 3, none⟩ = some v0 ∧ w.cell? ⟨g, off + i * 3 + 1, none⟩ = some v1 ∧ w.cell? ⟨g, off + i * 3 + 2, none⟩ = some v2 ∧ TmS w S l[i] (.agg #[v0, v1, v2])) → TmsS w S l (some ⟨g, off, none⟩)
  | [], _, _, _, _, _ => trivial
  | t :: l, g, off, hg, hS, h => by
    obtain ⟨v0, v1, v2, h0, h1, h2, ht⟩ := h 0 (Nat.zero_lt_succ _)
    refine ⟨g, off, v0, v1, v2, rfl, hg, hS, by simpa using h0, by simpa using h1, by simpa using h2, ht, tmsS_mk hg hS fun i hi => ?_⟩
    obtain ⟨u0, u1, u2, k0, k1, k2, kt⟩ := h (i + 1) (Nat.succ_lt_succ hi)
    have e : off + (i + 1) * 3 = off + 3 + i * 3 := by omega
    rw [e] at k0 k1 k2
    exact ⟨u0, u1, u2, k0, k1, k2, kt⟩

/-- What lies in such a row is a list of trees. -/
theorem OwnT.rowS {w : World} {B : Nat} {S S' : Nat → Prop} {v : Value} {l : List Tm} (h : OwnT w B S v l) (hs : ∀ k, k < w.heap.size → S k → S' k) (hv : ∀ k, v.ownBlock = some k → S' k) : ∃ a cap, v = .slice a l.length cap ∧ l.length ≤ maxLen ∧ TmsS w S' l a := by
  obtain ⟨cs, hl, hc, ho⟩ := h
  have hcell := ho
  rcases ho.2 with ⟨rfl, h0⟩ | ⟨g, cap, cur, rfl, hb, hg, hle, hcap, _⟩
  · have : l = [] := List.length_eq_zero_iff.1 h0
    subst this
    exact ⟨none, 0, rfl, Nat.zero_le _, trivial⟩
  · refine ⟨_, cap, rfl, Nat.le_trans hle hcap, tmsS_mk (lt_of_block hg) (hv g rfl) fun i hi => ?_⟩
    have hic : i < cs.length := by omega
    have hgi : cs[i]? = some cs[i] := List.getElem?_eq_getElem hic
    have hadd : ∀ j, ((⟨g, 0, none⟩ : Addr).add j) = ⟨g, 0 + j, none⟩ := fun j => by
      unfold Addr.add
      split
      · rename_i h0; simp only [Addr.mk.injEq, true_and, and_true]; omega
      · rfl
    have hf : ∀ (j : Nat) (u : Value), (tmCells cs[i])[j]? = some u → w.cell? ⟨g, 0 + (i * 3 + j), none⟩ = some u := fun j u hu => by
      have := hcell.cells (g := g) rfl (i * 3 + j) u (flatMap_at tmCells 3 (fun _ => rfl) cs i cs[i] hgi j u hu)
      rwa [hadd] at this
    refine ⟨cs[i].1, cs[i].2.1, cs[i].2.2, hf 0 _ rfl, by rw [Nat.add_assoc]; exact hf 1 _ rfl, by rw [Nat.add_assoc]; exact hf 2 _ rfl, ?_⟩
    exact TmS.mono hs _ (hc i cs[i] l[i] hgi (List.getElem?_eq_getElem hi))

/-- A row of trees of the call's own, apart from the trees' rows, which lie in blocks of R. -/
def OwnTT (w : World) (B : Nat) (R : Nat → Prop) (v : Value) (l : List Tm) : Prop := OwnT w B (fun k => R k ∧ v.ownBlock ≠ some k) v l

theorem ownTT_app {w w' : World} {B : Nat} {R : Nat → Prop} {v : Value} {l : List Tm} {t : Tm} {x y z : Value} {cs : List (Value × Value × Value)} {g cap H : Nat} (hl : cs.length = l.length)
    (hc : ∀ (i : Nat) (c : Value × Value × Value) (t : Tm), cs[i]? = some c → l[i]? = some t → TmS w (fun k => R k ∧ v.ownBlock ≠ some k) t (.agg #[c.1, c.2.1, c.2.2])) (ht : TmS w (fun k => R k ∧ v.ownBlock ≠ some k) t (.agg #[x, y, z]))
    (ho : w'.ownsRow B 24 3 (.slice (some ⟨g, 0, none⟩) (l.length + 1) cap) (l.length + 1) (cs.flatMap tmCells ++ [x, y, z])) (hg : w.grownBy w' v.ownBlock) (hat : v.ownBlock = some g ∨ g = H) (hH : w.heap.size = H) :
    OwnTT w' B R (.slice (some ⟨g, 0, none⟩) (l.length + 1) cap) (l ++ [t]) ∧ Turned w w' (fun k => v.ownBlock = some k) := by
  have hT : Turned w w' (fun k => v.ownBlock = some k) := Turned.grown (Turned.refl _ _) hg (fun k _ e => e)
  have hmove : ∀ (u : Tm) (c : Value), TmS w (fun k => R k ∧ v.ownBlock ≠ some k) u c → TmS w' (fun k => R k ∧ (Value.slice (some ⟨g, 0, none⟩) (l.length + 1) cap).ownBlock ≠ some k) u c := fun u c h =>
    TmS.turned hT (fun k _ hk e => hk.2 e) (fun k hk hR => ⟨hR.1, by
      simp only [Value.ownBlock, ne_eq, Option.some.injEq]
      intro e
      rcases hat with h1 | h1
      · rw [e] at h1; exact hR.2 h1
      · omega⟩) u h
  refine ⟨⟨cs ++ [(x, y, z)], by simp [hl], fun i c u h1 h2 => ?_, ?_⟩, hT⟩
  · rcases Nat.lt_or_ge i cs.length with hi | hi
    · rw [List.getElem?_append_left hi] at h1
      rw [List.getElem?_append_left (by omega)] at h2
      exact hmove _ _ (hc i c u h1 h2)
    · rw [List.getElem?_append_right hi] at h1
      rw [List.getElem?_append_right (by omega), ← hl] at h2
      rcases Nat.eq_zero_or_pos (i - cs.length) with h0 | h0
      · rw [h0] at h1 h2
        simp only [List.getElem?_cons_zero, Option.some.injEq] at h1 h2
        subst h1; subst h2
        exact hmove _ _ ht
      · rw [List.getElem?_eq_none (by simp; omega)] at h1
        cases h1
  · rw [List.length_append, List.flatMap_append]
    simpa [tmCells] using ho

/-- One tree more, where it lies in a block of its own. -/
theorem append_term {ops : Array Oper} {rest : List Oper} {o : Oper} {a : Act} {Q : Exit → Act → World → Prop} (w : World) (hgd : o.guard = none) (s x : Operand)
    (ho : o.op = .call { callee := .builtin .append, args := #[s, x], argTypes := #[22, 22] }) (B : Nat) (R : Nat → Prop) (v : Value) (l : List Tm) (t : Tm) (hs : a.eval s = v) (hown : OwnTT w B R v l) (g0 : Nat) (c0 c1 c2 : Value)
    (hx : a.eval x = .slice (some ⟨g0, 0, none⟩) 1 1) (hg : w.heap[g0]? = some (.cells #[c0, c1, c2] 24 (0, 0))) (ht : TmS w (fun k => R k ∧ v.ownBlock ≠ some k) t (.agg #[c0, c1, c2])) (hlen : l.length ≤ 1000000) (hB : B ≤ w.heap.size) (H : Nat) (hH : w.heap.size = H)
    (h : ∀ (g cap : Nat) (w' : World), OwnTT w' B R (.slice (some ⟨g, 0, none⟩) (l.length + 1) cap) (l ++ [t]) → Turned w w' (fun k => v.ownBlock = some k) → (v.ownBlock = some g ∨ g = H) → g < w'.heap.size → wpList Try.prog ops Q rest (a.put o.dst (.slice (some ⟨g, 0, none⟩) (l.length + 1) cap)) w') : wpList Try.prog ops Q (o :: rest) a w := by
  obtain ⟨i0, hi0, hz0, hz1, hz2⟩ := info_parts Try.infoTerm
  obtain ⟨cs, hl, hc, hr⟩ := hown
  obtain ⟨q, cq, hq⟩ := ht.form
  simp only [Value.agg.injEq, Array.mk.injEq, List.cons.injEq, and_true] at hq
  refine wpList_append_lies w hgd s x _ ho B 24 i0 _ 3 40 Try.underlying22 hi0 hz0 hz1 hz2 rfl (by omega) v l.length _ hs hr ⟨g0, 0, none⟩ 1 1 [c0, c1, c2] hx rfl (World.news_of_block hg) (by rw [hq.1, hq.2.1, hq.2.2]; simp [Value.oneCell'])
    (by omega) (by unfold maxLen; omega) (by omega) hB H hH ?_
  intro g cap w' h1 h2 h3 h4
  obtain ⟨h5, h6⟩ := ownTT_app hl hc ht h1 h2 h3 hH
  exact h g cap w' h5 h6 h3 h4

/-- The same at a step of a region that draws. -/
theorem step_append_term {ops : Array Oper} {o : Oper} {a : Act} {K : Act → World → Prop} {Q : Exit → Act → World → Prop} {E : Prop} (w : World) (hgd : o.guard = none) (s x : Operand)
    (ho : o.op = .call { callee := .builtin .append, args := #[s, x], argTypes := #[22, 22] }) (B : Nat) (R : Nat → Prop) (v : Value) (l : List Tm) (t : Tm) (hs : a.eval s = v) (hown : OwnTT w B R v l) (g0 : Nat) (c0 c1 c2 : Value)
    (hx : a.eval x = .slice (some ⟨g0, 0, none⟩) 1 1) (hg : w.heap[g0]? = some (.cells #[c0, c1, c2] 24 (0, 0))) (ht : TmS w (fun k => R k ∧ v.ownBlock ≠ some k) t (.agg #[c0, c1, c2])) (hlen : l.length ≤ 1000000) (hB : B ≤ w.heap.size) (H : Nat) (hH : w.heap.size = H)
    (h : ∀ (g cap : Nat) (w' : World), OwnTT w' B R (.slice (some ⟨g, 0, none⟩) (l.length + 1) cap) (l ++ [t]) → Turned w w' (fun k => v.ownBlock = some k) → (v.ownBlock = some g ∨ g = H) → g < w'.heap.size → K (a.put o.dst (.slice (some ⟨g, 0, none⟩) (l.length + 1) cap)) w') :
    if Region.wanted o (yielded ops a.tmps) = true then Oper.wp Try.prog o a w K Q else E := by
  obtain ⟨i0, hi0, hz0, hz1, hz2⟩ := info_parts Try.infoTerm
  obtain ⟨cs, hl, hc, hr⟩ := hown
  obtain ⟨q, cq, hq⟩ := ht.form
  simp only [Value.agg.injEq, Array.mk.injEq, List.cons.injEq, and_true] at hq
  refine step_append_lies w hgd s x _ ho B 24 i0 _ 3 40 Try.underlying22 hi0 hz0 hz1 hz2 rfl (by omega) v l.length _ hs hr ⟨g0, 0, none⟩ 1 1 [c0, c1, c2] hx rfl (World.news_of_block hg) (by rw [hq.1, hq.2.1, hq.2.2]; simp [Value.oneCell'])
    (by omega) (by unfold maxLen; omega) (by omega) hB H hH ?_
  intro g cap w' h1 h2 h3 h4
  obtain ⟨h5, h6⟩ := ownTT_app hl hc ht h1 h2 h3 hH
  exact h g cap w' h5 h6 h3 h4

/-- Three stores into one block. -/
theorem store3 {w : World} {Z : Nat} {c0 c1 c2 : Value} {t : TypeId} {z : Nat × Nat} (h : w.heap[Z]? = some (.cells #[c0, c1, c2] t z)) (a0 a1 a2 : Value) :
    (((w.setCell ⟨Z, 0, none⟩ a0).setCell ⟨Z, 1, none⟩ a1).setCell ⟨Z, 2, none⟩ a2).heap[Z]? = some (.cells #[a0, a1, a2] t z) ∧
    Turned w (((w.setCell ⟨Z, 0, none⟩ a0).setCell ⟨Z, 1, none⟩ a1).setCell ⟨Z, 2, none⟩ a2) (fun k => k = Z) := by
  refine ⟨?_, ?_⟩
  · have h0 := setCell_block h (i := 0) a0
    have h1 := setCell_block h0 (i := 1) a1
    have h2 := setCell_block h1 (i := 2) a2
    rw [h2]
    rfl
  · exact ((Turned.setCell (D := fun k => k = Z) (Turned.refl w _) (p := ⟨Z, 0, none⟩) (fun _ => rfl) a0).setCell (p := ⟨Z, 1, none⟩) (fun _ => rfl) a1).setCell (p := ⟨Z, 2, none⟩) (fun _ => rfl) a2
end Go.Proofs.Ytljnmjehokijgaa

/- Trees in the places of variables: Replace. -/
namespace Go.Proofs.Ytljnmjehokijgaa
open Go.RowKit

mutual
/-- A number occurs as a variable. -/
def Tm.vin (x : Int) : Tm → Prop
  | .node k n l => if k = 1 then n = x else Tm.vins x l
def Tm.vins (x : Int) : List Tm → Prop
  | [] => False
  | t :: l => t.vin x ∨ Tm.vins x l
end

theorem Tm.vins_mem {x : Int} : ∀ {l : List Tm} {t : Tm}, t ∈ l → t.vin x → Tm.vins x l
  | y :: l, t, h, hx => by
    simp only [Tm.vins]
    rcases List.mem_cons.1 h with rfl | h
    · exact .inl hx
    · exact .inr (Tm.vins_mem h hx)

mutual
/-- Trees in the places of variables. -/
def Tm.repl (l : List Tm) : Tm → Tm
  | .node k n ls => if k = 1 then (l[n.toNat]?).getD (.node 0 0 []) else .node k n (Tm.repls l ls)
def Tm.repls (l : List Tm) : List Tm → List Tm
  | [] => []
  | t :: ls => t.repl l :: Tm.repls l ls
end

theorem Tm.repls_map (l : List Tm) : ∀ ls : List Tm, Tm.repls l ls = ls.map (Tm.repl l)
  | [] => rfl
  | t :: ls => by simp only [Tm.repls, List.map_cons, Tm.repls_map l ls]

theorem Tm.sizes_len : ∀ l : List Tm, l.length ≤ Tm.sizes l
  | [] => Nat.le_refl _
  | .node _ _ m :: l => by have := Tm.sizes_len l; simp only [List.length_cons, Tm.sizes, Tm.size]; omega

theorem repls_take (l ls : List Tm) (k : Nat) (hk : k < ls.length) : Tm.repls l (ls.take (k + 1)) = Tm.repls l (ls.take k) ++ [ls[k].repl l] := by
  rw [Tm.repls_map, Tm.repls_map, List.take_succ_eq_append_getElem hk, List.map_append]
  rfl

/-- What a function that makes a tree gives: its rows lie in blocks of R, or are new. -/
def TmPost (R : Nat → Prop) (w : World) (t : Tm) (e : Ending) (w' : World) : Prop := ∃ v, e = .returned v ∧ TmS w' (fun g => R g ∨ w.heap.size ≤ g) t v ∧ Turned w w' (fun _ => False)

/-- As tmsIn_at2, of trees whose rows lie in blocks of S. -/
theorem tmsS_at2 {w : World} {S : Nat → Prop} : ∀ {l : List Tm} {a : Option Addr}, TmsS w S l a → ∀ i (hi : i < l.length), ∃ g off sa sc, a = some ⟨g, off, none⟩ ∧ g < w.heap.size ∧
    w.cell? ⟨g, off + i * 3, none⟩ = some (.int .i64 l[i].kind) ∧ w.cell? ⟨g, off + i * 3 + 1, none⟩ = some (.int .i64 l[i].num) ∧ w.cell? ⟨g, off + i * 3 + 2, none⟩ = some (.slice sa l[i].kids.length sc) ∧
    TmS w S l[i] (.agg #[.int .i64 l[i].kind, .int .i64 l[i].num, .slice sa l[i].kids.length sc])
  | [], _, _, i, h => absurd h (Nat.not_lt_zero _)
  | t :: l, a, h, 0, _ => by
    obtain ⟨g, off, v0, v1, v2, ha, hg, -, h0, h1, h2, ht, -⟩ := h
    obtain ⟨sa, sc, hv⟩ := ht.form
    simp only [Value.agg.injEq, Array.mk.injEq, List.cons.injEq, and_true] at hv
    obtain ⟨rfl, rfl, rfl⟩ := hv
    exact ⟨g, off, sa, sc, ha, hg, by simpa using h0, by simpa using h1, by simpa using h2, ht⟩
  | t :: l, a, h, i + 1, hi => by
    obtain ⟨g, off, v0, v1, v2, ha, hg, -, -, -, -, -, hl⟩ := h
    obtain ⟨g', off', sa, sc, ha', hg', k0, k1, k2, kt⟩ := tmsS_at2 hl i (Nat.lt_of_succ_lt_succ hi)
    simp only [Option.some.injEq, Addr.mk.injEq, and_true] at ha'
    obtain ⟨rfl, rfl⟩ := ha'
    have e : off + 3 + i * 3 = off + (i + 1) * 3 := by omega
    rw [e] at k0 k1 k2
    exact ⟨g, off, sa, sc, ha, hg, k0, k1, k2, kt⟩

theorem results_term {fn : Func} {p : Tmp} (h : fn.results = #[.cell p 24]) {tmps : Array Value} {W : World} {Z : Nat} {c0 c1 c2 : Value} {z : Nat × Nat} (hk : W.heap[Z]? = some (.cells #[c0, c1, c2] 24 z))
    (hp : tmps.getD p undef = .pointer (some ⟨Z, 0, none⟩)) : (results fn tmps).run Try.prog W = .ok (.agg #[c0, c1, c2]) W :=
  results_cell_row h tmps W Z _ #[c0, c1, c2] z _ hp hk Try.underlying24 rfl (by kernel_rfl)

/-- Before one tree more is put behind: it lies in a block of its own. -/
theorem put_one {R : Nat → Prop} {wr w1 : World} {B : Nat} {u c0 c1 c2 : Value} {l : List Tm} {t : Tm} (hor : OwnTT wr B (fun g => R g ∨ B ≤ g) u l) (t1 : Turned wr w1 (fun _ => False))
    (hv : TmS w1 (fun g => R g ∨ wr.heap.size ≤ g) t (.agg #[c0, c1, c2])) (h0 : ∀ k, R k → k < B) (hB : B ≤ wr.heap.size) :
    OwnTT (w1.alloc (.cells #[c0, c1, c2] 24)) B (fun g => R g ∨ B ≤ g) u l ∧
    TmS (w1.alloc (.cells #[c0, c1, c2] 24)) (fun k => (R k ∨ B ≤ k) ∧ u.ownBlock ≠ some k) t (.agg #[c0, c1, c2]) ∧ B ≤ (w1.alloc (.cells #[c0, c1, c2] 24)).heap.size := by
  have ta : Turned w1 (w1.alloc (.cells #[c0, c1, c2] 24)) (fun _ => False) := (Turned.refl _ _).alloc _
  have h2 : ∀ k, k < w1.heap.size → (R k ∨ wr.heap.size ≤ k) → (R k ∨ B ≤ k) ∧ u.ownBlock ≠ some k := by
    intro k _ hk
    refine ⟨?_, fun e => ?_⟩
    · rcases hk with h | h
      · exact .inl h
      · exact .inr (by omega)
    · have := hor.own_le e
      rcases hk with h | h
      · have := h0 _ h
        omega
      · omega
  have h3 := (t1.trans ta (fun _ _ hf => hf)).size
  exact ⟨OwnT.turned hor (t1.trans ta (fun _ _ hf => hf)) (fun _ _ hf => hf) (fun _ _ _ hf => hf) (fun _ _ h => h), TmS.turned ta (fun _ _ _ hf => hf) h2 _ hv, by omega⟩

/-- Behind it: the row's value is stored into a block that is older than the row. -/
theorem put_two {R : Nat → Prop} {wr w2 w5 : World} {B Z g cap n : Nat} {u x y : Value} {l : List Tm} (ho : OwnTT w5 B (fun g => R g ∨ B ≤ g) (.slice (some ⟨g, 0, none⟩) n cap) l) (t2 : Turned wr w2 (fun _ => False)) (t5 : Turned w2 w5 (fun k => u.ownBlock = some k))
    (hu : ∀ k, u.ownBlock = some k → B ≤ k) (hZ : Z < B) (h0 : ∀ k, R k → k < Z) (hk : wr.heap[Z]? = some (.cells #[x, y, u] 24 (0, 0))) (v : Value) :
    w5.heap[Z]? = some (.cells #[x, y, u] 24 (0, 0)) ∧ OwnTT (w5.setCell ⟨Z, 2, none⟩ v) B (fun g => R g ∨ B ≤ g) (.slice (some ⟨g, 0, none⟩) n cap) l ∧
    (w5.setCell ⟨Z, 2, none⟩ v).heap[Z]? = some (.cells #[x, y, v] 24 (0, 0)) := by
  have h2 := (t2.block Z (lt_of_block hk) (fun hf => hf)).trans hk
  have h5 : w5.heap[Z]? = some (.cells #[x, y, u] 24 (0, 0)) := (t5.block Z (lt_of_block h2) (fun e => by have := hu _ e; omega)).trans h2
  have ts : Turned w5 (w5.setCell ⟨Z, 2, none⟩ v) (fun k => k = Z) := Turned.setCell (D := fun k => k = Z) (Turned.refl _ _) (p := ⟨Z, 2, none⟩) (fun _ => rfl) v
  refine ⟨h5, OwnT.turned ho ts (fun k hk e => by have := (ho.own_le hk).1; omega) (fun k _ hk e => by rcases hk.1 with h | h; (have := h0 _ h; omega); omega) (fun _ _ h => h), ?_⟩
  have := setCell_block h5 (i := 2) v
  rw [this]
  rfl

/-- What else there was stays. -/
theorem put_three {wr w2 w5 : World} {B Z : Nat} {u : Value} (t2 : Turned wr w2 (fun _ => False)) (t5 : Turned w2 w5 (fun k => u.ownBlock = some k)) (hu : ∀ k, u.ownBlock = some k → B ≤ k) (hZ : Z < B) (v : Value) :
    (∀ (j : Nat) (o : Obj), j < B → j ≠ Z → wr.heap[j]? = some o → (w5.setCell ⟨Z, 2, none⟩ v).heap[j]? = some o) ∧ (∀ w : World, Turned w wr (fun _ => False) → w.heap.size ≤ Z → Turned w (w5.setCell ⟨Z, 2, none⟩ v) (fun _ => False)) := by
  have ts : Turned w5 (w5.setCell ⟨Z, 2, none⟩ v) (fun k => k = Z) := Turned.setCell (D := fun k => k = Z) (Turned.refl _ _) (p := ⟨Z, 2, none⟩) (fun _ => rfl) v
  refine ⟨fun j o hj hne ho => ?_, fun w t hz => ?_⟩
  · have h2 := (t2.block j (lt_of_block ho) (fun hf => hf)).trans ho
    have h5 := (t5.block j (lt_of_block h2) (fun e => by have := hu _ e; omega)).trans h2
    exact (ts.block j (lt_of_block h5) hne).trans h5
  · exact ((t.trans t2 (fun _ _ hf => hf)).trans t5 (fun i hi e => by have := hu _ e; omega)).trans ts (fun i hi e => by omega)

end Go.Proofs.Ytljnmjehokijgaa

/- fits, Subst. -/
namespace Go.Proofs.Ytljnmjehokijgaa
open Go.RowKit

/-- No tree. -/
def Tm.zero : Tm := .node 0 0 []

theorem zeroS (w : World) (S : Nat → Prop) : TmS w S Tm.zero (.agg #[.int .i64 0, .int .i64 0, .slice none 0 0]) := ⟨none, 0, rfl, Nat.zero_le _, trivial⟩

/-- A tree, unless it is too great. -/
def Tm.fit (t : Tm) : Tm × Int := if t.isTree = true then (t, 0) else (Tm.zero, 2)

theorem results_term_err {fn : Func} {p q : Tmp} (h : fn.results = #[.cell p 24, .tmp q]) {tmps : Array Value} {W : World} {Z : Nat} {c0 c1 c2 x : Value} {z : Nat × Nat} (hk : W.heap[Z]? = some (.cells #[c0, c1, c2] 24 z))
    (hp : tmps.getD p undef = .pointer (some ⟨Z, 0, none⟩)) (hq : tmps.getD q undef = x) : (results fn tmps).run Try.prog W = .ok (.tuple #[.agg #[c0, c1, c2], x]) W := by
  have e0 : W.cell? ⟨Z, 0, none⟩ = some c0 := by simp [World.cell?, hk]
  have e1 : W.cell? ⟨Z, 1, none⟩ = some c1 := by simp [World.cell?, hk]
  have e2 : W.cell? ⟨Z, 2, none⟩ = some c2 := by simp [World.cell?, hk]
  subst hq
  have hp' : tmps[p]?.getD undef = .pointer (some ⟨Z, 0, none⟩) := by simpa using hp
  simp [results, h, go_sem, hp', e0, e1, e2]

mutual
theorem Tm.vars_mem (x : Int) : ∀ (t : Tm) (out : List Int), x ∈ t.vars out ↔ x ∈ out ∨ t.vin x
  | .node k n l, out => by
    simp only [Tm.vars, Tm.vin]
    split
    · split
      · rename_i h
        have hm : n ∈ out := by simpa [inB] using h
        constructor
        · intro h1; exact .inl h1
        · rintro (h1 | rfl)
          · exact h1
          · exact hm
      · simp only [List.mem_append, List.mem_singleton]
        constructor
        · rintro (h1 | rfl)
          · exact .inl h1
          · exact .inr rfl
        · rintro (h1 | rfl)
          · exact .inl h1
          · exact .inr rfl
    · exact Tm.varss_mem x l out
theorem Tm.varss_mem (x : Int) : ∀ (l : List Tm) (out : List Int), x ∈ Tm.varss l out ↔ x ∈ out ∨ Tm.vins x l
  | [], out => by simp [Tm.varss, Tm.vins]
  | t :: l, out => by
    simp only [Tm.varss, Tm.vins]
    rw [Tm.varss_mem x l, Tm.vars_mem x t]
    constructor
    · rintro ((h | h) | h)
      · exact .inl h
      · exact .inr (.inl h)
      · exact .inr (.inr h)
    · rintro (h | h | h)
      · exact .inl (.inl h)
      · exact .inl (.inr h)
      · exact .inr h
end

mutual
theorem Tm.vin_nonneg (x : Int) : ∀ (t : Tm), t.right = true → t.vin x → 0 ≤ x
  | .node k n l, h, hx => by
    simp only [Tm.right, Bool.and_eq_true] at h
    simp only [Tm.vin] at hx
    split at hx
    · subst hx
      have := h.1.1.1.1
      simp only [Bool.not_eq_true', decide_eq_false_iff_not] at this
      omega
    · exact Tm.vins_nonneg x l h.2 hx
theorem Tm.vins_nonneg (x : Int) : ∀ (l : List Tm), Tm.rights l = true → Tm.vins x l → 0 ≤ x
  | t :: l, h, hx => by
    simp only [Tm.rights, Bool.and_eq_true] at h
    simp only [Tm.vins] at hx
    rcases hx with hx | hx
    · exact Tm.vin_nonneg x t h.1 hx
    · exact Tm.vins_nonneg x l h.2 hx
end

theorem mostI_le : ∀ (l : List Int) (n : Int), n ≤ mostI l n ∧ ∀ x ∈ l, x ≤ mostI l n
  | [], n => ⟨Int.le_refl _, fun _ h => (List.not_mem_nil h).elim⟩
  | y :: l, n => by
    have h := mostI_le l (max n y)
    simp only [mostI]
    refine ⟨by have := h.1; omega, fun x hx => ?_⟩
    rcases List.mem_cons.1 hx with rfl | hx
    · have := h.1; omega
    · exact h.2 x hx

/-- The greatest variable of a tree. -/
def Tm.top (t : Tm) : Int := mostI (varsOf [t]) (-1)

theorem Tm.vin_top {t : Tm} (h : t.isTree = true) {x : Int} (hx : t.vin x) : 0 ≤ x ∧ x ≤ t.top := by
  have h2 := h
  simp only [Tm.isTree, Bool.and_eq_true] at h2
  refine ⟨Tm.vin_nonneg x t h2.2 hx, ?_⟩
  refine (mostI_le _ _).2 x ?_
  have : varsOf [t] = t.vars [] := by simp [varsOf, h, Tm.varss]
  rw [this, Tm.vars_mem]
  exact .inr hx

/-- What Subst answers. -/
def Tm.subst (t : Tm) (l : List Tm) : Tm × Int := if t.isTree = true ∧ l.all Tm.isTree = true then (if (l.length : Int) ≤ t.top then (Tm.zero, 1) else (t.repl l).fit) else (Tm.zero, 4)

/-- A tree and an error are given. -/
def TeIn (X : Tm × Int) (e : Ending) (w' : World) : Prop := ∃ v, e = .returned (.tuple #[v, .int .i64 X.2]) ∧ TmIn w' X.1 v

/-- The zero tree and an error, stored into the result's cells. -/
theorem te_zero {w w1 : World} {Z : Nat} {c0 c1 c2 : Value} {t : TypeId} (hk : w1.heap[Z]? = some (.cells #[c0, c1, c2] t (0, 0))) (ht : Turned w w1 (fun _ => False)) (hZ : w.heap.size ≤ Z) (er : Int) :
    TeIn (Tm.zero, er) (.returned (.tuple #[.agg #[.int .i64 0, .int .i64 0, .slice none 0 0], .int .i64 er])) (((w1.setCell ⟨Z, 0, none⟩ (.int .i64 0)).setCell ⟨Z, 1, none⟩ (.int .i64 0)).setCell ⟨Z, 2, none⟩ (.slice none 0 0)) ∧
    Turned w (((w1.setCell ⟨Z, 0, none⟩ (.int .i64 0)).setCell ⟨Z, 1, none⟩ (.int .i64 0)).setCell ⟨Z, 2, none⟩ (.slice none 0 0)) (fun _ => False) ∧
    (((w1.setCell ⟨Z, 0, none⟩ (.int .i64 0)).setCell ⟨Z, 1, none⟩ (.int .i64 0)).setCell ⟨Z, 2, none⟩ (.slice none 0 0)).heap[Z]? = some (.cells #[.int .i64 0, .int .i64 0, .slice none 0 0] t (0, 0)) := by
  obtain ⟨g1, g2⟩ := store3 hk (.int .i64 0) (.int .i64 0) (.slice none 0 0)
  exact ⟨⟨_, rfl, TmS.toIn _ (zeroS _ (fun _ => True))⟩, ht.trans g2 (fun i hi e => by omega), g1⟩

end Go.Proofs.Ytljnmjehokijgaa

/- Trees in the places of variables, by a function; rows that are filled from left to right. -/
namespace Go.Proofs.Ytljnmjehokijgaa
open Go.RowKit

mutual
/-- What mk says in the places of variables. -/
def Tm.fill (mk : Int → Tm) : Tm → Tm
  | .node k n l => if k = 1 then mk n else .node k n (Tm.fills mk l)
def Tm.fills (mk : Int → Tm) : List Tm → List Tm
  | [] => []
  | t :: l => t.fill mk :: Tm.fills mk l
end

theorem Tm.fills_map (mk : Int → Tm) : ∀ l : List Tm, Tm.fills mk l = l.map (Tm.fill mk)
  | [] => rfl
  | t :: l => by simp only [Tm.fills, List.map_cons, Tm.fills_map mk l]

theorem fills_len (mk : Int → Tm) (l : List Tm) : (Tm.fills mk l).length = l.length := by rw [Tm.fills_map, List.length_map]

theorem fills_take (mk : Int → Tm) (l : List Tm) (k : Nat) (hk : k < l.length) : Tm.fills mk (l.take (k + 1)) = Tm.fills mk (l.take k) ++ [l[k].fill mk] := by
  rw [Tm.fills_map, Tm.fills_map, List.take_succ_eq_append_getElem hk, List.map_append]
  rfl

/-- A variable alone. -/
def Tm.leaf (n : Int) : Tm := .node 1 n []

mutual
/-- Variables in the places of variables: the tree that there was. -/
theorem Tm.fill_leaf : ∀ t : Tm, t.right = true → t.fill Tm.leaf = t
  | .node k n l, h => by
    simp only [Tm.right, Bool.and_eq_true] at h
    simp only [Tm.fill]
    split
    · rename_i hk
      subst hk
      have h2 := h.1.1.2
      simp only [beq_self_eq_true, Bool.true_and, Bool.not_eq_true', decide_eq_false_iff_not] at h2
      have : l = [] := List.length_eq_zero_iff.1 (by omega)
      subst this
      rfl
    · rw [Tm.fills_leaf l h.2]
theorem Tm.fills_leaf : ∀ l : List Tm, Tm.rights l = true → Tm.fills Tm.leaf l = l
  | [], _ => rfl
  | t :: l, h => by
    simp only [Tm.rights, Bool.and_eq_true] at h
    simp only [Tm.fills, Tm.fill_leaf t h.1, Tm.fills_leaf l h.2]
end

mutual
/-- What is said alike of all variables fills alike. -/
theorem Tm.fill_congr (mk mk' : Int → Tm) : ∀ t : Tm, (∀ x, t.vin x → mk x = mk' x) → t.fill mk = t.fill mk'
  | .node k n l, h => by
    simp only [Tm.fill]
    split
    · rename_i hk
      exact h n (by simp [Tm.vin, hk])
    · rename_i hk
      rw [Tm.fills_congr mk mk' l (fun x hx => h x (by simp [Tm.vin, hk, hx]))]
theorem Tm.fills_congr (mk mk' : Int → Tm) : ∀ l : List Tm, (∀ x, Tm.vins x l → mk x = mk' x) → Tm.fills mk l = Tm.fills mk' l
  | [], _ => rfl
  | t :: l, h => by
    simp only [Tm.fills]
    rw [Tm.fill_congr mk mk' t (fun x hx => h x (.inl hx)), Tm.fills_congr mk mk' l (fun x hx => h x (.inr hx))]
end

mutual
theorem Tm.fill_repl (l : List Tm) : ∀ t : Tm, t.fill (fun n => (l[n.toNat]?).getD (.node 0 0 [])) = t.repl l
  | .node k n ls => by simp only [Tm.fill, Tm.repl, Tm.fills_repl l ls]
theorem Tm.fills_repl (l : List Tm) : ∀ ls : List Tm, Tm.fills (fun n => (l[n.toNat]?).getD (.node 0 0 [])) ls = Tm.repls l ls
  | [] => rfl
  | t :: ls => by simp only [Tm.fills, Tm.repls, Tm.fill_repl l t, Tm.fills_repl l ls]
end

/-- Three stores into a row. -/
def set3 (w : World) (H i : Nat) (a0 a1 a2 : Value) : World := ((w.setCell ⟨H, i, none⟩ a0).setCell ⟨H, i + 1, none⟩ a1).setCell ⟨H, i + 2, none⟩ a2

theorem set3_turned (w : World) (H i : Nat) (a0 a1 a2 : Value) : Turned w (set3 w H i a0 a1 a2) (fun k => k = H) :=
  ((Turned.setCell (D := fun k => k = H) (Turned.refl w _) (p := ⟨H, i, none⟩) (fun _ => rfl) a0).setCell (p := ⟨H, i + 1, none⟩) (fun _ => rfl) a1).setCell (p := ⟨H, i + 2, none⟩) (fun _ => rfl) a2

theorem set3_block {w : World} {H i : Nat} {c : Array Value} {t : TypeId} {z : Nat × Nat} (h : w.heap[H]? = some (.cells c t z)) (a0 a1 a2 : Value) :
    (set3 w H i a0 a1 a2).heap[H]? = some (.cells (((c.setIfInBounds i a0).setIfInBounds (i + 1) a1).setIfInBounds (i + 2) a2) t z) :=
  setCell_block (setCell_block (setCell_block h (i := i) a0) (i := i + 1) a1) (i := i + 2) a2

/-- A block holds m trees' cells; the first ones are those of l, whose own rows lie in blocks of S. -/
def FillRow (w : World) (H : Nat) (S : Nat → Prop) (m : Nat) (l : List Tm) : Prop :=
  ∃ c : Array Value, w.heap[H]? = some (.cells c 24 (0, 0)) ∧ c.size = m * 3 ∧
    ∀ (i : Nat) (t : Tm), l[i]? = some t → ∃ v0 v1 v2, c[i * 3]? = some v0 ∧ c[i * 3 + 1]? = some v1 ∧ c[i * 3 + 2]? = some v2 ∧ TmS w S t (.agg #[v0, v1, v2])

theorem FillRow.turned {w w' : World} {H m : Nat} {S D : Nat → Prop} {l : List Tm} (h : FillRow w H S m l) (t : Turned w w' D) (hH : ¬ D H) (hd : ∀ k, k < w.heap.size → S k → ¬ D k) : FillRow w' H S m l := by
  obtain ⟨c, h1, h2, h3⟩ := h
  refine ⟨c, (t.block H (lt_of_block h1) hH).trans h1, h2, fun i u hu => ?_⟩
  obtain ⟨v0, v1, v2, a0, a1, a2, a3⟩ := h3 i u hu
  exact ⟨v0, v1, v2, a0, a1, a2, TmS.turned t hd (fun _ _ h => h) u a3⟩

theorem FillRow.step {w w' : World} {H m : Nat} {S : Nat → Prop} {l : List Tm} (h : FillRow w H S m l) (t : Turned w w' (fun _ => False)) : FillRow w' H S m l := h.turned t (fun hf => hf) (fun _ _ _ hf => hf)

theorem FillRow.put {w : World} {H m : Nat} {S : Nat → Prop} {l : List Tm} {t : Tm} {a0 a1 a2 : Value} (h : FillRow w H S m l) (hS : ¬ S H) (hl : l.length < m) (ht : TmS w S t (.agg #[a0, a1, a2])) :
    FillRow (set3 w H (l.length * 3) a0 a1 a2) H S m (l ++ [t]) := by
  obtain ⟨c, h1, h2, h3⟩ := h
  have hT := set3_turned w H (l.length * 3) a0 a1 a2
  have hd : ∀ k, k < w.heap.size → S k → ¬ k = H := fun k _ hk e => hS (e ▸ hk)
  refine ⟨_, set3_block h1 a0 a1 a2, by simp [h2], fun i u hu => ?_⟩
  rcases Nat.lt_trichotomy i l.length with hi | hi | hi
  · rw [List.getElem?_append_left hi] at hu
    obtain ⟨v0, v1, v2, b0, b1, b2, b3⟩ := h3 i u hu
    refine ⟨v0, v1, v2, ?_, ?_, ?_, TmS.turned hT hd (fun _ _ h => h) u b3⟩
    · rw [Array.getElem?_setIfInBounds_ne (by omega), Array.getElem?_setIfInBounds_ne (by omega), Array.getElem?_setIfInBounds_ne (by omega)]; exact b0
    · rw [Array.getElem?_setIfInBounds_ne (by omega), Array.getElem?_setIfInBounds_ne (by omega), Array.getElem?_setIfInBounds_ne (by omega)]; exact b1
    · rw [Array.getElem?_setIfInBounds_ne (by omega), Array.getElem?_setIfInBounds_ne (by omega), Array.getElem?_setIfInBounds_ne (by omega)]; exact b2
  · subst hi
    rw [List.getElem?_append_right (Nat.le_refl _), Nat.sub_self] at hu
    simp only [List.getElem?_cons_zero, Option.some.injEq] at hu
    subst hu
    refine ⟨a0, a1, a2, ?_, ?_, ?_, TmS.turned hT hd (fun _ _ h => h) t ht⟩
    · rw [Array.getElem?_setIfInBounds_ne (by omega), Array.getElem?_setIfInBounds_ne (by omega), Array.getElem?_setIfInBounds_self_of_lt (by omega)]
    · rw [Array.getElem?_setIfInBounds_ne (by omega), Array.getElem?_setIfInBounds_self_of_lt (by simp; omega)]
    · rw [Array.getElem?_setIfInBounds_self_of_lt (by simp; omega)]
  · rw [List.getElem?_eq_none (by simp; omega)] at hu
    cases hu

theorem FillRow.rows {w : World} {H m : Nat} {S S' : Nat → Prop} {l : List Tm} (h : FillRow w H S m l) (hs : ∀ k, k < w.heap.size → S k → S' k) (hH : S' H) : TmsS w S' l (some ⟨H, 0, none⟩) := by
  obtain ⟨c, h1, h2, h3⟩ := h
  refine tmsS_mk (lt_of_block h1) hH fun i hi => ?_
  obtain ⟨v0, v1, v2, b0, b1, b2, b3⟩ := h3 i l[i] (List.getElem?_eq_getElem hi)
  refine ⟨v0, v1, v2, ?_, ?_, ?_, TmS.mono hs _ b3⟩
  · simp only [World.cell?, h1, Nat.zero_add]; exact b0
  · simp only [World.cell?, h1, Nat.zero_add]; exact b1
  · simp only [World.cell?, h1, Nat.zero_add]; exact b2
end Go.Proofs.Ytljnmjehokijgaa

/- visit: each node of a tree shown to a function value that keeps a state. -/
namespace Go.Proofs.Ytljnmjehokijgaa
open Go.RowKit

/-- Boxes of trees stay. -/
def KeepsT (w w' : World) : Prop := w.heap.size ≤ w'.heap.size ∧ ∀ (b : Nat) (c : Array Value), w.heap[b]? = some (.cells c 24 (0, 0)) → w'.heap[b]? = some (.cells c 24 (0, 0))

theorem KeepsT.refl (w : World) : KeepsT w w := ⟨Nat.le_refl _, fun _ _ h => h⟩
theorem KeepsT.trans {a b c : World} (h : KeepsT a b) (k : KeepsT b c) : KeepsT a c := ⟨Nat.le_trans h.1 k.1, fun i x hx => k.2 i x (h.2 i x hx)⟩
theorem KeepsT.of {a b : World} (h : Turned a b (fun _ => False)) : KeepsT a b := ⟨h.size, fun i _ hx => (h.block i (lt_of_block hx) (fun hf => hf)).trans hx⟩

/-- A tree's box. -/
theorem KeepsT.box {w W V : World} {x y z : Value} (hW : W = w.alloc (.cells #[x, y, z] 24)) (h : KeepsT W V) :
    V.heap[w.heap.size]? = some (.cells #[x, y, z] 24 (0, 0)) ∧ V.cell? ⟨w.heap.size, 0, none⟩ = some x ∧ V.cell? ⟨w.heap.size, 1, none⟩ = some y ∧ V.cell? ⟨w.heap.size, 2, none⟩ = some z ∧ w.heap.size < V.heap.size := by
  have h1 := h.2 _ _ (by rw [hW]; exact heap_alloc_new w (.cells #[x, y, z] 24))
  refine ⟨h1, ?_, ?_, ?_, lt_of_block h1⟩ <;> simp [World.cell?, h1]

/-- A function value that keeps a state is called on a node. -/
structure Looks {σ : Type} (w0 : World) (g : FuncId) (caps : Array Value) (f : σ → Tm → σ × Bool) (I : σ → World → Prop) (Q : σ → Nat → Prop) (G : Tm → Prop) : Prop where
  run : ∀ (x : Value) (w : World), (callFunc g (#[x] ++ caps)).run Try.prog w = .ok (.enter g (#[x] ++ caps)) w
  old : ∀ s w, I s w → Turned w0 w (fun _ => False)
  step : ∀ s w w', I s w → Turned w w' (fun _ => False) → I s w'
  less : ∀ s n, Q s (n + 1) → Q s n
  next : ∀ s t n, Q s (n + 1) → Q (f s t).1 n
  kids : ∀ k n l, G (.node k n l) → ∀ t ∈ l, G t
  call : ∀ s n t v w, Q s (n + 1) → G t → TmIn w0 t v → I s w → Calls Try.prog g (#[v] ++ caps) w fun e w' => e = .returned (.bool (f s t).2) ∧ I (f s t).1 w' ∧ KeepsT w w'

theorem Looks.lessN {σ : Type} {w0 : World} {g : FuncId} {caps : Array Value} {f : σ → Tm → σ × Bool} {I : σ → World → Prop} {Q : σ → Nat → Prop} {G : Tm → Prop} (h : Looks w0 g caps f I Q G) (s : σ) : ∀ (k n : Nat), Q s (n + k) → Q s n
  | 0, _, hq => hq
  | k + 1, n, hq => h.lessN s k n (h.less _ _ hq)

theorem Looks.lessL {σ : Type} {w0 : World} {g : FuncId} {caps : Array Value} {f : σ → Tm → σ × Bool} {I : σ → World → Prop} {Q : σ → Nat → Prop} {G : Tm → Prop} (h : Looks w0 g caps f I Q G) (s : σ) {m n : Nat} (hmn : m ≤ n) (hq : Q s n) : Q s m := by
  obtain ⟨k, rfl⟩ := Nat.exists_eq_add_of_le hmn
  exact h.lessN s k m hq

set_option maxRecDepth 100000 in
set_option maxHeartbeats 1600000 in
theorem visit_any {σ : Type} (w0 : World) (g : FuncId) (caps : Array Value) (f : σ → Tm → σ × Bool) (I : σ → World → Prop) (Q : σ → Nat → Prop) (G : Tm → Prop) (hL : Looks w0 g caps f I Q G) :
    ∀ (ta : Tm) (va : Value) (s : σ) (m : Nat) (w : World), TmIn w0 ta va → G ta → I s w → Q s (ta.size + m) →
    Calls Try.prog 50 #[va, .func (.func g) #[] caps] w fun e w' => e = .returned (.bool (ta.visit f s).2) ∧ I (ta.visit f s).1 w' ∧ KeepsT w w' ∧ Q (ta.visit f s).1 m := by
  have HL := Lib.hid hL
  clear hL
  intro ta
  refine Tm.ind (P := fun ta => ∀ (va : Value) (s : σ) (m : Nat) (w : World), TmIn w0 ta va → G ta → I s w → Q s (ta.size + m) →
    Calls Try.prog 50 #[va, .func (.func g) #[] caps] w fun e w' => e = .returned (.bool (ta.visit f s).2) ∧ I (ta.visit f s).1 w' ∧ KeepsT w w' ∧ Q (ta.visit f s).1 m) ?_ ta
  clear ta
  intro ka na la ih va s m w ha hG hI hQ
  have ha2 := ha
  obtain ⟨aa, ca, rfl, hla, ra⟩ := ha2
  have hla2 := hla
  unfold maxLen at hla2
  obtain ⟨W, hW, tW, -⟩ := box1 w (.int .i64 ka) (.int .i64 na) (.slice aa la.length ca) 24
  obtain ⟨-, c0, c1, c2, lW⟩ := KeepsT.box hW (KeepsT.refl W)
  have hIW := HL.out.step _ _ _ hI tW
  have hq1 : Q s ((Tm.sizes la + m) + 1) := by simp only [Tm.size] at hQ; rwa [show Tm.sizes la + 1 + m = Tm.sizes la + m + 1 by omega] at hQ
  have hcall := HL.out.call s _ _ _ W hq1 hG ha hIW
  have hq2 := HL.out.next s (.node ka na la) _ hq1
  have hrun := HL.out.run (.agg #[.int .i64 ka, .int .i64 na, .slice aa la.length ca])
  have hkid := HL.out.kids _ _ _ hG
  have hv : (Tm.node ka na la).visit f s = if (f s (.node ka na la)).2 = true then Tm.visits f la (f s (.node ka na la)).1 else ((f s (.node ka na la)).1, false) := by simp only [Tm.visit]
  rw [hv]
  generalize hX : f s (.node ka na la) = X at *
  obtain ⟨s1, b1⟩ := X
  simp only at hcall hq2 ⊢
  have Hcall := Lib.hid hcall
  have HW := Lib.hid hW
  have TW := Lib.hid (KeepsT.of tW)
  have Ih := Lib.hid ih
  have Ra := Lib.hid ra
  have Hq2 := Lib.hid hq2
  have Hkid := Lib.hid hkid
  clear hcall hW tW ih ra ha hG hI hQ hIW hq1 hq2 hkid hv hX
  go_enter Try.func50, Try.ntmps50
  go_wp2_with fail
  rw [← HW.out]
  refine Hcall.out.mono ?_
  rintro e w1 ⟨rfl, hI1, k1⟩
  have HI1 := Lib.hid hI1
  have K1 := Lib.hid k1
  clear hI1 c0 c1 c2 lW hrun
  cases b1
  · simp only
    go_wp2
    go_ret
    exact ⟨rfl, HI1.out, TW.out.trans K1.out, HL.out.lessL _ (by omega) Hq2.out⟩
  simp only
  obtain ⟨-, -, -, c2, lW⟩ := KeepsT.box HW.out k1
  clear k1
  go_wp2
  clear c2 lW
  go_loopw [14] (fun i wr => ∃ k : Nat, k ≤ la.length ∧ i = .int .i64 k ∧ (Tm.visits f (la.take k) s1).2 = true ∧ I (Tm.visits f (la.take k) s1).1 wr ∧ KeepsT W wr ∧ Q (Tm.visits f (la.take k) s1).1 (Tm.sizes (la.drop k) + m)) (fun i _ => la.length - (intOf i).toNat)
  case atStart => exact ⟨0, Nat.zero_le _, rfl, rfl, HI1.out, K1.out, Hq2.out⟩
  case round =>
    obtain ⟨k, hk, rfl, htk, hIr, hkr, hqr⟩ := hrel
    by_cases hlt : k < la.length
    · have hki : (k : Int) < (la.length : Int) := by omega
      have hor := HL.out.old _ _ hIr
      obtain ⟨ga, oa, sa, sc, rfl, lga, xa0, xa1, xa2, xat⟩ := tmsIn_at2 Ra.out k hlt
      have lga' : ga < wr.heap.size := Nat.lt_of_lt_of_le lga hor.size
      have p0 := (hor.cell (p := ⟨ga, oa + k * 3, none⟩) lga (fun hf => hf)).trans xa0
      have p1 := (hor.cell (p := ⟨ga, oa + k * 3 + 1, none⟩) lga (fun hf => hf)).trans xa1
      have p2 := (hor.cell (p := ⟨ga, oa + k * 3 + 2, none⟩) lga (fun hf => hf)).trans xa2
      obtain ⟨U, hU, tU, hCU⟩ := box1 wr (.int .i64 la[k].kind) (.int .i64 la[k].num) (.slice sa la[k].kids.length sc) 24
      obtain ⟨u0, u1, u2, lU⟩ := hCU U (Turned.refl _ _)
      have hIU := HL.out.step _ _ _ hIr tU
      have hsn : Tm.visits f (la.take (k + 1)) s1 = la[k].visit f (Tm.visits f (la.take k) s1).1 := by
        rw [List.take_succ_eq_append_getElem hlt, Tm.visits_snoc, if_pos htk]
      have hst : (Tm.visits f (la.take (k + 1)) s1).2 = false → Tm.visits f la s1 = Tm.visits f (la.take (k + 1)) s1 := fun h => by
        have := Tm.visits_stop f (la.take (k + 1)) (la.drop (k + 1)) s1 h
        rwa [List.take_append_drop] at this
      have hsz : Tm.sizes (la.drop k) + m = la[k].size + (Tm.sizes (la.drop (k + 1)) + m) := by
        rw [List.drop_eq_getElem_cons hlt]
        simp only [Tm.sizes]
        omega
      rw [hsz] at hqr
      have hcall := Ih.out la[k] (List.getElem_mem hlt) _ (Tm.visits f (la.take k) s1).1 _ U xat (Hkid.out _ (List.getElem_mem hlt)) hIU hqr
      rw [← hsn] at hcall
      have Hcall := Lib.hid hcall
      have Hst := Lib.hid hst
      have HU := Lib.hid hU
      have Ht := Lib.hid (hkr.trans (KeepsT.of tU))
      clear htk xa0 xa1 xa2 xat lga hsn hcall hst hIr hIU hCU tU hU hkr hqr hsz hor
      generalize hX : Tm.visits f (la.take (k + 1)) s1 = X at *
      have HX := Lib.hid hX
      clear hX
      obtain ⟨xl, xb⟩ := X
      generalize la[k].kind = xk at *
      generalize la[k].num = xn at *
      generalize la[k].kids.length = xm at *
      go_upto_region 6 with fail
      rw [← HU.out]
      go_wp2_with fail
      refine Hcall.out.mono ?_
      rintro e w1 ⟨rfl, hf1, t1, hq1⟩
      have T3 := Lib.hid (Ht.out.trans t1)
      have F3 := Lib.hid hf1
      have Q3 := Lib.hid hq1
      clear t1 hf1 hq1 p0 p1 p2 u0 u1 u2 lU
      cases xb
      · have hf := Hst.out rfl
        have Hf := Lib.hid hf
        clear hf Hst
        go_wp2
        go_ret
        rw [Hf.out]
        exact ⟨rfl, F3.out, TW.out.trans T3.out, HL.out.lessL _ (by omega) Q3.out⟩
      · go_wp2
        go_roundw
        case rel => exact ⟨k + 1, by omega, by go_num, by rw [HX.out], by rw [HX.out]; exact F3.out, T3.out, by rw [HX.out]; exact Q3.out⟩
        case measure => simp [intOf]; omega
    · obtain rfl : k = la.length := by omega
      rw [List.take_of_length_le (Nat.le_refl _)] at htk hIr hqr
      have Htk := Lib.hid htk
      have HIr := Lib.hid hIr
      have Ht := Lib.hid hkr
      have Hqr := Lib.hid hqr
      clear htk hIr hkr hqr
      go_wp2
      go_ret
      rw [Htk.out]
      exact ⟨rfl, HIr.out, TW.out.trans Ht.out, HL.out.lessL _ (by omega) Hqr.out⟩
end Go.Proofs.Ytljnmjehokijgaa

/- Size, Tree: how many nodes there are, and whether they are right. -/
namespace Go.Proofs.Ytljnmjehokijgaa
open Go.RowKit

/-- What the counting function looks at. -/
structure Siz (w0 : World) (bn bd bk : Nat) (n d : Int) (w : World) : Prop where
  turned : Turned w0 w (fun _ => False)
  hn : w.heap[bn]? = some (.cells #[.int .i64 n] 3 (0, 0))
  hd : w.heap[bd]? = some (.cells #[.int .i64 d] 3 (0, 0))
  hk : w.heap[bk]? = some (.cells #[.func (.func 45) #[] #[.pointer (some ⟨bn, 0, none⟩), .pointer (some ⟨bd, 0, none⟩), .pointer (some ⟨bk, 0, none⟩)]] 69 (0, 0))
  lo : w0.heap.size ≤ bn
  lo2 : w0.heap.size ≤ bd
  ne : bn ≠ bd
  ne2 : bn ≠ bk
  ne3 : bd ≠ bk

theorem Siz.step {w0 : World} {bn bd bk : Nat} {n d : Int} {w w' : World} (h : Siz w0 bn bd bk n d w) (t : Turned w w' (fun _ => False)) : Siz w0 bn bd bk n d w' :=
  ⟨h.turned.trans t (fun _ _ hf => hf), (t.block bn (lt_of_block h.hn) (fun hf => hf)).trans h.hn, (t.block bd (lt_of_block h.hd) (fun hf => hf)).trans h.hd, (t.block bk (lt_of_block h.hk) (fun hf => hf)).trans h.hk, h.lo, h.lo2, h.ne, h.ne2, h.ne3⟩

theorem Siz.setN {w0 : World} {bn bd bk : Nat} {n d : Int} {w : World} (h : Siz w0 bn bd bk n d w) (x : Int) : Siz w0 bn bd bk x d (w.setCell ⟨bn, 0, none⟩ (.int .i64 x)) := by
  have ts := (Turned.refl w (fun k => k = bn)).setCell (p := ⟨bn, 0, none⟩) (fun _ => rfl) (.int .i64 x)
  exact ⟨h.turned.setCell (p := ⟨bn, 0, none⟩) (fun hlt => by have := h.lo; simp only at hlt; omega) _, setCell_one h.hn, (ts.block bd (lt_of_block h.hd) (fun e => h.ne e.symm)).trans h.hd,
    (ts.block bk (lt_of_block h.hk) (fun e => h.ne2 e.symm)).trans h.hk, h.lo, h.lo2, h.ne, h.ne2, h.ne3⟩

theorem Siz.setD {w0 : World} {bn bd bk : Nat} {n d : Int} {w : World} (h : Siz w0 bn bd bk n d w) (x : Int) : Siz w0 bn bd bk n x (w.setCell ⟨bd, 0, none⟩ (.int .i64 x)) := by
  have ts := (Turned.refl w (fun k => k = bd)).setCell (p := ⟨bd, 0, none⟩) (fun _ => rfl) (.int .i64 x)
  exact ⟨h.turned.setCell (p := ⟨bd, 0, none⟩) (fun hlt => by have := h.lo2; simp only at hlt; omega) _, (ts.block bn (lt_of_block h.hn) (fun e => h.ne e)).trans h.hn, setCell_one h.hd,
    (ts.block bk (lt_of_block h.hk) (fun e => h.ne3 e.symm)).trans h.hk, h.lo, h.lo2, h.ne, h.ne2, h.ne3⟩

theorem Siz.cells {w0 : World} {bn bd bk : Nat} {n d : Int} {w : World} (h : Siz w0 bn bd bk n d w) : w.cell? ⟨bn, 0, none⟩ = some (.int .i64 n) ∧ w.frozen? ⟨bn, 0, none⟩ = false ∧ bn < w.heap.size ∧
    w.cell? ⟨bd, 0, none⟩ = some (.int .i64 d) ∧ w.frozen? ⟨bd, 0, none⟩ = false ∧ bd < w.heap.size ∧
    w.cell? ⟨bk, 0, none⟩ = some (.func (.func 45) #[] #[.pointer (some ⟨bn, 0, none⟩), .pointer (some ⟨bd, 0, none⟩), .pointer (some ⟨bk, 0, none⟩)]) ∧ bk < w.heap.size := by
  refine ⟨?_, ?_, lt_of_block h.hn, ?_, ?_, lt_of_block h.hd, ?_, lt_of_block h.hk⟩ <;> simp [World.cell?, World.frozen?, h.hn, h.hk, h.hd]

theorem run_size1 (x y : Value) (bn bd bk : Nat) (w : World) : (callFunc 45 (#[x, y] ++ #[.pointer (some ⟨bn, 0, none⟩), .pointer (some ⟨bd, 0, none⟩), .pointer (some ⟨bk, 0, none⟩)])).run Try.prog w = .ok (.enter 45 (#[x, y] ++ #[.pointer (some ⟨bn, 0, none⟩), .pointer (some ⟨bd, 0, none⟩), .pointer (some ⟨bk, 0, none⟩)])) w := by kernel_rfl

/-- Its bounds. -/
theorem Tm.cns_le : ∀ (l : List Tm) (n d deep : Int), 0 ≤ n → n ≤ 2000 → 0 ≤ d → d ≤ 201 → 0 ≤ deep → deep ≤ 200 → (∀ t ∈ l, ∀ n d, 0 ≤ n → n ≤ 2000 → 0 ≤ d → d ≤ 201 → 0 ≤ (t.cn n d (deep + 1)).1.1 ∧ ((t.cn n d (deep + 1)).2 = true → (t.cn n d (deep + 1)).1.1 ≤ 2000) ∧ (t.cn n d (deep + 1)).1.1 ≤ 2001 ∧ 0 ≤ (t.cn n d (deep + 1)).1.2 ∧ (t.cn n d (deep + 1)).1.2 ≤ 201) →
    0 ≤ (Tm.cns l n d deep).1.1 ∧ ((Tm.cns l n d deep).2 = true → (Tm.cns l n d deep).1.1 ≤ 2000) ∧ (Tm.cns l n d deep).1.1 ≤ 2001 ∧ 0 ≤ (Tm.cns l n d deep).1.2 ∧ (Tm.cns l n d deep).1.2 ≤ 201
  | [], n, d, deep, h1, h2, h3, h4, _, _, _ => ⟨h1, fun _ => h2, by simp only [Tm.cns]; omega, h3, h4⟩
  | t :: l, n, d, deep, h1, h2, h3, h4, h5, h6, h => by
    have ht := h t (.head _) n d h1 h2 h3 h4
    simp only [Tm.cns]
    split
    · rename_i hb
      exact Tm.cns_le l _ _ deep ht.1 (ht.2.1 hb) ht.2.2.2.1 ht.2.2.2.2 h5 h6 (fun u hu => h u (.tail _ hu))
    · exact ⟨ht.1, fun hb => absurd hb (by simp), ht.2.2.1, ht.2.2.2.1, ht.2.2.2.2⟩

theorem Tm.cn_le : ∀ (t : Tm) (deep : Int), 0 ≤ deep → deep ≤ 201 → ∀ n d, 0 ≤ n → n ≤ 2000 → 0 ≤ d → d ≤ 201 → 0 ≤ (t.cn n d deep).1.1 ∧ ((t.cn n d deep).2 = true → (t.cn n d deep).1.1 ≤ 2000) ∧ (t.cn n d deep).1.1 ≤ 2001 ∧ 0 ≤ (t.cn n d deep).1.2 ∧ (t.cn n d deep).1.2 ≤ 201 := by
  intro t
  refine Tm.ind (P := fun t => ∀ (deep : Int), 0 ≤ deep → deep ≤ 201 → ∀ n d, 0 ≤ n → n ≤ 2000 → 0 ≤ d → d ≤ 201 → 0 ≤ (t.cn n d deep).1.1 ∧ ((t.cn n d deep).2 = true → (t.cn n d deep).1.1 ≤ 2000) ∧ (t.cn n d deep).1.1 ≤ 2001 ∧ 0 ≤ (t.cn n d deep).1.2 ∧ (t.cn n d deep).1.2 ≤ 201) ?_ t
  intro k m l ih deep h0 h1 n d h2 h3 h4 h5
  simp only [Tm.cn]
  split
  · exact ⟨by simp only; omega, fun hb => (by cases hb), by simp only; omega, by simp only; omega, by simp only; omega⟩
  · rename_i hg
    exact Tm.cns_le l _ _ deep (by omega) (by omega) (by omega) (by omega) h0 (by omega) (fun t ht n d a b c e => ih t ht (deep + 1) (by omega) (by omega) n d a b c e)

set_option maxRecDepth 100000 in
set_option maxHeartbeats 1600000 in
theorem size1_any (w0 : World) (bn bd bk : Nat) : ∀ (ta : Tm) (va : Value) (w : World) (n d deep : Int), TmIn w0 ta va → Siz w0 bn bd bk n d w → 0 ≤ n → n ≤ 2000 → 0 ≤ d → d ≤ 201 → 0 ≤ deep → deep ≤ 201 →
    Calls Try.prog 45 #[va, .int .i64 deep, .pointer (some ⟨bn, 0, none⟩), .pointer (some ⟨bd, 0, none⟩), .pointer (some ⟨bk, 0, none⟩)] w fun e w' => e = .returned (.bool (ta.cn n d deep).2) ∧ Siz w0 bn bd bk (ta.cn n d deep).1.1 (ta.cn n d deep).1.2 w' ∧ Turned w w' (fun k => k = bn ∨ k = bd) := by
  intro ta
  refine Tm.ind (P := fun ta => ∀ (va : Value) (w : World) (n d deep : Int), TmIn w0 ta va → Siz w0 bn bd bk n d w → 0 ≤ n → n ≤ 2000 → 0 ≤ d → d ≤ 201 → 0 ≤ deep → deep ≤ 201 →
    Calls Try.prog 45 #[va, .int .i64 deep, .pointer (some ⟨bn, 0, none⟩), .pointer (some ⟨bd, 0, none⟩), .pointer (some ⟨bk, 0, none⟩)] w fun e w' => e = .returned (.bool (ta.cn n d deep).2) ∧ Siz w0 bn bd bk (ta.cn n d deep).1.1 (ta.cn n d deep).1.2 w' ∧ Turned w w' (fun k => k = bn ∨ k = bd)) ?_ ta
  clear ta
  intro ka na la ih va w n d deep ha hfw hn0 hn1 hd0 hd1 hp0 hp1
  obtain ⟨aa, ca, rfl, hla, ra⟩ := ha
  have hla2 := hla
  unfold maxLen at hla2
  obtain ⟨W, hW, tW, hC⟩ := box1 w (.int .i64 ka) (.int .i64 na) (.slice aa la.length ca) 24
  have hfW := hfw.step tW
  obtain ⟨q0, q1, q2, q3, q4, q5, q6, q7⟩ := hfW.cells
  have hf1 := hfW.setN (n + 1)
  have tf : Turned W (W.setCell ⟨bn, 0, none⟩ (.int .i64 (n + 1))) (fun k => k = bn ∨ k = bd) := Turned.setCell (D := fun k => k = bn ∨ k = bd) (Turned.refl W _) (p := ⟨bn, 0, none⟩) (fun _ => .inl rfl) _
  have hbw : w.heap.size ≠ bn := by have := lt_of_block hfw.hn; omega
  have hbw2 : w.heap.size ≠ bd := by have := lt_of_block hfw.hd; omega
  have e0 : IntKind.i64.wrap (n + 1) = n + 1 := IntWalk.i64_in _ (by omega)
  have hB : ∀ V, Turned W V (fun k => k = bn ∨ k = bd) → V.cell? ⟨w.heap.size, 2, none⟩ = some (.slice aa la.length ca) ∧ w.heap.size < V.heap.size := fun V hV => by
    obtain ⟨-, -, c2, lW⟩ := hC W (Turned.refl _ _)
    exact ⟨(hV.cell (p := ⟨w.heap.size, 2, none⟩) lW (fun h => by rcases h with h | h; exact hbw h; exact hbw2 h)).trans c2, Nat.lt_of_lt_of_le lW hV.size⟩
  have hTw : ∀ V, Turned W V (fun k => k = bn ∨ k = bd) → Turned w V (fun k => k = bn ∨ k = bd) := fun V hV => (tW.mono (fun _ _ hf => hf.elim)).trans hV (fun _ _ h => h)
  have HW := Lib.hid hW
  have Ih := Lib.hid ih
  have HC := Lib.hid hC
  have Ra := Lib.hid ra
  have HF1 := Lib.hid hf1
  have TF := Lib.hid tf
  have HB := Lib.hid hB
  have HTw := Lib.hid hTw
  clear hW ih hC tW ra hfw hfW hf1 tf hB hTw hbw hbw2
  go_enter Try.func45, Try.ntmps45
  go_upto_region 1 with fail
  rw [← HW.out]
  go_upto_region 2 with fail
  clear q0 q1 q2 q3 q4 q5 q6 q7 e0
  have hf1 := HF1.out
  have tf := TF.out
  generalize W.setCell ⟨bn, 0, none⟩ (.int .i64 (n + 1)) = V0 at *
  obtain ⟨q0, q1, q2, q3, q4, q5, q6, q7⟩ := hf1.cells
  go_upto_region 3 with fail
  rw [show (if d < deep then deep else d) = max d deep by split <;> omega]
  have hf2 := hf1.setD (max d deep)
  have tf2 : Turned W (V0.setCell ⟨bd, 0, none⟩ (.int .i64 (max d deep))) (fun k => k = bn ∨ k = bd) := tf.setCell (p := ⟨bd, 0, none⟩) (fun _ => .inr rfl) _
  clear q0 q1 q2 q3 q4 q5 q6 q7 hf1 tf
  generalize V0.setCell ⟨bd, 0, none⟩ (.int .i64 (max d deep)) = V at *
  obtain ⟨q0, q1, q2, q3, q4, q5, q6, q7⟩ := hf2.cells
  obtain ⟨c2, lV⟩ := HB.out V tf2
  by_cases g1 : 2000 < n + 1 ∨ 200 < deep
  · have hv : (Tm.node ka na la).cn n d deep = ((n + 1, max d deep), false) := by simp only [Tm.cn]; exact if_pos g1
    have Hv := Lib.hid hv
    have Hfin := Lib.hid hf2
    have Htf := Lib.hid (HTw.out _ tf2)
    clear hv hf2 tf2
    generalize max d deep = md at *
    by_cases g2 : 2000 < n + 1
    · go_wp2
      go_ret
      rw [Hv.out]
      exact ⟨rfl, Hfin.out, Htf.out⟩
    · have g3 : 200 < deep := by omega
      go_wp2
      go_ret
      rw [Hv.out]
      exact ⟨rfl, Hfin.out, Htf.out⟩
  have hv : (Tm.node ka na la).cn n d deep = Tm.cns la (n + 1) (max d deep) deep := by simp only [Tm.cn]; exact if_neg g1
  have Hv := Lib.hid hv
  have g2 : ¬ 2000 < n + 1 := by omega
  have g3 : ¬ 200 < deep := by omega
  have hmd0 : 0 ≤ max d deep := by omega
  have hmd1 : max d deep ≤ 201 := by omega
  have hn2 : n + 1 ≤ 2000 := by omega
  have hn3 : 0 ≤ n + 1 := by omega
  have Hf2 := Lib.hid hf2
  have Tf2 := Lib.hid tf2
  clear hv hf2 tf2 g1 hn0 hn1
  generalize max d deep = md at *
  generalize n + 1 = n1 at *
  go_wp2
  clear q0 q1 q2 q3 q4 q5 q6 q7 c2 lV
  go_loopw [24] (fun i wr => ∃ k : Nat, k ≤ la.length ∧ i = .int .i64 k ∧ (Tm.cns (la.take k) n1 md deep).2 = true ∧ Siz w0 bn bd bk (Tm.cns (la.take k) n1 md deep).1.1 (Tm.cns (la.take k) n1 md deep).1.2 wr ∧ Turned W wr (fun k => k = bn ∨ k = bd)) (fun i _ => la.length - (intOf i).toNat)
  case atStart => exact ⟨0, Nat.zero_le _, rfl, rfl, Hf2.out, Tf2.out⟩
  case round =>
    obtain ⟨k, hk, rfl, htk, hfr, ht⟩ := hrel
    have hcl := Tm.cns_le (la.take k) n1 md deep hn3 hn2 hmd0 hmd1 hp0 (by omega) (fun t _ n d a b c e => Tm.cn_le t (deep + 1) (by omega) (by omega) n d a b c e)
    have hc0 := hcl.2.1 htk
    by_cases hlt : k < la.length
    · have hki : (k : Int) < (la.length : Int) := by omega
      obtain ⟨ga, oa, sa, sc, rfl, lga, xa0, xa1, xa2, xat⟩ := tmsIn_at2 Ra.out k hlt
      have lga' : ga < wr.heap.size := Nat.lt_of_lt_of_le lga hfr.turned.size
      have p0 := (hfr.turned.cell (p := ⟨ga, oa + k * 3, none⟩) lga (fun hf => hf)).trans xa0
      have p1 := (hfr.turned.cell (p := ⟨ga, oa + k * 3 + 1, none⟩) lga (fun hf => hf)).trans xa1
      have p2 := (hfr.turned.cell (p := ⟨ga, oa + k * 3 + 2, none⟩) lga (fun hf => hf)).trans xa2
      obtain ⟨U, hU, tU, hCU⟩ := box1 wr (.int .i64 la[k].kind) (.int .i64 la[k].num) (.slice sa la[k].kids.length sc) 24
      obtain ⟨u0, u1, u2, lU⟩ := hCU U (Turned.refl _ _)
      have hfU := hfr.step tU
      obtain ⟨q0, q1, q2, q3, q4, q5, q6, q7⟩ := hfU.cells
      have hsn : Tm.cns (la.take (k + 1)) n1 md deep = la[k].cn (Tm.cns (la.take k) n1 md deep).1.1 (Tm.cns (la.take k) n1 md deep).1.2 (deep + 1) := by
        rw [List.take_succ_eq_append_getElem hlt, Tm.cns_snoc, if_pos htk]
      have hst : (Tm.cns (la.take (k + 1)) n1 md deep).2 = false → Tm.cns la n1 md deep = Tm.cns (la.take (k + 1)) n1 md deep := fun h => by
        have := Tm.cns_stop (la.take (k + 1)) (la.drop (k + 1)) n1 md deep h
        rwa [List.take_append_drop] at this
      have hcall := Ih.out la[k] (List.getElem_mem hlt) (.agg #[.int .i64 la[k].kind, .int .i64 la[k].num, .slice sa la[k].kids.length sc]) U _ _ (deep + 1) xat hfU hcl.1 hc0 hcl.2.2.2.1 hcl.2.2.2.2 (by omega) (by omega)
      rw [← hsn] at hcall
      have hrun := run_size1 (.agg #[.int .i64 la[k].kind, .int .i64 la[k].num, .slice sa la[k].kids.length sc]) (.int .i64 (deep + 1)) bn bd bk
      have Hcall := Lib.hid hcall
      have Hst := Lib.hid hst
      have HU := Lib.hid hU
      have Ht := Lib.hid (ht.trans (tU.mono (E := fun k => k = bn ∨ k = bd) (fun _ _ hf => hf.elim)) (fun _ _ h => h))
      clear hcl htk hc0 xa0 xa1 xa2 xat ht lga hsn hcall hst hfr hfU hCU tU hU
      generalize hX : Tm.cns (la.take (k + 1)) n1 md deep = X at *
      have HX := Lib.hid hX
      clear hX
      obtain ⟨⟨xl, xd⟩, xb⟩ := X
      generalize la[k].kind = xk at *
      generalize la[k].num = xn at *
      generalize la[k].kids.length = xm at *
      go_upto_region 8 with fail
      rw [← HU.out]
      go_wp2_with fail
      refine Hcall.out.mono ?_
      rintro e w1 ⟨rfl, hf1, t1⟩
      have T3 := Lib.hid (Ht.out.trans t1 (fun _ _ h => h))
      have F3 := Lib.hid hf1
      clear t1 hf1 p0 p1 p2 q0 q1 q2 q3 q4 q5 q6 q7 u0 u1 u2 lU hrun
      cases xb
      · have hf := Hst.out rfl
        have Hf := Lib.hid hf
        clear hf Hst
        go_wp2
        go_ret
        rw [Hv.out, Hf.out]
        exact ⟨rfl, F3.out, HTw.out _ T3.out⟩
      · go_wp2
        go_roundw
        case rel => exact ⟨k + 1, by omega, by go_num, by rw [HX.out], by rw [HX.out]; exact F3.out, T3.out⟩
        case measure => simp [intOf]; omega
    · obtain rfl : k = la.length := by omega
      rw [List.take_of_length_le (Nat.le_refl _)] at htk hfr
      have Htk := Lib.hid htk
      have Hfr := Lib.hid hfr
      have Ht := Lib.hid ht
      clear hcl htk hc0 hfr ht
      go_wp2
      go_ret
      rw [Hv.out, Htk.out]
      exact ⟨rfl, Hfr.out, HTw.out _ Ht.out⟩

/-- Three blocks more. -/
theorem alloc3 {w V : World} {a b c : Obj} (h : V = ((w.alloc a).alloc b).alloc c) :
    V.heap[w.heap.size]? = some a ∧ V.heap[w.heap.size + 1]? = some b ∧ V.heap[w.heap.size + 1 + 1]? = some c ∧ Turned w V (fun _ => False) ∧ V.heap.size = w.heap.size + 1 + 1 + 1 := by
  have z1 : (w.alloc a).heap.size = w.heap.size + 1 := by simp
  have z2 : ((w.alloc a).alloc b).heap.size = w.heap.size + 1 + 1 := by simp
  have h1 := heap_alloc_new w a
  have h2 := heap_alloc_new (w.alloc a) b
  have h3 := heap_alloc_new ((w.alloc a).alloc b) c
  rw [z1] at h2
  rw [z2] at h3
  have t1 : Turned (w.alloc a) ((w.alloc a).alloc b) (fun _ => False) := (Turned.refl _ _).alloc _
  have t2 : Turned ((w.alloc a).alloc b) (((w.alloc a).alloc b).alloc c) (fun _ => False) := (Turned.refl _ _).alloc _
  subst h
  exact ⟨((t1.trans t2 (fun _ _ hf => hf)).block _ (by omega) (fun hf => hf)).trans h1, (t2.block _ (by omega) (fun hf => hf)).trans h2, h3, (((Turned.refl w _).alloc _).alloc _).alloc _, by simp⟩

set_option maxRecDepth 100000 in
set_option maxHeartbeats 1600000 in
theorem size_any (ta : Tm) (va : Value) (w : World) (ha : TmIn w ta va) :
    Calls Try.prog 15 #[va] w fun e w' => SizePost ta.size2 e ∧ Turned w w' (fun _ => False) := by
  obtain ⟨aa, ca, rfl, hla, -⟩ := ha.form
  obtain ⟨W, hW, tW, hC⟩ := box1 w (.int .i64 ta.kind) (.int .i64 ta.num) (.slice aa ta.kids.length ca) 24
  obtain ⟨V, hV⟩ : ∃ V, V = ((W.alloc (.cells #[.int .i64 0] 3)).alloc (.cells #[.int .i64 0] 3)).alloc (.cells #[.func (.func 45) #[] #[.pointer (some ⟨W.heap.size, 0, none⟩), .pointer (some ⟨W.heap.size + 1, 0, none⟩), .pointer (some ⟨W.heap.size + 1 + 1, 0, none⟩)]] 69) := ⟨_, rfl⟩
  obtain ⟨k1, k2, k3, tV, -⟩ := alloc3 hV
  have hS : Siz W W.heap.size (W.heap.size + 1) (W.heap.size + 1 + 1) 0 0 V := ⟨tV, k1, k2, k3, by omega, by omega, by omega, by omega, by omega⟩
  have hcall := size1_any W W.heap.size (W.heap.size + 1) (W.heap.size + 1 + 1) ta _ V 0 0 1 (TmIn.turned tW _ ha) hS (by omega) (by omega) (by omega) (by omega) (by omega) (by omega)
  have hrun := run_size1 (.agg #[.int .i64 ta.kind, .int .i64 ta.num, .slice aa ta.kids.length ca]) (.int .i64 1) W.heap.size (W.heap.size + 1) (W.heap.size + 1 + 1)
  obtain ⟨c0, c1, c2, lW⟩ := hC V tV
  obtain ⟨q0, q1, q2, q3, q4, q5, q6, q7⟩ := hS.cells
  have hcc := Tm.cn_cnt ta 0 0 1
  have hF : (ta.cn 0 0 1).2 = false → ∀ e, e = .returned (.tuple #[.int .i64 2001, .int .i64 201]) → SizePost ta.size2 e := fun h e he => by
    unfold Tm.size2
    rw [hcc.1] at h
    rw [show (2000 : Int) - 0 = 2000 by omega] at h
    rw [if_neg (by rw [h]; exact Bool.false_ne_true)]
    exact he
  have hT : (ta.cn 0 0 1).2 = true → ∀ e, e = .returned (.tuple #[.int .i64 (ta.cn 0 0 1).1.1, .int .i64 (ta.cn 0 0 1).1.2]) → SizePost ta.size2 e := fun h e he => by
    have h3 := hcc.2.2 h
    have h2 := hcc.2.1
    have h1 := hcc.1
    rw [show (2000 : Int) - 0 = 2000 by omega] at h1 h2
    rw [h1] at h
    unfold Tm.size2
    rw [if_pos h, he, h2, h3]
    unfold SizePost
    simp only
    rw [show max (0 : Int) (1 - 1 + (ta.depth : Int)) = (ta.depth : Int) by omega]
  have HF := Lib.hid hF
  have HT := Lib.hid hT
  have HW := Lib.hid hW
  have HV := Lib.hid hV
  have Hcall := Lib.hid hcall
  have TT := Lib.hid (tW.trans tV (fun _ _ hf => hf))
  have hlo : w.heap.size < W.heap.size := by rw [hW]; simp
  have hmf : ∀ (fn : Fn) (first cap : Array Value) (w : World), (Instr.makeFunc fn first cap).run Try.prog w = .ok (.func fn first cap) w := fun _ _ _ _ => rfl
  clear hF hT hW hV hcall hC tW tV k1 k2 k3 hS hcc ha hla
  generalize ta.cn 0 0 1 = X at *
  obtain ⟨⟨xn, xd⟩, xb⟩ := X
  generalize ta.kind = xk at *
  generalize ta.num = xm at *
  generalize ta.kids.length = xl at *
  go_enter Try.func15, Try.ntmps15
  go_upto_region 1 with fail
  rw [← HW.out]
  go_upto_region 4 with fail
  rw [← HV.out]
  go_wp2_with fail
  refine Hcall.out.mono ?_
  rintro e w1 ⟨rfl, hs1, t1⟩
  obtain ⟨r0, r1, r2, r3, r4, r5, r6, r7⟩ := hs1.cells
  have TF := Lib.hid (TT.out.trans t1 (fun i hi h => by rcases h with h | h <;> omega))
  clear q0 q1 q2 q3 q4 q5 q6 q7 c0 c1 c2 lW hrun t1 hs1 hmf
  cases xb
  · have Hp := Lib.hid (HF.out rfl)
    clear HF HT
    go_wp2
    go_ret2
    exact ⟨Hp.out _ rfl, TF.out⟩
  · have Hp := Lib.hid (HT.out rfl)
    clear HF HT
    go_wp2_with fail
    go_quiet (fail)
    go_wp2
    go_ret2
    exact ⟨Hp.out _ rfl, TF.out.drewN _⟩
end Go.Proofs.Ytljnmjehokijgaa

/- Tree, areTrees. -/
namespace Go.Proofs.Ytljnmjehokijgaa
open Go.RowKit

theorem run_isNode (x : Value) (w : World) : (callFunc 79 (#[x] ++ #[])).run Try.prog w = .ok (.enter 79 (#[x] ++ #[])) w := by kernel_rfl

set_option maxRecDepth 100000 in
set_option maxHeartbeats 1600000 in
theorem isNode_any (ta : Tm) (va : Value) (w : World) (ha : TmIn w ta va) :
    Calls Try.prog 79 #[va] w fun e w' => e = .returned (.bool ta.okNode) ∧ Turned w w' (fun _ => False) := by
  obtain ⟨ka, na, la⟩ := ta
  obtain ⟨aa, ca, rfl, hla, -⟩ := ha
  have hla2 := hla
  unfold maxLen at hla2
  obtain ⟨W, hW, tW, hC⟩ := box1 w (.int .i64 ka) (.int .i64 na) (.slice aa la.length ca) 24
  obtain ⟨c0, c1, c2, lW⟩ := hC W (Turned.refl _ _)
  have HW := Lib.hid hW
  have TW := Lib.hid tW
  clear hW hC tW
  by_cases h1 : ka = 1
  · subst h1
    by_cases h2 : 0 ≤ na
    · by_cases h3 : la.length = 0
      · have hv : (Tm.node 1 na la).okNode = true := by
          have : ¬ na < 0 := by omega
          simp [Tm.okNode, this, List.length_eq_zero_iff.1 h3]
        rw [hv]
        have e1 : ((la.length : Int) == 0) = true := by rw [h3]; rfl
        clear hv h3
        go_enter Try.func79, Try.ntmps79
        go_upto_region 1 with fail
        rw [← HW.out]
        go_wp2
        go_ret
        exact ⟨rfl, TW.out⟩
      · have hv : (Tm.node 1 na la).okNode = false := by
          have : la ≠ [] := fun e => h3 (by rw [e]; rfl)
          simp [Tm.okNode, this]
        rw [hv]
        have e1 : ((la.length : Int) == 0) = false := by rw [beq_eq_false_iff_ne]; omega
        clear hv
        go_enter Try.func79, Try.ntmps79
        go_wp2_with fail
        rw [← HW.out]
        go_wp2
        go_ret
        exact ⟨rfl, TW.out⟩
    · have hv : (Tm.node 1 na la).okNode = false := by
        have : na < 0 := by omega
        simp [Tm.okNode, this]
      rw [hv]
      clear hv
      go_enter Try.func79, Try.ntmps79
      go_wp2_with fail
      rw [← HW.out]
      go_wp2
      go_ret
      exact ⟨rfl, TW.out⟩
  have e1 : (ka == 1) = false := by simpa using h1
  by_cases h4 : ka = 2
  · subst h4
    by_cases h2 : 0 ≤ na
    · by_cases h3 : la.length ≤ 8
      · have hv : (Tm.node 2 na la).okNode = true := by
          have : ¬ na < 0 := by omega
          simp [Tm.okNode, this, h3]
        rw [hv]
        have h5 : (la.length : Int) ≤ 8 := by omega
        clear hv
        go_enter Try.func79, Try.ntmps79
        go_wp2_with fail
        rw [← HW.out]
        go_wp2
        go_ret
        exact ⟨rfl, TW.out⟩
      · have hv : (Tm.node 2 na la).okNode = false := by
          simp [Tm.okNode, h3]
        rw [hv]
        have h5 : ¬ (la.length : Int) ≤ 8 := by omega
        clear hv
        go_enter Try.func79, Try.ntmps79
        go_wp2_with fail
        rw [← HW.out]
        go_wp2
        go_ret
        exact ⟨rfl, TW.out⟩
    · have hv : (Tm.node 2 na la).okNode = false := by
        have : na < 0 := by omega
        simp [Tm.okNode, this]
      rw [hv]
      clear hv
      go_enter Try.func79, Try.ntmps79
      go_wp2_with fail
      rw [← HW.out]
      go_wp2
      go_ret
      exact ⟨rfl, TW.out⟩
  have e2 : (ka == 2) = false := by simpa using h4
  have hv : (Tm.node ka na la).okNode = false := by simp [Tm.okNode, e1, e2]
  rw [hv]
  clear hv
  go_enter Try.func79, Try.ntmps79
  go_wp2_with fail
  rw [← HW.out]
  go_wp2
  go_ret
  exact ⟨rfl, TW.out⟩

/-- isNode, shown to visit. -/
theorem looks_isNode (w0 : World) : Looks w0 79 #[] (fun (s : Unit) x => (s, x.okNode)) (fun _ w => Turned w0 w (fun _ => False)) (fun _ _ => True) (fun _ => True) where
  run := run_isNode
  old := fun _ _ h => h
  step := fun _ _ _ h t => h.trans t (fun _ _ hf => hf)
  less := fun _ _ _ => trivial
  next := fun _ _ _ _ => trivial
  kids := fun _ _ _ _ _ _ => trivial
  call := fun s n t v w _ _ ht hI => by
    refine (isNode_any t v w (TmIn.turned hI _ ht)).mono ?_
    rintro e w' ⟨rfl, t1⟩
    exact ⟨rfl, hI.trans t1 (fun _ _ hf => hf), KeepsT.of t1⟩

theorem visit_isNode (w0 : World) (ta : Tm) (va : Value) (w : World) (ha : TmIn w0 ta va) (h0 : Turned w0 w (fun _ => False)) :
    Calls Try.prog 50 #[va, .func (.func 79) #[] #[]] w fun e w' => e = .returned (.bool ta.right) ∧ Turned w0 w' (fun _ => False) := by
  refine (visit_any w0 _ _ _ _ _ _ (looks_isNode w0) ta va () 0 w ha trivial h0 trivial).mono ?_
  rintro e w' ⟨he, hI, -, -⟩
  rw [Tm.visit_right] at he
  exact ⟨he, hI⟩

/-- What Tree answers. -/
def Tm.treeE (t : Tm) : Int := if t.isTree = true then 0 else 4

set_option maxRecDepth 100000 in
set_option maxHeartbeats 1600000 in
theorem tree_any (ta : Tm) (va : Value) (w : World) (ha : TmIn w ta va) :
    Calls Try.prog 43 #[va] w fun e w' => e = .returned (.int .i64 ta.treeE) ∧ Turned w w' (fun _ => False) := by
  obtain ⟨aa, ca, rfl, hla, -⟩ := ha.form
  obtain ⟨W, hW, tW, hC⟩ := box1 w (.int .i64 ta.kind) (.int .i64 ta.num) (.slice aa ta.kids.length ca) 24
  obtain ⟨c0, c1, c2, lW⟩ := hC W (Turned.refl _ _)
  have hs := size_any ta _ W (TmIn.turned tW _ ha)
  have hle := Tm.cnt_le 200 ta 2000 1 (by omega)
  have h1 : (ta.cnt 200 2000 1).2 = false → ta.size2.1 = 2001 ∧ ta.treeE = 4 := fun h => by
    unfold Tm.treeE Tm.isTree Tm.size2
    rw [h]
    exact ⟨rfl, rfl⟩
  have h2 : (ta.cnt 200 2000 1).2 = true → ta.size2.1 ≤ 2000 ∧ ta.treeE = if ta.right = true then 0 else 4 := fun h => by
    unfold Tm.treeE Tm.isTree Tm.size2
    have := hle.2.2 h
    rw [h, if_pos rfl]
    exact ⟨by simp only; omega, rfl⟩
  have Hv := Lib.hid (fun V (hV : Turned W V (fun _ => False)) => visit_isNode W ta _ V (TmIn.turned tW _ ha) hV)
  have HW := Lib.hid hW
  have HC := Lib.hid hC
  have TW := Lib.hid tW
  have Hs := Lib.hid hs
  have H1 := Lib.hid h1
  have H2 := Lib.hid h2
  clear hW hC tW hs h1 h2 hle ha hla
  generalize ta.kind = xk at *
  generalize ta.num = xm at *
  generalize ta.kids.length = xl at *
  generalize ta.size2 = X at *
  obtain ⟨xn, xd⟩ := X
  generalize (ta.cnt 200 2000 1).2 = ok at *
  go_enter Try.func43, Try.ntmps43
  go_wp2_with fail
  rw [← HW.out]
  refine Hs.out.mono ?_
  rintro e w1 ⟨hp, t1⟩
  obtain rfl : e = .returned (.tuple #[.int .i64 xn, .int .i64 xd]) := hp
  obtain ⟨c0', c1', c2', lW'⟩ := HC.out w1 t1
  have T1 := Lib.hid t1
  clear c0 c1 c2 lW t1
  cases ok
  · obtain ⟨hx, hr⟩ := H1.out rfl
    subst hx
    have Hr := Lib.hid hr
    clear hr H1 H2
    go_wp2
    go_ret
    rw [Hr.out]
    exact ⟨rfl, TW.out.trans T1.out (fun _ _ hf => hf)⟩
  · obtain ⟨hx, hr⟩ := H2.out rfl
    have Hr := Lib.hid hr
    have hx2 : ¬ 2000 < xn := by omega
    clear hr H1 H2
    generalize ta.right = rt at *
    go_wp2_with fail
    refine (Hv.out _ T1.out).mono ?_
    rintro e w2 ⟨rfl, t2⟩
    clear c0' c1' c2' lW'
    cases rt
    · go_wp2
      go_ret
      rw [Hr.out]
      exact ⟨rfl, TW.out.trans t2 (fun _ _ hf => hf)⟩
    · go_wp2
      go_ret
      rw [Hr.out]
      exact ⟨rfl, TW.out.trans t2 (fun _ _ hf => hf)⟩

set_option maxRecDepth 100000 in
set_option maxHeartbeats 1600000 in
theorem areTrees_any (la : List Tm) (va : Value) (w : World) (ha : RowTm w va la) :
    Calls Try.prog 49 #[va] w fun e w' => e = .returned (.bool (la.all Tm.isTree)) ∧ Turned w w' (fun _ => False) := by
  obtain ⟨aa, ca, rfl, hla, ra⟩ := ha
  have hla2 := hla
  unfold maxLen at hla2
  have Ra := Lib.hid ra
  clear ra
  go_enter Try.func49, Try.ntmps49
  go_wp2
  go_loopw [7] (fun i wr => ∃ k : Nat, k ≤ la.length ∧ i = .int .i64 k ∧ (la.take k).all Tm.isTree = true ∧ Turned w wr (fun _ => False)) (fun i _ => la.length - (intOf i).toNat)
  case atStart => exact ⟨0, Nat.zero_le _, rfl, rfl, Turned.refl _ _⟩
  case round =>
    obtain ⟨k, hk, rfl, htk, ht⟩ := hrel
    have Htk := Lib.hid htk
    clear htk
    by_cases hlt : k < la.length
    · have hki : (k : Int) < (la.length : Int) := by omega
      obtain ⟨ga, oa, sa, sc, rfl, lga, xa0, xa1, xa2, xat⟩ := tmsIn_at2 Ra.out k hlt
      have lga' : ga < wr.heap.size := Nat.lt_of_lt_of_le lga ht.size
      have p0 := (ht.cell (p := ⟨ga, oa + k * 3, none⟩) lga (fun hf => hf)).trans xa0
      have p1 := (ht.cell (p := ⟨ga, oa + k * 3 + 1, none⟩) lga (fun hf => hf)).trans xa1
      have p2 := (ht.cell (p := ⟨ga, oa + k * 3 + 2, none⟩) lga (fun hf => hf)).trans xa2
      obtain ⟨U, hU, tU, hCU⟩ := box1 wr (.int .i64 la[k].kind) (.int .i64 la[k].num) (.slice sa la[k].kids.length sc) 24
      obtain ⟨u0, u1, u2, lU⟩ := hCU U (Turned.refl _ _)
      have Hcall := Lib.hid (tree_any la[k] _ U (TmIn.turned (ht.trans tU (fun _ _ hf => hf)) _ xat))
      have hne : la[k].isTree = false → la.all Tm.isTree = false ∧ la[k].treeE = 4 := fun h => by
        refine ⟨?_, by unfold Tm.treeE; rw [h]; rfl⟩
        rw [List.all_eq_false]
        exact ⟨_, List.getElem_mem hlt, by simpa using h⟩
      have hnx : la[k].isTree = true → (la.take (k + 1)).all Tm.isTree = true ∧ la[k].treeE = 0 := fun h => by
        refine ⟨?_, by unfold Tm.treeE; rw [h]; rfl⟩
        rw [List.take_succ_eq_append_getElem hlt, List.all_append, Htk.out]
        simp [h]
      have Hne := Lib.hid hne
      have Hnx := Lib.hid hnx
      have HU := Lib.hid hU
      have Ht := Lib.hid (ht.trans tU (fun _ _ hf => hf))
      clear xa0 xa1 xa2 xat ht lga hne hnx hCU tU hU
      generalize la[k].isTree = sm at *
      generalize la[k].treeE = te at *
      generalize la[k].kind = xk at *
      generalize la[k].num = xn at *
      generalize la[k].kids.length = xm at *
      go_upto_region 4 with fail
      rw [← HU.out]
      go_wp2_with fail
      refine Hcall.out.mono ?_
      rintro e w1 ⟨rfl, t1⟩
      have T3 := Lib.hid (Ht.out.trans t1 (fun _ _ hf => hf))
      clear t1 p0 p1 p2 u0 u1 u2 lU
      cases sm
      · obtain ⟨hf, he⟩ := Hne.out rfl
        subst he
        have Hf := Lib.hid hf
        clear hf Hne Hnx
        go_wp2
        go_ret
        rw [Hf.out]
        exact ⟨rfl, T3.out⟩
      · obtain ⟨hf, he⟩ := Hnx.out rfl
        subst he
        have Hf := Lib.hid hf
        clear hf Hne Hnx
        go_wp2
        go_roundw
        case rel => exact ⟨k + 1, by omega, by go_num, Hf.out, T3.out⟩
        case measure => simp [intOf]; omega
    · obtain rfl : k = la.length := by omega
      have hfin : la.all Tm.isTree = true := by
        have h5 := Htk.out
        rwa [List.take_of_length_le (Nat.le_refl _)] at h5
      have Hfin := Lib.hid hfin
      clear hfin
      go_wp2
      go_ret
      rw [Hfin.out]
      exact ⟨rfl, ht⟩
end Go.Proofs.Ytljnmjehokijgaa

/- What the law's own makers give: variable, op, numbers. -/
namespace Go.Proofs.Ytljnmjehokijgaa
open Go.RowKit

set_option maxRecDepth 100000 in
theorem variable_any (n : Int) (w : World) : Calls Try.prog 24 #[.int .i64 n] w fun e w' => e = .returned (.agg #[.int .i64 1, .int .i64 n, .slice none 0 0]) ∧ Turned w w' (fun _ => False) := by
  go_enter Try.func24, Try.ntmps24
  go_wp2
  exact bodyPost_ret (results_term rfl (heap_alloc_new w _) rfl) rfl ⟨rfl, (Turned.refl w _).alloc _⟩

set_option maxRecDepth 100000 in
theorem op_any (n : Int) (a : Option Addr) (m c : Nat) (w : World) : Calls Try.prog 29 #[.int .i64 n, .slice a m c] w fun e w' => e = .returned (.agg #[.int .i64 2, .int .i64 n, .slice a m c]) ∧ Turned w w' (fun _ => False) := by
  go_enter Try.func29, Try.ntmps29
  go_wp2
  exact bodyPost_ret (results_term rfl (heap_alloc_new w _) rfl) rfl ⟨rfl, (Turned.refl w _).alloc _⟩

/-- An operation of a signature. -/
structure OpD where
  name : List UInt8
  args : List Int
  res : Int

/-- A signature lies in memory: the sorts' names, the operations. -/
def SigIn (w : World) (s : List (List UInt8)) (l : List OpD) (v : Value) : Prop :=
  ∃ a ca b cb, v = .agg #[.slice a s.length ca, .slice b l.length cb] ∧ s.length ≤ maxLen ∧ l.length ≤ maxLen ∧
    (∀ (i : Nat) (x : List UInt8), s[i]? = some x → ∃ g off, a = some ⟨g, off, none⟩ ∧ g < w.heap.size ∧ w.cell? ⟨g, off + i, none⟩ = some (.string ⟨x.toArray⟩)) ∧
    (∀ (i : Nat) (o : OpD), l[i]? = some o → ∃ g off va, b = some ⟨g, off, none⟩ ∧ g < w.heap.size ∧ w.cell? ⟨g, off + i * 3, none⟩ = some (.string ⟨o.name.toArray⟩) ∧ w.cell? ⟨g, off + i * 3 + 1, none⟩ = some va ∧ w.cell? ⟨g, off + i * 3 + 2, none⟩ = some (.int .i64 o.res) ∧ RowI w va o.args)

theorem SigIn.turned {w w' : World} {s : List (List UInt8)} {l : List OpD} {v : Value} (h : SigIn w s l v) (t : Turned w w' (fun _ => False)) : SigIn w' s l v := by
  obtain ⟨a, ca, b, cb, hv, h1, h2, hs, hl⟩ := h
  refine ⟨a, ca, b, cb, hv, h1, h2, fun i x hx => ?_, fun i o ho => ?_⟩
  · obtain ⟨g, off, ha, hg, hc⟩ := hs i x hx
    exact ⟨g, off, ha, Nat.lt_of_lt_of_le hg t.size, (t.cell (p := ⟨g, off + i, none⟩) hg (fun hf => hf)).trans hc⟩
  · obtain ⟨g, off, va, ha, hg, c0, c1, c2, hr⟩ := hl i o ho
    exact ⟨g, off, va, ha, Nat.lt_of_lt_of_le hg t.size, (t.cell (p := ⟨g, off + i * 3, none⟩) hg (fun hf => hf)).trans c0, (t.cell (p := ⟨g, off + i * 3 + 1, none⟩) hg (fun hf => hf)).trans c1, (t.cell (p := ⟨g, off + i * 3 + 2, none⟩) hg (fun hf => hf)).trans c2, hr.turned t⟩

def numSorts : List (List UInt8) := [[110, 97, 116], [98, 111, 111, 108]]
def numOps : List OpD := [⟨[48], [], 0⟩, ⟨[115], [0], 0⟩, ⟨[95, 43, 95], [0, 0], 0⟩, ⟨[95, 101, 113, 95], [0, 0], 1⟩]

/-- One block more. -/
theorem alloc_step {w w' : World} {n : Nat} {c : Array Value} {t : TypeId} (ht : Turned w w' (fun _ => False)) (hn : w'.heap.size = n) : ∃ W, W = w'.alloc (.cells c t) ∧ Turned w W (fun _ => False) ∧ W.heap[n]? = some (.cells c t (0, 0)) ∧ W.heap.size = n + 1 ∧ ∀ (k : Nat) (o : Obj), w'.heap[k]? = some o → W.heap[k]? = some o := by
  subst hn
  exact ⟨_, rfl, ht.alloc _, heap_alloc_new _ _, by simp, fun k o h => (Below.heap_alloc _ _ _ (lt_of_block h)).trans h⟩

theorem rowI_block {w : World} {g : Nat} {xs : List Int} (h : w.heap[g]? = some (.cells (xs.map (Value.int .i64)).toArray 3 (0, 0))) (hl : xs.length ≤ maxLen) (cap : Nat) : RowI w (.slice (some ⟨g, 0, none⟩) xs.length cap) xs := by
  refine ⟨_, cap, rfl, hl, fun _ => ⟨g, 0, rfl, lt_of_block h, fun j x hj => ?_⟩⟩
  simp [World.cell?, h, hj]

set_option maxRecDepth 100000 in
set_option maxHeartbeats 1600000 in
theorem numbers_any (w : World) : Calls Try.prog 28 #[] w fun e w' => (∃ v, e = .returned v ∧ SigIn w' numSorts numOps v) ∧ Turned w w' (fun _ => False) := by
  obtain ⟨w1, h1, t1, b0, s1, k1⟩ := alloc_step (c := #[.slice (some ⟨w.heap.size + 1, 0, none⟩) 2 2, .slice (some ⟨w.heap.size + 1 + 1 + 1 + 1 + 1, 0, none⟩) 4 4]) (t := 60) (Turned.refl w _) rfl
  obtain ⟨w2, h2, t2, b1, s2, k2⟩ := alloc_step (c := #[.string ⟨#[110, 97, 116]⟩, .string ⟨#[98, 111, 111, 108]⟩]) (t := 9) t1 s1
  have b0 := k2 _ _ b0
  obtain ⟨w3, h3, t3, b2, s3, k3⟩ := alloc_step (c := #[.int .i64 0]) (t := 3) t2 s2
  have b0 := k3 _ _ b0
  have b1 := k3 _ _ b1
  obtain ⟨w4, h4, t4, b3, s4, k4⟩ := alloc_step (c := #[.int .i64 0, .int .i64 0]) (t := 3) t3 s3
  have b0 := k4 _ _ b0
  have b1 := k4 _ _ b1
  have b2 := k4 _ _ b2
  obtain ⟨w5, h5, t5, b4, s5, k5⟩ := alloc_step (c := #[.int .i64 0, .int .i64 0]) (t := 3) t4 s4
  have b0 := k5 _ _ b0
  have b1 := k5 _ _ b1
  have b2 := k5 _ _ b2
  have b3 := k5 _ _ b3
  obtain ⟨w6, h6, t6, b5, s6, k6⟩ := alloc_step (c := #[.string ⟨#[48]⟩, .slice none 0 0, .int .i64 0, .string ⟨#[115]⟩, .slice (some ⟨w.heap.size + 1 + 1, 0, none⟩) 1 1, .int .i64 0, .string ⟨#[95, 43, 95]⟩, .slice (some ⟨w.heap.size + 1 + 1 + 1, 0, none⟩) 2 2, .int .i64 0, .string ⟨#[95, 101, 113, 95]⟩, .slice (some ⟨w.heap.size + 1 + 1 + 1 + 1, 0, none⟩) 2 2, .int .i64 1]) (t := 98) t5 s5
  have b0 := k6 _ _ b0
  have b1 := k6 _ _ b1
  have b2 := k6 _ _ b2
  have b3 := k6 _ _ b3
  have b4 := k6 _ _ b4
  have hv : SigIn w6 numSorts numOps (.agg #[.slice (some ⟨w.heap.size + 1, 0, none⟩) 2 2, .slice (some ⟨w.heap.size + 1 + 1 + 1 + 1 + 1, 0, none⟩) 4 4]) := by
    refine ⟨_, 2, _, 4, rfl, by unfold maxLen; simp [numSorts], by unfold maxLen; simp [numOps], fun i x hx => ⟨_, 0, rfl, lt_of_block b1, ?_⟩, fun i o ho => ⟨w.heap.size + 1 + 1 + 1 + 1 + 1, 0, ?_⟩⟩
    · match i, hx with
      | 0, hx => simp only [numSorts, List.getElem?_cons_zero, Option.some.injEq] at hx; subst hx; simp [World.cell?, b1]
      | 1, hx => simp only [numSorts, List.getElem?_cons_zero, List.getElem?_cons_succ, Option.some.injEq] at hx; subst hx; simp [World.cell?, b1]
      | i + 2, hx => simp [numSorts] at hx
    · match i, ho with
      | 0, ho =>
        simp only [numOps, List.getElem?_cons_zero, Option.some.injEq] at ho; subst ho
        exact ⟨_, rfl, lt_of_block b5, by simp [World.cell?, b5], by simp [World.cell?, b5], by simp [World.cell?, b5], RowI.nil _⟩
      | 1, ho =>
        simp only [numOps, List.getElem?_cons_zero, List.getElem?_cons_succ, Option.some.injEq] at ho; subst ho
        exact ⟨_, rfl, lt_of_block b5, by simp [World.cell?, b5], by simp [World.cell?, b5], by simp [World.cell?, b5], rowI_block (xs := [0]) b2 (by unfold maxLen; simp) 1⟩
      | 2, ho =>
        simp only [numOps, List.getElem?_cons_zero, List.getElem?_cons_succ, Option.some.injEq] at ho; subst ho
        exact ⟨_, rfl, lt_of_block b5, by simp [World.cell?, b5], by simp [World.cell?, b5], by simp [World.cell?, b5], rowI_block (xs := [0, 0]) b3 (by unfold maxLen; simp) 2⟩
      | 3, ho =>
        simp only [numOps, List.getElem?_cons_zero, List.getElem?_cons_succ, Option.some.injEq] at ho; subst ho
        exact ⟨_, rfl, lt_of_block b5, by simp [World.cell?, b5], by simp [World.cell?, b5], by simp [World.cell?, b5], rowI_block (xs := [0, 0]) b4 (by unfold maxLen; simp) 2⟩
      | i + 4, ho => simp [numOps] at ho
  have hall : w6 = (((((w.alloc (.cells #[.slice (some ⟨w.heap.size + 1, 0, none⟩) 2 2, .slice (some ⟨w.heap.size + 1 + 1 + 1 + 1 + 1, 0, none⟩) 4 4] 60)).alloc (.cells #[.string ⟨#[110, 97, 116]⟩, .string ⟨#[98, 111, 111, 108]⟩] 9)).alloc (.cells #[.int .i64 0] 3)).alloc (.cells #[.int .i64 0, .int .i64 0] 3)).alloc (.cells #[.int .i64 0, .int .i64 0] 3)).alloc (.cells #[.string ⟨#[48]⟩, .slice none 0 0, .int .i64 0, .string ⟨#[115]⟩, .slice (some ⟨w.heap.size + 1 + 1, 0, none⟩) 1 1, .int .i64 0, .string ⟨#[95, 43, 95]⟩, .slice (some ⟨w.heap.size + 1 + 1 + 1, 0, none⟩) 2 2, .int .i64 0, .string ⟨#[95, 101, 113, 95]⟩, .slice (some ⟨w.heap.size + 1 + 1 + 1 + 1, 0, none⟩) 2 2, .int .i64 1] 98) := by rw [h6, h5, h4, h3, h2, h1]
  have Hv := Lib.hid hv
  have Hall := Lib.hid hall
  have T6 := Lib.hid t6
  have B0 := Lib.hid b0
  clear hv hall t1 t2 t3 t4 t5 t6 b0 b1 b2 b3 b4 b5 s1 s2 s3 s4 s5 s6 k1 k2 k3 k4 k5 k6 h1 h2 h3 h4 h5 h6
  go_enter Try.func28, Try.ntmps28
  go_wp2
  rw [← Hall.out]
  exact bodyPost_ret (results_cell_row rfl _ _ w.heap.size _ #[.slice (some ⟨w.heap.size + 1, 0, none⟩) 2 2, .slice (some ⟨w.heap.size + 1 + 1 + 1 + 1 + 1, 0, none⟩) 4 4] _ _ rfl B0.out Try.underlying60 rfl (by kernel_rfl)) rfl ⟨⟨_, rfl, Hv.out⟩, T6.out⟩
end Go.Proofs.Ytljnmjehokijgaa

/- Same: two trees held against each other. -/
namespace Go.Proofs.Ytljnmjehokijgaa
open Go.RowKit

theorem run_Same (x y : Value) (w : World) : (callFunc 12 (#[x, y] ++ #[])).run Try.prog w = .ok (.enter 12 (#[x, y] ++ #[])) w := by kernel_rfl

set_option maxRecDepth 100000 in
set_option maxHeartbeats 1600000 in
theorem equalFunc_any (w0 : World) (la lb : List Tm) (hc : ∀ t ∈ la, ∀ (u : Tm) (v1 v2 : Value) (V : World), TmIn V t v1 → TmIn V u v2 →
      Calls Try.prog 12 #[v1, v2] V fun e w' => e = .returned (.bool (t.same u)) ∧ Turned V w' (fun _ => False))
    (va vb : Value) (w : World) (h0 : Turned w0 w (fun _ => False)) (ha : RowTm w0 va la) (hb : RowTm w0 vb lb) :
    Calls Try.prog 40 #[va, vb, .func (.func 12) #[] #[]] w fun e w' => e = .returned (.bool (Tm.sames la lb)) ∧ Turned w w' (fun _ => False) := by
  obtain ⟨aa, ca, rfl, hla, ra⟩ := ha
  obtain ⟨ab, cb, rfl, hlb, rb⟩ := hb
  have hla2 := hla
  unfold maxLen at hla2
  have Ra := Lib.hid ra
  have Rb := Lib.hid rb
  have Hc := Lib.hid hc
  have H0 := Lib.hid h0
  clear ra rb hc h0
  by_cases hl : la.length = lb.length
  rotate_left 1
  · rw [Tm.sames_false (by intro h; exact hl (by rw [h]))]
    have e1 : ((la.length : Int) == (lb.length : Int)) = false := by rw [beq_eq_false_iff_ne]; omega
    have e2 : ((la.length : Int) != (lb.length : Int)) = true := by simp only [bne, e1]; rfl
    go_enter Try.func40, Try.ntmps40
    go_wp2
    go_ret
    exact ⟨rfl, Turned.refl _ _⟩
  have e1 : ((la.length : Int) == (lb.length : Int)) = true := by simp; omega
  have e2 : ((la.length : Int) != (lb.length : Int)) = false := by simp; omega
  have Hl := Lib.hid hl
  clear hl
  go_enter Try.func40, Try.ntmps40
  go_wp2
  clear e1 e2
  go_loopw [17] (fun i wr => ∃ k : Nat, k ≤ la.length ∧ i = .int .i64 k ∧ la.take k = lb.take k ∧ Turned w wr (fun _ => False)) (fun i _ => la.length - (intOf i).toNat)
  case atStart => exact ⟨0, Nat.zero_le _, rfl, rfl, Turned.refl _ _⟩
  case round =>
    obtain ⟨k, hk, rfl, htk, ht⟩ := hrel
    have Htk := Lib.hid htk
    clear htk
    by_cases hlt : k < la.length
    · have hltb : k < lb.length := by rw [← Hl.out]; exact hlt
      have hki : (k : Int) < (la.length : Int) := by omega
      have hki2 : (k : Int) < (lb.length : Int) := by omega
      obtain ⟨ga, oa, sa, sc, rfl, lga, xa0, xa1, xa2, xat⟩ := tmsIn_at2 Ra.out k hlt
      obtain ⟨gb, ob, sb, sd, rfl, lgb, yb0, yb1, yb2, ybt⟩ := tmsIn_at2 Rb.out k hltb
      have h0r := H0.out.trans ht (fun _ _ hf => hf)
      have lga' : ga < wr.heap.size := Nat.lt_of_lt_of_le lga h0r.size
      have p0 := (h0r.cell (p := ⟨ga, oa + k * 3, none⟩) lga (fun hf => hf)).trans xa0
      have p1 := (h0r.cell (p := ⟨ga, oa + k * 3 + 1, none⟩) lga (fun hf => hf)).trans xa1
      have p2 := (h0r.cell (p := ⟨ga, oa + k * 3 + 2, none⟩) lga (fun hf => hf)).trans xa2
      obtain ⟨U, hU, tU, hCU⟩ := box1 wr (.int .i64 la[k].kind) (.int .i64 la[k].num) (.slice sa la[k].kids.length sc) 24
      have h0U := h0r.trans tU (fun _ _ hf => hf)
      have lgb' : gb < U.heap.size := Nat.lt_of_lt_of_le lgb h0U.size
      have r0 := (h0U.cell (p := ⟨gb, ob + k * 3, none⟩) lgb (fun hf => hf)).trans yb0
      have r1 := (h0U.cell (p := ⟨gb, ob + k * 3 + 1, none⟩) lgb (fun hf => hf)).trans yb1
      have r2 := (h0U.cell (p := ⟨gb, ob + k * 3 + 2, none⟩) lgb (fun hf => hf)).trans yb2
      obtain ⟨X, hX, tX, hCX⟩ := box1 U (.int .i64 lb[k].kind) (.int .i64 lb[k].num) (.slice sb lb[k].kids.length sd) 24
      obtain ⟨u0, u1, u2, lU⟩ := hCU X tX
      obtain ⟨x0, x1, x2, lX⟩ := hCX X (Turned.refl _ _)
      have h0X := h0U.trans tX (fun _ _ hf => hf)
      have hcall := Hc.out la[k] (List.getElem_mem hlt) lb[k] _ _ X (TmIn.turned h0X _ xat) (TmIn.turned h0X _ ybt)
      have hrun := run_Same (.agg #[.int .i64 la[k].kind, .int .i64 la[k].num, .slice sa la[k].kids.length sc]) (.agg #[.int .i64 lb[k].kind, .int .i64 lb[k].num, .slice sb lb[k].kids.length sd])
      have hne : la[k].same lb[k] = false → Tm.sames la lb = false := fun h => Tm.sames_false (by
        intro e
        subst e
        rw [(Tm.same_iff _ _).2 rfl] at h
        cases h)
      have hnx : la[k].same lb[k] = true → la.take (k + 1) = lb.take (k + 1) := fun h => tm_take Htk.out hlt hltb ((Tm.same_iff _ _).1 h)
      have Hne := Lib.hid hne
      have Hnx := Lib.hid hnx
      have Hcall := Lib.hid hcall
      have HU := Lib.hid hU
      have HX := Lib.hid hX
      have Ht := Lib.hid ((ht.trans tU (fun _ _ hf => hf)).trans tX (fun _ _ hf => hf))
      clear xa0 xa1 xa2 xat yb0 yb1 yb2 ybt ht lga lgb hne hnx hcall hU hX hCU hCX tU tX h0r h0U h0X
      generalize la[k].same lb[k] = sm at *
      generalize la[k].kind = xk at *
      generalize la[k].num = xn at *
      generalize la[k].kids.length = xm at *
      generalize lb[k].kind = yk at *
      generalize lb[k].num = yn at *
      generalize lb[k].kids.length = ym at *
      go_upto_region 6 with fail
      rw [← HU.out]
      go_upto_region 7 with fail
      rw [← HX.out]
      go_wp2_with fail
      refine Hcall.out.mono ?_
      rintro e w1 ⟨rfl, t1⟩
      have T3 := Lib.hid (Ht.out.trans t1 (fun _ _ hf => hf))
      clear t1 p0 p1 p2 r0 r1 r2 u0 u1 u2 lU x0 x1 x2 lX hrun
      cases sm
      · have hf := Hne.out rfl
        have Hf := Lib.hid hf
        clear hf Hne
        go_wp2
        go_ret
        rw [Hf.out]
        exact ⟨rfl, T3.out⟩
      · have hk1 := Hnx.out rfl
        have Hk1 := Lib.hid hk1
        clear hk1
        go_wp2
        go_roundw
        case rel => exact ⟨k + 1, by omega, by go_num, Hk1.out, T3.out⟩
        case measure => simp [intOf]; omega
    · obtain rfl : k = la.length := by omega
      have hfin : Tm.sames la lb = true := by
        rw [Tm.sames_iff]
        have h5 := Htk.out
        rwa [List.take_of_length_le (Nat.le_refl _), List.take_of_length_le (by rw [Hl.out]; exact Nat.le_refl _)] at h5
      have Hfin := Lib.hid hfin
      clear hfin
      go_wp2
      go_ret
      rw [Hfin.out]
      exact ⟨rfl, ht⟩

set_option maxRecDepth 100000 in
set_option maxHeartbeats 1600000 in
theorem same_any : ∀ (ta tb : Tm) (va vb : Value) (w : World), TmIn w ta va → TmIn w tb vb →
    Calls Try.prog 12 #[va, vb] w fun e w' => e = .returned (.bool (ta.same tb)) ∧ Turned w w' (fun _ => False) := by
  intro ta
  refine Tm.ind (P := fun ta => ∀ (tb : Tm) (va vb : Value) (w : World), TmIn w ta va → TmIn w tb vb →
    Calls Try.prog 12 #[va, vb] w fun e w' => e = .returned (.bool (ta.same tb)) ∧ Turned w w' (fun _ => False)) ?_ ta
  clear ta
  intro ka na la ih tb va vb w ha hb
  obtain ⟨kb, nb, lb⟩ := tb
  obtain ⟨aa, ca, rfl, hla, ra⟩ := ha
  obtain ⟨ab, cb, rfl, hlb, rb⟩ := hb
  obtain ⟨W, hW, tW, hC⟩ := box2 w (.int .i64 ka) (.int .i64 na) (.slice aa la.length ca) (.int .i64 kb) (.int .i64 nb) (.slice ab lb.length cb) 24 24
  obtain ⟨c0, c1, c2, d0, d1, d2, lW⟩ := hC W (Turned.refl _ _)
  have Hcall := Lib.hid (equalFunc_any w la lb (fun t ht u v1 v2 V h1 h2 => ih t ht u v1 v2 V h1 h2) _ _ W tW ⟨aa, ca, rfl, hla, ra⟩ ⟨ab, cb, rfl, hlb, rb⟩)
  have HW := Lib.hid hW
  have TW := Lib.hid tW
  clear hW hC tW ih
  by_cases hk : ka = kb
  rotate_left 1
  · rw [Tm.same_false (by intro h; simp only [Tm.node.injEq] at h; exact hk h.1)]
    have e1 : (ka == kb) = false := by simpa using hk
    go_enter Try.func12, Try.ntmps12
    go_upto_region 1 with fail
    rw [← HW.out]
    go_wp2
    go_ret
    exact ⟨rfl, TW.out⟩
  subst hk
  by_cases hn : na = nb
  rotate_left 1
  · rw [Tm.same_false (by intro h; simp only [Tm.node.injEq] at h; exact hn h.2.1)]
    have e1 : (na == nb) = false := by simpa using hn
    go_enter Try.func12, Try.ntmps12
    go_upto_region 1 with fail
    rw [← HW.out]
    go_wp2
    go_ret
    exact ⟨rfl, TW.out⟩
  subst hn
  have hv : (Tm.node ka na la).same (.node ka na lb) = Tm.sames la lb := by simp [Tm.same]
  rw [hv]
  clear hv
  go_enter Try.func12, Try.ntmps12
  go_upto_region 1 with fail
  rw [← HW.out]
  go_wp2_with fail
  refine Hcall.out.mono ?_
  rintro e w1 ⟨rfl, t1⟩
  go_wp2
  go_ret
  exact ⟨rfl, TW.out.trans t1 (fun _ _ hf => hf)⟩
end Go.Proofs.Ytljnmjehokijgaa

/- Compare: the order of trees. -/
namespace Go.Proofs.Ytljnmjehokijgaa
open Go.RowKit

theorem turn_keep {a b : World} (t : Turned a b (fun _ => False)) {k : Nat} {o : Obj} (h : a.heap[k]? = some o) : b.heap[k]? = some o := (t.block _ (lt_of_block h) (fun hf => hf)).trans h
theorem alloc_keep {a : World} {o' : Obj} {k : Nat} {o : Obj} (h : a.heap[k]? = some o) : (a.alloc o').heap[k]? = some o := turn_keep ((Turned.refl a _).alloc o') h
theorem alloc_at {a : World} {c : Array Value} {t : TypeId} {k : Nat} (h : a.heap.size = k) : (a.alloc (.cells c t)).heap[k]? = some (.cells c t (0, 0)) := by subst h; exact heap_alloc_new _ _

theorem isNaN_any (a : Int) (w : World) : Calls Try.prog 78 #[.int .i64 a] w fun e w' => e = .returned (.bool false) ∧ w = w' := by
  have e1 : (a != a) = false := by simp
  go_enter Try.func78, Try.ntmps78
  go_wp2
  go_ret
  exact ⟨rfl, rfl⟩

set_option maxRecDepth 100000 in
theorem cmpInt_any (a b : Int) (w : World) : Calls Try.prog 38 #[.int .i64 a, .int .i64 b] w fun e w' => e = .returned (.int .i64 (ord a b)) ∧ w = w' := by
  unfold ord
  by_cases h1 : a < b
  · rw [if_pos h1]
    go_enter Try.func38, Try.ntmps38
    go_wp2_with fail
    refine (isNaN_any _ _).mono ?_
    rintro e w' ⟨rfl, rfl⟩
    go_wp2_with fail
    refine (isNaN_any _ _).mono ?_
    rintro e w' ⟨rfl, rfl⟩
    go_wp2
    go_ret
    exact ⟨rfl, rfl⟩
  · rw [if_neg h1]
    by_cases h2 : b < a
    · rw [if_pos h2]
      go_enter Try.func38, Try.ntmps38
      go_wp2_with fail
      refine (isNaN_any _ _).mono ?_
      rintro e w' ⟨rfl, rfl⟩
      go_wp2_with fail
      refine (isNaN_any _ _).mono ?_
      rintro e w' ⟨rfl, rfl⟩
      go_wp2
      go_ret
      exact ⟨rfl, rfl⟩
    · rw [if_neg h2]
      go_enter Try.func38, Try.ntmps38
      go_wp2_with fail
      refine (isNaN_any _ _).mono ?_
      rintro e w' ⟨rfl, rfl⟩
      go_wp2_with fail
      refine (isNaN_any _ _).mono ?_
      rintro e w' ⟨rfl, rfl⟩
      go_wp2
      go_ret
      exact ⟨rfl, rfl⟩

/-- The first number that is not 0. -/
def orI : List Int → Int
  | [] => 0
  | x :: l => if x ≠ 0 then x else orI l

theorem orI_at : ∀ (l : List Int) (k : Nat) (h : k < l.length), (∀ x ∈ l.take k, x = 0) → l[k] ≠ 0 → orI l = l[k]
  | x :: l, 0, _, _, h2 => by simp only [List.getElem_cons_zero] at h2 ⊢; simp [orI, h2]
  | x :: l, k + 1, h, h1, h2 => by
    have hx : x = 0 := h1 x (by simp)
    simp only [orI, hx, ne_eq, not_true, if_false, List.getElem_cons_succ] at h2 ⊢
    exact orI_at l k (by simpa using h) (fun y hy => h1 y (by simp [hy])) h2

theorem orI_none : ∀ (l : List Int), (∀ x ∈ l, x = 0) → orI l = 0
  | [], _ => rfl
  | x :: l, h => by
    have hx : x = 0 := h x (.head _)
    simp only [orI, hx, ne_eq, not_true, if_false]
    exact orI_none l (fun y hy => h y (.tail _ hy))

set_option maxRecDepth 100000 in
set_option maxHeartbeats 1600000 in
theorem or_any (l : List Int) (v : Value) (w : World) (ha : RowI w v l) : Calls Try.prog 37 #[v] w fun e w' => e = .returned (.int .i64 (orI l)) ∧ w = w' := by
  have ha2 := ha
  obtain ⟨aa, ca, rfl, hla, -⟩ := ha2
  have hla2 := hla
  unfold maxLen at hla2
  have Ha := Lib.hid ha
  clear ha
  go_enter Try.func37, Try.ntmps37
  go_wp2
  go_loopw [8] (fun i wr => ∃ k : Nat, k ≤ l.length ∧ i = .int .i64 k ∧ (∀ x ∈ l.take k, x = 0) ∧ w = wr) (fun i _ => l.length - (intOf i).toNat)
  case atStart => exact ⟨0, Nat.zero_le _, rfl, by simp, rfl⟩
  case round =>
    obtain ⟨k, hk, rfl, htk, rfl⟩ := hrel
    have Htk := Lib.hid htk
    clear htk
    by_cases hlt : k < l.length
    · have hki : (k : Int) < (l.length : Int) := by omega
      obtain ⟨ga, oa, rfl, lga, xa⟩ := Ha.out.at k hlt
      have Hyes := Lib.hid (fun (h : l[k] ≠ 0) => orI_at l k hlt Htk.out h)
      have Hno := Lib.hid (fun (h : l[k] = 0) => show ∀ x ∈ l.take (k + 1), x = 0 by
        rw [List.take_succ_eq_append_getElem hlt]
        intro x hx
        rcases List.mem_append.1 hx with hx | hx
        · exact Htk.out x hx
        · rw [List.mem_singleton.1 hx]; exact h)
      generalize l[k] = x at *
      by_cases hx : x = 0
      · have hf := Hno.out hx
        have Hf := Lib.hid hf
        subst hx
        clear hf Hyes Hno
        go_wp2
        go_roundw
        case rel => exact ⟨k + 1, by omega, by go_num, Hf.out, trivial⟩
        case measure => simp [intOf]; omega
      · have hf := Hyes.out hx
        have Hf := Lib.hid hf
        have e1 : (x == 0) = false := by simpa using hx
        have e2 : (x != 0) = true := by simpa using hx
        clear hf Hyes Hno hx
        go_wp2
        go_ret
        rw [Hf.out]
        simp
    · obtain rfl : k = l.length := by omega
      have hfin : orI l = 0 := orI_none l (by
        have h5 := Htk.out
        rwa [List.take_of_length_le (Nat.le_refl _)] at h5)
      have Hfin := Lib.hid hfin
      clear hfin
      go_wp2
      go_ret
      rw [Hfin.out]
      exact ⟨rfl, rfl⟩

theorem run_Compare (x y : Value) (w : World) : (callFunc 11 (#[x, y] ++ #[])).run Try.prog w = .ok (.enter 11 (#[x, y] ++ #[])) w := by kernel_rfl

set_option maxRecDepth 100000 in
set_option maxHeartbeats 1600000 in
theorem compareFunc_any (w0 : World) (la lb : List Tm) (hl : la.length = lb.length) (hc : ∀ t ∈ la, ∀ (u : Tm) (v1 v2 : Value) (V : World), TmIn V t v1 → TmIn V u v2 →
      Calls Try.prog 11 #[v1, v2] V fun e w' => e = .returned (.int .i64 (t.cmp u)) ∧ Turned V w' (fun _ => False))
    (va vb : Value) (w : World) (h0 : Turned w0 w (fun _ => False)) (ha : RowTm w0 va la) (hb : RowTm w0 vb lb) :
    Calls Try.prog 39 #[va, vb, .func (.func 11) #[] #[]] w fun e w' => e = .returned (.int .i64 (Tm.cmps la lb)) ∧ Turned w w' (fun _ => False) := by
  obtain ⟨aa, ca, rfl, hla, ra⟩ := ha
  obtain ⟨ab, cb, rfl, hlb, rb⟩ := hb
  have hla2 := hla
  unfold maxLen at hla2
  have Ra := Lib.hid ra
  have Rb := Lib.hid rb
  have Hc := Lib.hid hc
  have H0 := Lib.hid h0
  have Hl := Lib.hid hl
  clear ra rb hc h0 hl
  go_enter Try.func39, Try.ntmps39
  go_wp2
  go_loopw [13] (fun i wr => ∃ k : Nat, k ≤ la.length ∧ i = .int .i64 k ∧ Tm.cmps (la.take k) (lb.take k) = 0 ∧ Turned w wr (fun _ => False)) (fun i _ => la.length - (intOf i).toNat)
  case atStart => exact ⟨0, Nat.zero_le _, rfl, by simp [Tm.cmps], Turned.refl _ _⟩
  case round =>
    obtain ⟨k, hk, rfl, htk, ht⟩ := hrel
    have Htk := Lib.hid htk
    clear htk
    have hlen : (la.take k).length = (lb.take k).length := by rw [List.length_take, List.length_take, Hl.out]
    by_cases hlt : k < la.length
    · have hltb : k < lb.length := by rw [← Hl.out]; exact hlt
      have hki : (k : Int) < (la.length : Int) := by omega
      have hki2 : (k : Int) < (lb.length : Int) := by omega
      have hki3 : ¬ (lb.length : Int) ≤ (k : Int) := by omega
      obtain ⟨ga, oa, sa, sc, rfl, lga, xa0, xa1, xa2, xat⟩ := tmsIn_at2 Ra.out k hlt
      obtain ⟨gb, ob, sb, sd, rfl, lgb, yb0, yb1, yb2, ybt⟩ := tmsIn_at2 Rb.out k hltb
      have h0r := H0.out.trans ht (fun _ _ hf => hf)
      have lga' : ga < wr.heap.size := Nat.lt_of_lt_of_le lga h0r.size
      have p0 := (h0r.cell (p := ⟨ga, oa + k * 3, none⟩) lga (fun hf => hf)).trans xa0
      have p1 := (h0r.cell (p := ⟨ga, oa + k * 3 + 1, none⟩) lga (fun hf => hf)).trans xa1
      have p2 := (h0r.cell (p := ⟨ga, oa + k * 3 + 2, none⟩) lga (fun hf => hf)).trans xa2
      obtain ⟨U, hU, tU, hCU⟩ := box1 wr (.int .i64 la[k].kind) (.int .i64 la[k].num) (.slice sa la[k].kids.length sc) 24
      have h0U := h0r.trans tU (fun _ _ hf => hf)
      have lgb' : gb < U.heap.size := Nat.lt_of_lt_of_le lgb h0U.size
      have r0 := (h0U.cell (p := ⟨gb, ob + k * 3, none⟩) lgb (fun hf => hf)).trans yb0
      have r1 := (h0U.cell (p := ⟨gb, ob + k * 3 + 1, none⟩) lgb (fun hf => hf)).trans yb1
      have r2 := (h0U.cell (p := ⟨gb, ob + k * 3 + 2, none⟩) lgb (fun hf => hf)).trans yb2
      obtain ⟨X, hX, tX, hCX⟩ := box1 U (.int .i64 lb[k].kind) (.int .i64 lb[k].num) (.slice sb lb[k].kids.length sd) 24
      obtain ⟨u0, u1, u2, lU⟩ := hCU X tX
      obtain ⟨x0, x1, x2, lX⟩ := hCX X (Turned.refl _ _)
      have h0X := h0U.trans tX (fun _ _ hf => hf)
      have hcall := Hc.out la[k] (List.getElem_mem hlt) lb[k] _ _ X (TmIn.turned h0X _ xat) (TmIn.turned h0X _ ybt)
      have hrun := run_Compare (.agg #[.int .i64 la[k].kind, .int .i64 la[k].num, .slice sa la[k].kids.length sc]) (.agg #[.int .i64 lb[k].kind, .int .i64 lb[k].num, .slice sb lb[k].kids.length sd])
      have hsn : Tm.cmps (la.take (k + 1)) (lb.take (k + 1)) = la[k].cmp lb[k] := by
        rw [List.take_succ_eq_append_getElem hlt, List.take_succ_eq_append_getElem hltb]
        exact Tm.cmps_snoc _ _ _ _ hlen Htk.out
      have hst : la[k].cmp lb[k] ≠ 0 → Tm.cmps la lb = la[k].cmp lb[k] := fun h => by
        rw [← hsn] at h ⊢
        have := Tm.cmps_stop (la.take (k + 1)) (lb.take (k + 1)) (la.drop (k + 1)) (lb.drop (k + 1)) (by rw [List.length_take, List.length_take, Hl.out]) h
        rwa [List.take_append_drop, List.take_append_drop] at this
      have Hsn := Lib.hid hsn
      have Hst := Lib.hid hst
      have Hcall := Lib.hid hcall
      have HU := Lib.hid hU
      have HX := Lib.hid hX
      have Ht := Lib.hid ((ht.trans tU (fun _ _ hf => hf)).trans tX (fun _ _ hf => hf))
      clear xa0 xa1 xa2 xat yb0 yb1 yb2 ybt ht lga lgb hsn hst hcall hU hX hCU hCX tU tX h0r h0U h0X hlen
      generalize la[k].cmp lb[k] = sm at *
      generalize la[k].kind = xk at *
      generalize la[k].num = xn at *
      generalize la[k].kids.length = xm at *
      generalize lb[k].kind = yk at *
      generalize lb[k].num = yn at *
      generalize lb[k].kids.length = ym at *
      go_upto_region 4 with fail
      rw [← HU.out]
      go_upto_region 7 with fail
      rw [← HX.out]
      go_wp2_with fail
      refine Hcall.out.mono ?_
      rintro e w1 ⟨rfl, t1⟩
      have T3 := Lib.hid (Ht.out.trans t1 (fun _ _ hf => hf))
      clear t1 p0 p1 p2 r0 r1 r2 u0 u1 u2 lU x0 x1 x2 lX hrun
      by_cases hsm : sm = 0
      · subst hsm
        go_wp2
        go_roundw
        case rel => exact ⟨k + 1, by omega, by go_num, Hsn.out, T3.out⟩
        case measure => simp [intOf]; omega
      · have Hf := Lib.hid (Hst.out hsm)
        have e1 : (sm == 0) = false := by simpa using hsm
        have e2 : (sm != 0) = true := by simpa using hsm
        clear hsm Hst
        go_wp2
        go_ret
        rw [Hf.out]
        exact ⟨rfl, T3.out⟩
    · obtain rfl : k = la.length := by omega
      have hfin : Tm.cmps la lb = 0 := by
        have h5 := Htk.out
        rwa [List.take_of_length_le (Nat.le_refl _), List.take_of_length_le (by rw [Hl.out]; exact Nat.le_refl _)] at h5
      have Hfin := Lib.hid hfin
      have e1 : ¬ (la.length : Int) < (lb.length : Int) := by have := Hl.out; omega
      clear hfin hlen
      go_wp2
      go_ret
      rw [Hfin.out]
      exact ⟨rfl, ht⟩

set_option maxRecDepth 100000 in
set_option maxHeartbeats 3200000 in
theorem compare_any : ∀ (ta tb : Tm) (va vb : Value) (w : World), TmIn w ta va → TmIn w tb vb →
    Calls Try.prog 11 #[va, vb] w fun e w' => e = .returned (.int .i64 (ta.cmp tb)) ∧ Turned w w' (fun _ => False) := by
  intro ta
  refine Tm.ind (P := fun ta => ∀ (tb : Tm) (va vb : Value) (w : World), TmIn w ta va → TmIn w tb vb →
    Calls Try.prog 11 #[va, vb] w fun e w' => e = .returned (.int .i64 (ta.cmp tb)) ∧ Turned w w' (fun _ => False)) ?_ ta
  clear ta
  intro ka na la ih tb va vb w ha hb
  obtain ⟨kb, nb, lb⟩ := tb
  obtain ⟨aa, ca, rfl, hla, ra⟩ := ha
  obtain ⟨ab, cb, rfl, hlb, rb⟩ := hb
  obtain ⟨W, hW, tW, hC⟩ := box2 w (.int .i64 ka) (.int .i64 na) (.slice aa la.length ca) (.int .i64 kb) (.int .i64 nb) (.slice ab lb.length cb) 24 24
  have hv : (Tm.node ka na la).cmp (.node kb nb lb) = if orI [ord ka kb, ord na nb, ord la.length lb.length] ≠ 0 then orI [ord ka kb, ord na nb, ord la.length lb.length] else Tm.cmps la lb := by
    simp only [Tm.cmp, orI]
    by_cases h1 : ord ka kb = 0
    · by_cases h2 : ord na nb = 0
      · by_cases h3 : ord la.length lb.length = 0
        · simp [h1, h2, h3]
        · simp [h1, h2, h3]
      · simp [h1, h2]
    · simp [h1]
  have Hv := Lib.hid hv
  have hz : orI [ord ka kb, ord na nb, ord la.length lb.length] = 0 → la.length = lb.length := fun h => by
    simp only [orI] at h
    split at h
    · contradiction
    · split at h
      · contradiction
      · split at h
        · contradiction
        · rename_i h3
          have := ord_zero.1 (show ord la.length lb.length = 0 by simpa using h3)
          omega
  have Hcall := Lib.hid (fun (hl : la.length = lb.length) (V : World) (hV : Turned W V (fun _ => False)) => compareFunc_any w la lb hl (fun t ht u v1 v2 V h1 h2 => ih t ht u v1 v2 V h1 h2) _ _ V (tW.trans hV (fun _ _ hf => hf)) ⟨aa, ca, rfl, hla, ra⟩ ⟨ab, cb, rfl, hlb, rb⟩)
  have HC := Lib.hid hC
  have HW := Lib.hid hW
  have TW := Lib.hid tW
  have Hz := Lib.hid hz
  clear hW hC tW ih hv hz ra rb hla hlb
  obtain ⟨c0, c1, c2, d0, d1, d2, lW⟩ := HC.out W (Turned.refl _ _)
  have tt : Turned W W.drew (fun _ => False) := (Turned.refl W _).drew
  go_enter Try.func11, Try.ntmps11
  go_upto_region 1 with fail
  rw [← HW.out]
  go_cut [5] from 6 to 24 (fun c wx => c = .int .i64 (orI [ord ka kb, ord na nb, ord la.length lb.length]) ∧ Turned W wx (fun _ => False))
  case first =>
    go_region_held3 (fun w' => w'.cell? ⟨w.heap.size, 0, none⟩ = some (.int .i64 ka) ∧ w'.cell? ⟨w.heap.size, 1, none⟩ = some (.int .i64 na) ∧ w'.cell? ⟨w.heap.size, 2, none⟩ = some (.slice aa la.length ca) ∧
        w'.cell? ⟨w.heap.size + 1, 0, none⟩ = some (.int .i64 kb) ∧ w'.cell? ⟨w.heap.size + 1, 1, none⟩ = some (.int .i64 nb) ∧ w'.cell? ⟨w.heap.size + 1, 2, none⟩ = some (.slice ab lb.length cb) ∧ w.heap.size + 1 < w'.heap.size)
      (first | exact HC.out _ (by assumption) | exact HC.out _ (by repeat (first | assumption | exact Turned.refl _ _ | apply Turned.alloc | apply Turned.drew)))
      (first
        | (go_at_call 38; refine (cmpInt_any _ _ _).mono ?_; rintro e wA ⟨rfl, rfl⟩)
        | (go_at_call 37; refine (or_any [ord ka kb, ord na nb, ord la.length lb.length] _ _ (rowI_block (xs := [ord ka kb, ord na nb, ord la.length lb.length]) (by exact heap_alloc_new W (.cells #[.int .i64 (ord ka kb), .int .i64 (ord na nb), .int .i64 (ord la.length lb.length)] 3)) (by unfold maxLen; simp) 3)).mono ?_; rintro e wA ⟨rfl, rfl⟩))
    all_goals
      go_wp2
      go_meet
      exact ⟨rfl, by repeat (first | assumption | exact Turned.refl _ _ | apply Turned.alloc | apply Turned.drew)⟩
  case rest =>
  obtain ⟨rfl, hR⟩ := hcut
  clear c0 c1 c2 d0 d1 d2 lW tt
  have HR := Lib.hid hR
  obtain ⟨c0, c1, c2, d0, d1, d2, lW⟩ := HC.out wc hR
  clear hR
  generalize orI [ord ka kb, ord na nb, ord la.length lb.length] = r at *
  by_cases hr : r = 0
  · subst hr
    have Hcc := Lib.hid (Hcall.out (Hz.out rfl) wc HR.out)
    go_wp2_with fail
    refine Hcc.out.mono ?_
    rintro e w1 ⟨rfl, t1⟩
    go_wp2
    go_ret
    rw [Hv.out, if_neg (by simp)]
    exact ⟨rfl, (TW.out.trans HR.out (fun _ _ hf => hf)).trans t1 (fun _ _ hf => hf)⟩
  · have e1 : (r == 0) = false := by simpa using hr
    have e2 : (r != 0) = true := by simpa using hr
    go_wp2
    go_ret
    rw [Hv.out, if_pos hr]
    exact ⟨rfl, TW.out.trans HR.out (fun _ _ hf => hf)⟩
end Go.Proofs.Ytljnmjehokijgaa

/- Trees with other numbers: moved. -/
namespace Go.Proofs.Ytljnmjehokijgaa
open Go.RowKit

mutual
/-- A tree with other numbers. -/
def Tm.mapN (f : Int → Int → Int) : Tm → Tm
  | .node k n l => .node k (f k n) (Tm.mapNs f l)
def Tm.mapNs (f : Int → Int → Int) : List Tm → List Tm
  | [] => []
  | t :: l => t.mapN f :: Tm.mapNs f l
end

theorem Tm.mapNs_map (f : Int → Int → Int) : ∀ l : List Tm, Tm.mapNs f l = l.map (Tm.mapN f)
  | [] => rfl
  | t :: l => by simp only [Tm.mapNs, List.map_cons, Tm.mapNs_map f l]

theorem mapNs_take (f : Int → Int → Int) (l : List Tm) (k : Nat) (hk : k < l.length) : Tm.mapNs f (l.take (k + 1)) = Tm.mapNs f (l.take k) ++ [l[k].mapN f] := by
  rw [Tm.mapNs_map, Tm.mapNs_map, List.take_succ_eq_append_getElem hk, List.map_append]
  rfl

/-- No old block. -/
def NoR (_ : Nat) : Prop := False

/-- Moved: the variables from fr on have numbers greater by bb. -/
def movF (fr bb : Int) (k n : Int) : Int := if k = 1 ∧ fr ≤ n then n + bb else n

theorem Tm.rights_mem : ∀ {l : List Tm} {t : Tm}, Tm.rights l = true → t ∈ l → t.right = true := fun {l} {t} h ht => by
  rw [Tm.rights_all, List.all_eq_true] at h
  exact h t ht

theorem Tm.right_kids {k n : Int} {l : List Tm} (h : (Tm.node k n l).right = true) : Tm.rights l = true ∧ (k = 1 → l = []) := by
  simp only [Tm.right, Bool.and_eq_true] at h
  refine ⟨h.2, fun hk => ?_⟩
  have h2 := h.1.1.2
  subst hk
  simp only [beq_self_eq_true, Bool.true_and, Bool.not_eq_true', decide_eq_false_iff_not] at h2
  exact List.length_eq_zero_iff.1 (by omega)

end Go.Proofs.Ytljnmjehokijgaa

/- A substitution behind another one. -/
namespace Go.Proofs.Ytljnmjehokijgaa

mutual
theorem Tm.repl_repl (l m : List Tm) : ∀ t : Tm, (∀ x, t.vin x → 0 ≤ x ∧ x < l.length) → (t.repl l).repl m = t.repl (l.map (Tm.repl m))
  | .node k n ls, h => by
    by_cases hk : k = 1
    · subst hk
      have hx := h n (by simp [Tm.vin])
      have hn : n.toNat < l.length := by omega
      simp only [Tm.repl, if_true, List.getElem?_eq_getElem hn, Option.getD_some, List.getElem?_map, Option.map_some]
    · have h2 : ∀ x, Tm.vins x ls → 0 ≤ x ∧ x < l.length := fun x hx => h x (by simp only [Tm.vin]; rw [if_neg hk]; exact hx)
      simp only [Tm.repl, if_neg hk, Tm.repls_repls l m ls h2]
theorem Tm.repls_repls (l m : List Tm) : ∀ ls : List Tm, (∀ x, Tm.vins x ls → 0 ≤ x ∧ x < l.length) → Tm.repls m (Tm.repls l ls) = Tm.repls (l.map (Tm.repl m)) ls
  | [], _ => rfl
  | t :: ls, h => by
    simp only [Tm.repls]
    rw [Tm.repl_repl l m t (fun x hx => h x (by simp only [Tm.vins]; exact .inl hx)), Tm.repls_repls l m ls (fun x hx => h x (by simp only [Tm.vins]; exact .inr hx))]
end

mutual
theorem Tm.vin_repl (l : List Tm) (x : Int) : ∀ t : Tm, (∀ y, t.vin y → 0 ≤ y ∧ y < l.length) → (t.repl l).vin x → ∃ y ∈ l, y.vin x
  | .node k n ls, h, hx => by
    by_cases hk : k = 1
    · subst hk
      have hy := h n (by simp [Tm.vin])
      have hn : n.toNat < l.length := by omega
      simp only [Tm.repl, if_true, List.getElem?_eq_getElem hn, Option.getD_some] at hx
      exact ⟨_, List.getElem_mem hn, hx⟩
    · have h2 : ∀ y, Tm.vins y ls → 0 ≤ y ∧ y < l.length := fun y hy => h y (by simp only [Tm.vin]; rw [if_neg hk]; exact hy)
      simp only [Tm.repl, if_neg hk, Tm.vin] at hx
      exact Tm.vins_repls l x ls h2 hx
theorem Tm.vins_repls (l : List Tm) (x : Int) : ∀ ls : List Tm, (∀ y, Tm.vins y ls → 0 ≤ y ∧ y < l.length) → Tm.vins x (Tm.repls l ls) → ∃ y ∈ l, y.vin x
  | t :: ls, h, hx => by
    simp only [Tm.repls, Tm.vins] at hx
    rcases hx with hx | hx
    · exact Tm.vin_repl l x t (fun y hy => h y (by simp only [Tm.vins]; exact .inl hy)) hx
    · exact Tm.vins_repls l x ls (fun y hy => h y (by simp only [Tm.vins]; exact .inr hy)) hx
end

theorem mostI_mem : ∀ (l : List Int) (n : Int), mostI l n = n ∨ mostI l n ∈ l
  | [], n => .inl rfl
  | y :: l, n => by
    simp only [mostI]
    rcases mostI_mem l (max n y) with h | h
    · rw [h]
      rcases Int.le_total n y with h2 | h2
      · rw [Int.max_eq_right h2]; exact .inr (List.mem_cons_self ..)
      · rw [Int.max_eq_left h2]; exact .inl rfl
    · exact .inr (List.mem_cons_of_mem _ h)

theorem Tm.top_lt {t : Tm} (h : t.isTree = true) {n : Nat} (hx : ∀ x, t.vin x → x < (n : Int)) : t.top < (n : Int) := by
  have hv : varsOf [t] = t.vars [] := by simp [varsOf, h, Tm.varss]
  unfold Tm.top
  rcases mostI_mem (varsOf [t]) (-1) with h1 | h1
  · rw [h1]; omega
  · have h2 := h1
    rw [hv] at h2
    rw [Tm.vars_mem] at h2
    rcases h2 with h2 | h2
    · simp at h2
    · have := hx _ h2
      rwa [hv] at *

/-- Where Subst gives a tree. -/
theorem Tm.subst_ok {t : Tm} {l : List Tm} {x : Tm} (h : t.subst l = (x, 0)) : t.isTree = true ∧ l.all Tm.isTree = true ∧ t.top < (l.length : Int) ∧ x = t.repl l ∧ x.isTree = true := by
  unfold Tm.subst at h
  split at h
  · rename_i h1
    split at h
    · simp at h
    · rename_i h2
      unfold Tm.fit at h
      split at h
      · rename_i h3
        simp only [Prod.mk.injEq, and_true] at h
        subst h
        exact ⟨h1.1, h1.2, by omega, rfl, h3⟩
      · simp at h
  · simp at h

theorem Tm.subst_of {t : Tm} {l : List Tm} (h1 : t.isTree = true) (h2 : l.all Tm.isTree = true) (h3 : t.top < (l.length : Int)) : t.subst l = (t.repl l).fit := by
  unfold Tm.subst
  rw [if_pos ⟨h1, h2⟩, if_neg (by omega)]

/-- A substitution behind another one is that of the elements of the first one with the second one put in. -/
theorem Tm.behind {t x : Tm} {l m : List Tm} (h : t.subst l = (x, 0)) (hm : m.all Tm.isTree = true) (hz : ∀ y ∈ l, (y.subst m).2 = 0) : x.subst m = t.subst (l.map fun y => (y.subst m).1) := by
  obtain ⟨h1, h2, h3, rfl, h5⟩ := Tm.subst_ok h
  have hy : ∀ y ∈ l, y.top < (m.length : Int) ∧ (y.subst m).1 = y.repl m ∧ (y.repl m).isTree = true := by
    intro y hyl
    have : y.subst m = ((y.subst m).1, 0) := by rw [← hz y hyl]
    obtain ⟨-, -, k3, k4, k5⟩ := Tm.subst_ok this
    rw [k4] at k5
    exact ⟨k3, k4, k5⟩
  have hin : ∀ z, t.vin z → 0 ≤ z ∧ z < l.length := fun z hz => by
    have := Tm.vin_top h1 hz
    omega
  have he : (l.map fun y => (y.subst m).1) = l.map (Tm.repl m) := List.map_congr_left fun y hyl => (hy y hyl).2.1
  rw [he, Tm.subst_of h5 hm (Tm.top_lt h5 fun z hzx => ?_), Tm.subst_of h1 ?_ (by rw [List.length_map]; exact h3), Tm.repl_repl l m t hin]
  · rw [List.all_eq_true]
    intro z hzl
    obtain ⟨y, hyl, rfl⟩ := List.mem_map.1 hzl
    exact (hy y hyl).2.2
  · obtain ⟨y, hyl, hyz⟩ := Tm.vin_repl l z t hin hzx
    have hyt : y.isTree = true := by rw [List.all_eq_true] at h2; exact h2 y hyl
    have := Tm.vin_top hyt hyz
    have := (hy y hyl).1
    omega
end Go.Proofs.Ytljnmjehokijgaa
