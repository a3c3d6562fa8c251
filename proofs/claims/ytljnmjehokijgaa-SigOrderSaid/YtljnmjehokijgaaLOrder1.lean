/- Parts of the proof, one behind the other. -/
import Derived.Test.YtljnmjehokijgaaMg16

/- The order of trees is total. -/
namespace Go.Proofs.Ytljnmjehokijgaa

theorem ord_neg (a b : Int) : ord b a = -ord a b := by
  unfold ord
  split <;> split <;> (try split) <;> omega

theorem ord_range (a b : Int) : -1 ≤ ord a b ∧ ord a b ≤ 1 := by
  unfold ord
  split
  · omega
  · split <;> omega

mutual
theorem Tm.cmp_neg : ∀ a b : Tm, b.cmp a = -a.cmp b
  | .node k n l, .node k' n' l' => by
    have h1 := ord_neg k k'
    have h2 := ord_neg n n'
    have h3 := ord_neg l.length l'.length
    have h4 := Tm.cmps_neg l l'
    simp only [Tm.cmp]
    split <;> split <;> (try split) <;> (try split) <;> (try split) <;> (try split) <;> omega
theorem Tm.cmps_neg : ∀ l m : List Tm, Tm.cmps m l = -Tm.cmps l m
  | [], [] => by simp [Tm.cmps]
  | [], _ :: _ => by simp [Tm.cmps]
  | _ :: _, [] => by simp [Tm.cmps]
  | a :: l, b :: m => by
    have h1 := Tm.cmp_neg a b
    have h2 := Tm.cmps_neg l m
    simp only [Tm.cmps]
    split <;> split <;> omega
end

mutual
theorem Tm.cmp_range : ∀ a b : Tm, -1 ≤ a.cmp b ∧ a.cmp b ≤ 1
  | .node k n l, .node k' n' l' => by
    have h1 := ord_range k k'
    have h2 := ord_range n n'
    have h3 := ord_range l.length l'.length
    have h4 := Tm.cmps_range l l'
    simp only [Tm.cmp]
    split
    · exact h1
    · split
      · exact h2
      · split
        · exact h3
        · exact h4
theorem Tm.cmps_range : ∀ l m : List Tm, -1 ≤ Tm.cmps l m ∧ Tm.cmps l m ≤ 1
  | [], [] => by simp [Tm.cmps]
  | [], _ :: _ => by simp [Tm.cmps]
  | _ :: _, [] => by simp [Tm.cmps]
  | a :: l, b :: m => by
    have h1 := Tm.cmp_range a b
    have h2 := Tm.cmps_range l m
    simp only [Tm.cmps]
    split
    · exact h1
    · exact h2
end

mutual
theorem Tm.cmp_zero : ∀ a b : Tm, a.cmp b = 0 ↔ a = b
  | .node k n l, .node k' n' l' => by
    simp only [Tm.cmp, Tm.node.injEq]
    have hk := @ord_zero k k'
    have hn := @ord_zero n n'
    have hl := @ord_zero l.length l'.length
    split
    · rename_i h
      constructor
      · intro h2; exact absurd h2 h
      · rintro ⟨rfl, -, -⟩; exact absurd (hk.2 rfl) h
    · rename_i h
      have h1 := hk.1 (by omega)
      split
      · rename_i h5
        constructor
        · intro h2; exact absurd h2 h5
        · rintro ⟨-, rfl, -⟩; exact absurd (hn.2 rfl) h5
      · rename_i h5
        have h2 := hn.1 (by omega)
        split
        · rename_i h6
          constructor
          · intro h3; exact absurd h3 h6
          · rintro ⟨-, -, rfl⟩; exact absurd (hl.2 rfl) h6
        · rename_i h6
          have h3 := hl.1 (by omega)
          rw [Tm.cmps_zero l l' (by omega)]
          constructor
          · intro h4; exact ⟨h1, h2, h4⟩
          · rintro ⟨-, -, h4⟩; exact h4
theorem Tm.cmps_zero : ∀ l m : List Tm, l.length = m.length → (Tm.cmps l m = 0 ↔ l = m)
  | [], [], _ => by simp [Tm.cmps]
  | a :: l, b :: m, h => by
    have h1 := Tm.cmp_zero a b
    have h2 := Tm.cmps_zero l m (by simpa using h)
    simp only [Tm.cmps, List.cons.injEq]
    split
    · rename_i h3
      constructor
      · intro h4; exact absurd h4 h3
      · rintro ⟨h4, -⟩; exact absurd (h1.2 h4) h3
    · rename_i h3
      rw [h2]
      constructor
      · intro h4; exact ⟨h1.1 (by omega), h4⟩
      · rintro ⟨-, h4⟩; exact h4
end

/-- How three comparisons hang together. -/
def Tri (x y z : Int) : Prop := (x ≤ 0 → y ≤ 0 → z ≤ 0 ∧ (z = 0 → x = 0 ∧ y = 0)) ∧ (x = 0 → y = 0 → z = 0)

theorem tri_lex {x1 y1 z1 x2 y2 z2 : Int} (h1 : Tri x1 y1 z1) (h2 : x1 = 0 → y1 = 0 → Tri x2 y2 z2) : Tri (if x1 ≠ 0 then x1 else x2) (if y1 ≠ 0 then y1 else y2) (if z1 ≠ 0 then z1 else z2) := by
  unfold Tri at *
  by_cases hx : x1 = 0
  · by_cases hy : y1 = 0
    · have hz := h1.2 hx hy
      have h3 := h2 hx hy
      simp only [hx, hy, hz, ne_eq, not_true_eq_false, if_false]
      exact h3
    · simp only [hx, hy, ne_eq, not_true_eq_false, not_false_eq_true, if_false, if_true]
      refine ⟨fun a b => ?_, fun _ b => b.elim⟩
      have h4 := h1.1 (by omega) b
      have hz : z1 ≠ 0 := fun e => hy (h4.2 e).2
      rw [if_pos hz]
      exact ⟨h4.1, fun e => absurd e hz⟩
  · simp only [hx, ne_eq, not_false_eq_true, if_true]
    refine ⟨fun a b => ?_, fun a _ => a.elim⟩
    have hy : y1 ≤ 0 := by
      by_cases hy : y1 = 0
      · omega
      · rw [if_pos hy] at b; exact b
    have h4 := h1.1 a hy
    have hz : z1 ≠ 0 := fun e => hx (h4.2 e).1
    rw [if_pos hz]
    exact ⟨h4.1, fun e => absurd e hz⟩

theorem tri_ord (a b c : Int) : Tri (ord a b) (ord b c) (ord a c) := by
  unfold Tri ord
  constructor
  · intro h1 h2
    split at h1 <;> split at h2 <;> (try split at h1) <;> (try split at h2) <;> split <;> (try split) <;> (try split) <;> (try split) <;> omega
  · intro h1 h2
    split at h1 <;> split at h2 <;> (try split at h1) <;> (try split at h2) <;> split <;> (try split) <;> (try split) <;> (try split) <;> omega

mutual
theorem Tm.cmp_tri : ∀ a b c : Tm, Tri (a.cmp b) (b.cmp c) (a.cmp c)
  | .node k n l, .node k' n' l', .node k2 n2 l2 => by
    simp only [Tm.cmp]
    refine tri_lex (tri_ord _ _ _) fun _ _ => tri_lex (tri_ord _ _ _) fun _ _ => tri_lex (tri_ord _ _ _) fun h1 h2 => ?_
    have h3 := ord_zero.1 h1
    have h4 := ord_zero.1 h2
    exact Tm.cmps_tri l l' l2 (by omega) (by omega)
theorem Tm.cmps_tri : ∀ l m o : List Tm, l.length = m.length → m.length = o.length → Tri (Tm.cmps l m) (Tm.cmps m o) (Tm.cmps l o)
  | [], [], [], _, _ => by simp only [Tm.cmps]; unfold Tri; omega
  | a :: l, b :: m, c :: o, h1, h2 => by
    simp only [Tm.cmps]
    exact tri_lex (Tm.cmp_tri a b c) fun _ _ => Tm.cmps_tri l m o (by simpa using h1) (by simpa using h2)
end
end Go.Proofs.Ytljnmjehokijgaa

/- SigOrder: the walk, over the contracts of sane, Compare and Same. -/
namespace Go.Proofs.Ytljnmjehokijgaa
open Go.RowKit

/-- Three values put into boxes of their own. -/
theorem box3w (w : World) (x y z x' y' z' x2 y2 z2 : Value) (t : TypeId) : ∃ W, W = ((w.alloc (.cells #[x, y, z] t)).alloc (.cells #[x', y', z'] t)).alloc (.cells #[x2, y2, z2] t) ∧ Turned w W (fun _ => False) ∧ ∀ V, Turned W V (fun _ => False) →
    (V.cell? ⟨w.heap.size, 0, none⟩ = some x ∧ V.cell? ⟨w.heap.size, 1, none⟩ = some y ∧ V.cell? ⟨w.heap.size, 2, none⟩ = some z) ∧
    (V.cell? ⟨w.heap.size + 1, 0, none⟩ = some x' ∧ V.cell? ⟨w.heap.size + 1, 1, none⟩ = some y' ∧ V.cell? ⟨w.heap.size + 1, 2, none⟩ = some z') ∧
    (V.cell? ⟨w.heap.size + 2, 0, none⟩ = some x2 ∧ V.cell? ⟨w.heap.size + 2, 1, none⟩ = some y2 ∧ V.cell? ⟨w.heap.size + 2, 2, none⟩ = some z2) ∧ w.heap.size + 2 < V.heap.size := by
  obtain ⟨W1, h1, t1, c1⟩ := box2 w x y z x' y' z' t t
  obtain ⟨W2, h2, t2, c2⟩ := box1 W1 x2 y2 z2 t
  refine ⟨W2, by rw [h2, h1], t1.trans t2 (fun _ _ hf => hf), fun V hV => ?_⟩
  obtain ⟨a1, a2, a3, a4, a5, a6, -⟩ := c1 V (t2.trans hV (fun _ _ hf => hf))
  obtain ⟨b1, b2, b3, b4⟩ := c2 V hV
  have hs : W1.heap.size = w.heap.size + 2 := by rw [h1]; simp
  rw [hs] at b1 b2 b3 b4
  exact ⟨⟨a1, a2, a3⟩, ⟨a4, a5, a6⟩, ⟨b1, b2, b3⟩, b4⟩

/-- Three values in a row of their own. -/
theorem rowTm_three {w w' : World} {a b c : Tm} {x y z x' y' z' x2 y2 z2 : Value} {g : Nat} (ha : TmIn w a (.agg #[x, y, z])) (hb : TmIn w b (.agg #[x', y', z'])) (hc : TmIn w c (.agg #[x2, y2, z2])) (hw : Turned w w' (fun _ => False))
    (hg : w'.heap[g]? = some (.cells #[x, y, z, x', y', z', x2, y2, z2] 24 (0, 0))) (cap : Nat) : RowTm w' (.slice (some ⟨g, 0, none⟩) 3 cap) [a, b, c] := by
  refine ⟨_, cap, rfl, by unfold maxLen; simp, g, 0, x, y, z, rfl, lt_of_block hg, ?_, ?_, ?_, TmIn.turned hw _ ha, g, 3, x', y', z', rfl, lt_of_block hg, ?_, ?_, ?_, TmIn.turned hw _ hb, g, 6, x2, y2, z2, rfl, lt_of_block hg, ?_, ?_, ?_, TmIn.turned hw _ hc, trivial⟩ <;> simp [World.cell?, hg]

set_option maxRecDepth 100000 in
set_option maxHeartbeats 3200000 in
theorem sigOrder_any (hsane : ∀ w, Calls Try.prog 9 #[] w fun e w' => e = .returned (.bool true) ∧ Turned w w' (fun _ => False))
    (hcmp : ∀ (ta tb : Tm) (va vb : Value) (w : World), TmIn w ta va → TmIn w tb vb → Calls Try.prog 11 #[va, vb] w fun e w' => e = .returned (.int .i64 (ta.cmp tb)) ∧ Turned w w' (fun _ => False))
    (hsame : ∀ (ta tb : Tm) (va vb : Value) (w : World), TmIn w ta va → TmIn w tb vb → Calls Try.prog 12 #[va, vb] w fun e w' => e = .returned (.bool (ta.same tb)) ∧ Turned w w' (fun _ => False))
    (w : World) (a b c : Tm) (va vb vc : Value) (ha : TmIn w a va) (hb : TmIn w b vb) (hc : TmIn w c vc) :
    Calls Try.prog 3 #[va, vb, vc] w fun e w' => e = .returned (.bool true) ∧ Below w.heap.size w w' := by
  obtain ⟨pa, ca, rfl, -⟩ := ha.form
  obtain ⟨pb, cb, rfl, -⟩ := hb.form
  obtain ⟨pc, cc, rfl, -⟩ := hc.form
  obtain ⟨W, hW, tW, hC⟩ := box3w w (.int .i64 a.kind) (.int .i64 a.num) (.slice pa a.kids.length ca) (.int .i64 b.kind) (.int .i64 b.num) (.slice pb b.kids.length cb) (.int .i64 c.kind) (.int .i64 c.num) (.slice pc c.kids.length cc) 24
  have hfin : ∀ V, Turned W V (fun _ => False) → Below w.heap.size w V := fun V hV => (tW.trans hV (fun _ _ hf => hf)).below (Nat.le_refl _) (fun _ hf => hf.elim)
  have hAB := fun V (hV : Turned W V (fun _ => False)) => hcmp a b _ _ V (TmIn.turned (tW.trans hV (fun _ _ hf => hf)) _ ha) (TmIn.turned (tW.trans hV (fun _ _ hf => hf)) _ hb)
  have hBC := fun V (hV : Turned W V (fun _ => False)) => hcmp b c _ _ V (TmIn.turned (tW.trans hV (fun _ _ hf => hf)) _ hb) (TmIn.turned (tW.trans hV (fun _ _ hf => hf)) _ hc)
  have hAC := fun V (hV : Turned W V (fun _ => False)) => hcmp a c _ _ V (TmIn.turned (tW.trans hV (fun _ _ hf => hf)) _ ha) (TmIn.turned (tW.trans hV (fun _ _ hf => hf)) _ hc)
  have hBA := fun V (hV : Turned W V (fun _ => False)) => hcmp b a _ _ V (TmIn.turned (tW.trans hV (fun _ _ hf => hf)) _ hb) (TmIn.turned (tW.trans hV (fun _ _ hf => hf)) _ ha)
  have hAA := fun V (hV : Turned W V (fun _ => False)) => hcmp a a _ _ V (TmIn.turned (tW.trans hV (fun _ _ hf => hf)) _ ha) (TmIn.turned (tW.trans hV (fun _ _ hf => hf)) _ ha)
  have hSM := fun V (hV : Turned W V (fun _ => False)) => hsame a b _ _ V (TmIn.turned (tW.trans hV (fun _ _ hf => hf)) _ ha) (TmIn.turned (tW.trans hV (fun _ _ hf => hf)) _ hb)
  have hF := fun V V' (hV : Turned W V (fun _ => False)) (hV' : V' = V.alloc (.cells #[.int .i64 a.kind, .int .i64 a.num, .slice pa a.kids.length ca, .int .i64 b.kind, .int .i64 b.num, .slice pb b.kids.length cb, .int .i64 c.kind, .int .i64 c.num, .slice pc c.kids.length cc] 24)) =>
    few_any [a, b, c] (.slice (some ⟨V.heap.size, 0, none⟩) 3 3) V' (rowTm_three ha hb hc (by rw [hV']; exact (tW.trans hV (fun _ _ hf => hf)).alloc _) (by rw [hV']; exact heap_alloc_new _ _) 3)
  have h1 := Tm.cmp_neg a b
  obtain ⟨h2, h2'⟩ := Tm.cmp_range a b
  have h3 : a.same b = decide (a.cmp b = 0) := by
    by_cases h : a = b
    · rw [(Tm.same_iff a b).2 h, (Tm.cmp_zero a b).2 h]; rfl
    · rw [Tm.same_false h, decide_eq_false (fun e => h ((Tm.cmp_zero a b).1 e))]
  have h4 : a.cmp a = 0 := (Tm.cmp_zero a a).2 rfl
  have h5 := Tm.cmp_tri a b c
  rw [h1] at hBA
  rw [h4] at hAA
  rw [h3] at hSM
  unfold Tri at h5
  have HW := Lib.hid hW
  have HC := Lib.hid hC
  have HFin := Lib.hid hfin
  have Hsane := Lib.hid (hsane W)
  have HAB := Lib.hid hAB
  have HBC := Lib.hid hBC
  have HAC := Lib.hid hAC
  have HBA := Lib.hid hBA
  have HAA := Lib.hid hAA
  have HSM := Lib.hid hSM
  have HF := Lib.hid hF
  clear hW hC hfin hAB hBC hAC hBA hAA hSM hF hsane hcmp hsame h1 h3 h4 ha hb hc tW
  generalize fewB [a, b, c] = fw at *
  generalize a.cmp b = x at *
  generalize b.cmp c = y at *
  generalize a.cmp c = z at *
  generalize a.kids.length = la at *
  generalize b.kids.length = lb at *
  generalize c.kids.length = lc at *
  generalize a.kind = ka at *
  generalize b.kind = kb at *
  generalize c.kind = kc at *
  generalize a.num = na at *
  generalize b.num = nb at *
  generalize c.num = nc at *
  have H5 := Lib.hid h5
  clear h5
  go_enter Try.func3, Try.ntmps3
  go_wp2_with fail
  rw [← HW.out]
  refine Hsane.out.mono ?_
  rintro e w1 ⟨rfl, t1⟩
  obtain ⟨⟨c0, c1, c2⟩, ⟨d0, d1, d2⟩, ⟨e0, e1, e2⟩, l1⟩ := HC.out w1 t1
  obtain ⟨V', hV'⟩ : ∃ V', V' = w1.alloc (.cells #[.int .i64 ka, .int .i64 na, .slice pa la ca, .int .i64 kb, .int .i64 nb, .slice pb lb cb, .int .i64 kc, .int .i64 nc, .slice pc lc cc] 24) := ⟨_, rfl⟩
  have Hfw := Lib.hid (HF.out w1 V' t1 hV')
  have T1 := Lib.hid (show Turned W V' (fun _ => False) by rw [hV']; exact t1.alloc _)
  have HV' := Lib.hid hV'
  clear t1 hV' HF
  go_wp2_with fail
  rw [← HV'.out]
  refine Hfw.out.mono ?_
  rintro e w2 ⟨rfl, t2⟩
  have T2 := Lib.hid (T1.out.trans t2 (fun _ _ hf => hf))
  clear t2 c0 c1 c2 d0 d1 d2 e0 e1 e2 l1
  cases fw
  · go_wp2
    go_ret
    exact ⟨rfl, HFin.out _ T2.out⟩
  have Sof : ∀ w' : World, Turned w2 w' (fun _ => False) → ((w'.cell? ⟨w.heap.size, 0, none⟩ = some (.int .i64 ka) ∧ w'.cell? ⟨w.heap.size, 1, none⟩ = some (.int .i64 na) ∧ w'.cell? ⟨w.heap.size, 2, none⟩ = some (.slice pa la ca)) ∧
      (w'.cell? ⟨w.heap.size + 1, 0, none⟩ = some (.int .i64 kb) ∧ w'.cell? ⟨w.heap.size + 1, 1, none⟩ = some (.int .i64 nb) ∧ w'.cell? ⟨w.heap.size + 1, 2, none⟩ = some (.slice pb lb cb)) ∧
      (w'.cell? ⟨w.heap.size + 2, 0, none⟩ = some (.int .i64 kc) ∧ w'.cell? ⟨w.heap.size + 2, 1, none⟩ = some (.int .i64 nc) ∧ w'.cell? ⟨w.heap.size + 2, 2, none⟩ = some (.slice pc lc cc))) ∧ Turned w2 w' (fun _ => False) := fun w' t => by
    obtain ⟨h1, h2, h3, -⟩ := HC.out w' (T2.out.trans t (fun _ _ hf => hf))
    exact ⟨⟨h1, h2, h3⟩, t⟩
  have HSof := Lib.hid Sof
  have tt : Turned w2 w2.drew (fun _ => False) := (Turned.refl w2 _).drew
  obtain ⟨⟨⟨c0, c1, c2⟩, ⟨d0, d1, d2⟩, ⟨e0, e1, e2⟩⟩, -⟩ := Sof w2 (Turned.refl _ _)
  have l1 := (HC.out w2 T2.out).2.2.2
  have hABr : ∀ V, Turned w2 V (fun _ => False) → _ := fun V hV => HAB.out V (T2.out.trans hV (fun _ _ hf => hf))
  have hBCr : ∀ V, Turned w2 V (fun _ => False) → _ := fun V hV => HBC.out V (T2.out.trans hV (fun _ _ hf => hf))
  have hACr : ∀ V, Turned w2 V (fun _ => False) → _ := fun V hV => HAC.out V (T2.out.trans hV (fun _ _ hf => hf))
  have HABr := Lib.hid hABr
  have HBCr := Lib.hid hBCr
  have HACr := Lib.hid hACr
  clear Sof hABr hBCr hACr
  go_wp2_with fail
  go_region_held3 (fun w' => ((w'.cell? ⟨w.heap.size, 0, none⟩ = some (.int .i64 ka) ∧ w'.cell? ⟨w.heap.size, 1, none⟩ = some (.int .i64 na) ∧ w'.cell? ⟨w.heap.size, 2, none⟩ = some (.slice pa la ca)) ∧
      (w'.cell? ⟨w.heap.size + 1, 0, none⟩ = some (.int .i64 kb) ∧ w'.cell? ⟨w.heap.size + 1, 1, none⟩ = some (.int .i64 nb) ∧ w'.cell? ⟨w.heap.size + 1, 2, none⟩ = some (.slice pb lb cb)) ∧
      (w'.cell? ⟨w.heap.size + 2, 0, none⟩ = some (.int .i64 kc) ∧ w'.cell? ⟨w.heap.size + 2, 1, none⟩ = some (.int .i64 nc) ∧ w'.cell? ⟨w.heap.size + 2, 2, none⟩ = some (.slice pc lc cc))) ∧ Turned w2 w' (fun _ => False))
    (first | exact HSof.out _ (by assumption) | exact HSof.out _ (Turned.drew (by assumption)) | exact HSof.out _ (Turned.trans (by assumption) t3 (fun _ _ hf => hf.elim)))
    (first
      | (go_at_call 11; (with_reducible refine (HABr.out _ (by assumption)).mono ?_); rintro e w3 ⟨rfl, t3⟩; (first | (replace tt := Turned.trans tt t3 (fun _ _ hf => hf)) | skip))
      | (go_at_call 11; (with_reducible refine (HBCr.out _ (by assumption)).mono ?_); rintro e w3 ⟨rfl, t3⟩; (first | (replace tt := Turned.trans tt t3 (fun _ _ hf => hf)) | skip))
      | (go_at_call 11; (with_reducible refine (HACr.out _ (by assumption)).mono ?_); rintro e w3 ⟨rfl, t3⟩; (first | (replace tt := Turned.trans tt t3 (fun _ _ hf => hf)) | skip)))
  have T3 := Lib.hid (T2.out.trans tt (fun _ _ hf => hf))
  have hS := HSof.out _ tt
  obtain ⟨⟨⟨c0, c1, c2⟩, ⟨d0, d1, d2⟩, ⟨e0, e1, e2⟩⟩, -⟩ := hS
  have l1 := (HC.out _ T3.out).2.2.2
  clear tt t3 HABr HBCr HACr HSof
  have hx : x = -1 ∨ x = 0 ∨ x = 1 := by omega
  clear h2 h2'
  rcases hx with rfl | rfl | rfl
  · go_wp2_with fail
    refine (HBA.out _ T3.out).mono ?_
    rintro e w4 ⟨rfl, t4⟩
    have T4 := Lib.hid (T3.out.trans t4 (fun _ _ hf => hf))
    obtain ⟨⟨c0, c1, c2⟩, ⟨d0, d1, d2⟩, -, l1⟩ := HC.out _ T4.out
    clear t4
    go_wp2_with fail
    refine (HSM.out _ T4.out).mono ?_
    rintro e w5 ⟨rfl, t5⟩
    have T5 := Lib.hid (T4.out.trans t5 (fun _ _ hf => hf))
    obtain ⟨⟨c0, c1, c2⟩, -, -, l1⟩ := HC.out _ T5.out
    clear t5 d0 d1 d2
    go_wp2_with fail
    refine (HAA.out _ T5.out).mono ?_
    rintro e w6 ⟨rfl, t6⟩
    have T6 := Lib.hid (T5.out.trans t6 (fun _ _ hf => hf))
    clear t6 c0 c1 c2 l1
    have h5 := H5.out
    by_cases hy : 0 < y
    · clear h5
      go_wp2
      go_ret
      exact ⟨rfl, HFin.out _ T6.out⟩
    · have h6 := h5.1 (by omega) (by omega)
      have hz0 : z ≤ 0 := h6.1
      have hz : z ≠ 0 := fun e => absurd (h6.2 e).1 (by omega)
      have e1 : (z == 0) = false := by simpa using hz
      have e2 : (z != 0) = true := by simpa using hz
      clear h5 h6 hz
      go_wp2
      go_ret
      exact ⟨rfl, HFin.out _ T6.out⟩
  · go_wp2_with fail
    refine (HBA.out _ T3.out).mono ?_
    rintro e w4 ⟨rfl, t4⟩
    have T4 := Lib.hid (T3.out.trans t4 (fun _ _ hf => hf))
    obtain ⟨⟨c0, c1, c2⟩, ⟨d0, d1, d2⟩, -, l1⟩ := HC.out _ T4.out
    clear t4
    go_wp2_with fail
    refine (HSM.out _ T4.out).mono ?_
    rintro e w5 ⟨rfl, t5⟩
    have T5 := Lib.hid (T4.out.trans t5 (fun _ _ hf => hf))
    obtain ⟨⟨c0, c1, c2⟩, -, -, l1⟩ := HC.out _ T5.out
    clear t5 d0 d1 d2
    go_wp2_with fail
    refine (HAA.out _ T5.out).mono ?_
    rintro e w6 ⟨rfl, t6⟩
    have T6 := Lib.hid (T5.out.trans t6 (fun _ _ hf => hf))
    clear t6 c0 c1 c2 l1
    have h5 := H5.out
    by_cases hy : 0 < y
    · clear h5
      go_wp2
      go_ret
      exact ⟨rfl, HFin.out _ T6.out⟩
    · have h6 := h5.1 (by omega) (by omega)
      have hz0 : z ≤ 0 := h6.1
      by_cases hz : z = 0
      · have h7 : y = 0 := (h6.2 hz).2
        subst hz
        subst h7
        clear h5 h6
        go_wp2
        go_ret
        exact ⟨rfl, HFin.out _ T6.out⟩
      · have e1 : (z == 0) = false := by simpa using hz
        have e2 : (z != 0) = true := by simpa using hz
        clear h5 h6 hz
        go_wp2
        go_ret
        exact ⟨rfl, HFin.out _ T6.out⟩
  · go_wp2_with fail
    refine (HBA.out _ T3.out).mono ?_
    rintro e w4 ⟨rfl, t4⟩
    have T4 := Lib.hid (T3.out.trans t4 (fun _ _ hf => hf))
    obtain ⟨⟨c0, c1, c2⟩, ⟨d0, d1, d2⟩, -, l1⟩ := HC.out _ T4.out
    clear t4
    go_wp2_with fail
    refine (HSM.out _ T4.out).mono ?_
    rintro e w5 ⟨rfl, t5⟩
    have T5 := Lib.hid (T4.out.trans t5 (fun _ _ hf => hf))
    obtain ⟨⟨c0, c1, c2⟩, -, -, l1⟩ := HC.out _ T5.out
    clear t5 d0 d1 d2
    go_wp2_with fail
    refine (HAA.out _ T5.out).mono ?_
    rintro e w6 ⟨rfl, t6⟩
    have T6 := Lib.hid (T5.out.trans t6 (fun _ _ hf => hf))
    clear t6 c0 c1 c2 l1
    have h5 := H5.out
    clear h5
    go_wp2
    go_ret
    exact ⟨rfl, HFin.out _ T6.out⟩
end Go.Proofs.Ytljnmjehokijgaa
