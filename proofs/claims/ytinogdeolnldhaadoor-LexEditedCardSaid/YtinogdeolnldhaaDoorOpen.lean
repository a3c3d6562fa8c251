/- Tokens that came in: how their slice reads; a post of a law whose arguments lie in memory. -/
import Derived.Test.YtinogdeolnldhaaDoorRow
import Derived.Deep.Slices
import Derived.Deep.Fields
import Derived.ChangeSame
import Derived.Carry
namespace Go.Proofs.YtinogdeolnldhaaDoor
open Go.ChangeShapes Go.WideShapes Go.ChangeAt Go.RowKit Go.Deep

section
variable {H : Type} {enc : TypeId × Value → H}

/-- A slice of structs of one-cell fields. -/
theorem open_fields {P : Program} {w : World} {base : Nat} {spare : Nat → Bool} {held : Bool} {t e : TypeId} {fs : Array Field} {fuel : Nat} {cs : List Value} {x : DataW H × List MemPlace} (ht : P.underlying t = some (.slice e)) (he : P.underlying e = some (.struct fs))
    (hone : oneCellFields P fs = true) (hC : P.cellsOf e = fs.size) (h : DataW.trod enc P w base spare held fuel t cs = some x) :
    (cs = [.slice none 0 0] ∧ x = (.nil, [])) ∨
    ∃ (a : Addr) (len cap m : Nat) (D : Nat → DataW H) (Pl : Nat → List MemPlace), cs = [.slice (some a) len cap] ∧ base ≤ a.block ∧ len ≤ cap ∧ cap ≤ maxLen ∧ m = (if spare a.block then cap else len) ∧
      x = (.slice ((List.range len).map D) ((List.range (m - len)).map fun j => D (len + j)), MemPlace.row a (m * fs.size) ++ (List.range m).flatMap Pl) ∧
      ∀ i, i < m → ∃ (ys : List (DataW H × List MemPlace)) (n : Nat), D i = .agg (ys.map (·.1)) ∧ Pl i = ys.flatMap (·.2) ∧ ys.length = fs.size ∧
        ∀ (j : Nat) (f : Field), fs[j]? = some f → ∃ (v : Value) (y : DataW H × List MemPlace), w.cell? (a.add (i * fs.size + j)) = some v ∧ ys[j]? = some y ∧ DataW.trod enc P w base spare held n f.type [v] = some y := by
  rcases open_slice ht h with h0 | ⟨a, len, cap, m, n, D, Pl, hcs, hb, hl, hm, hmm, hx, hi⟩
  · exact .inl h0
  · refine .inr ⟨a, len, cap, m, D, Pl, hcs, hb, hl, hm, hmm, by rw [hC] at hx; exact hx, fun i him => ?_⟩
    obtain ⟨cs', hc, ht'⟩ := hi i him
    rw [hC] at hc
    obtain ⟨ys, n', hn', hy, hlen, hyl, hf⟩ := DataW.trod_struct he ht'
    obtain ⟨_, hcl, hat⟩ := World.cells?_some hc
    simp only [Prod.mk.injEq] at hy
    refine ⟨ys, n', hy.1, hy.2, hyl, fun j f hj => ?_⟩
    obtain ⟨ho, hk⟩ := hone_of hone j f hj
    have hjl : j < fs.size := (Array.getElem?_eq_some_iff.1 hj).1
    have hcell := hat j hjl
    have hv : cs'[j]? = some (cs'[j]'(by omega)) := List.getElem?_eq_getElem (by omega)
    have h1 := hf j f hj
    rw [ho, hk] at h1
    have hone' : (cs'.drop j).take 1 = [cs'[j]'(by omega)] := by
      rw [List.drop_eq_getElem_cons (by omega)]
      rfl
    rw [hone'] at h1
    have hys : ys[j]? = some (ys[j]'(by omega)) := List.getElem?_eq_getElem (by omega)
    refine ⟨_, _, ?_, hys, h1.trans hys⟩
    rw [← Go.Deep.add_add, hcell, hv]

theorem weightsAll_mem {P : Program} {e : TypeId} : ∀ {l : List (DataW H)} {d : DataW H}, d ∈ l → ∀ n ∈ d.weights P e, n ∈ DataW.weightsAll P e l
  | x :: l, d, h, n, hn => by
    simp only [DataW.weightsAll, List.mem_append]
    rcases List.mem_cons.1 h with rfl | h
    · exact .inl hn
    · exact .inr (weightsAll_mem h n hn)

/-- What a token in memory is, of which a datum tells. -/
def TokAt (W : World) (a : Addr) (i : Nat) (d : DataW H) (t : ATok) : Prop :=
  (∀ (j : Nat) (u : Value), t.cells[j]? = some u → W.cell? (a.add (i * 5 + j)) = some u) ∧ t.wide ∧ (t.s.length ∈ d.weights Tryd.prog 48)

theorem tok_at {W : World} {sp : Nat → Bool} {a : Addr} {i : Nat} {ys : List (DataW H × List MemPlace)} {n : Nat} {fs : Array Field} (he : Tryd.prog.underlying 48 = some (.struct fs)) (hf : fs.toList.map (·.type) = [3, 3, 9, 3, 3]) (hyl : ys.length = fs.size)
    (h : ∀ (j : Nat) (f : Field), fs[j]? = some f → ∃ (v : Value) (y : DataW H × List MemPlace), W.cell? (a.add (i * fs.size + j)) = some v ∧ ys[j]? = some y ∧ DataW.trod enc Tryd.prog W 0 sp true n f.type [v] = some y) :
    ∃ t : ATok, TokAt W a i (.agg (ys.map (·.1))) t := by
  have hsz : fs.size = 5 := by
    have := congrArg List.length hf
    simpa using this
  rw [hsz] at hyl h
  have hty : ∀ j, j < 5 → ∃ f, fs[j]? = some f ∧ [3, 3, 9, 3, 3][j]? = some f.type := by
    intro j hj
    have hj2 : j < fs.size := by omega
    refine ⟨fs[j], Array.getElem?_eq_getElem hj2, ?_⟩
    rw [← hf, List.getElem?_map]
    simp [hj2]
  match ys, hyl with
  | [y0, y1, y2, y3, y4], _ =>
    obtain ⟨f0, g0, k0⟩ := hty 0 (by omega)
    obtain ⟨f1, g1, k1⟩ := hty 1 (by omega)
    obtain ⟨f2, g2, k2⟩ := hty 2 (by omega)
    obtain ⟨f3, g3, k3⟩ := hty 3 (by omega)
    obtain ⟨f4, g4, k4⟩ := hty 4 (by omega)
    simp only [List.getElem?_cons_zero, List.getElem?_cons_succ, Option.some.injEq] at k0 k1 k2 k3 k4
    obtain ⟨v0, z0, c0, e0, r0⟩ := h 0 f0 g0
    obtain ⟨v1, z1, c1, e1, r1⟩ := h 1 f1 g1
    obtain ⟨v2, z2, c2, e2, r2⟩ := h 2 f2 g2
    obtain ⟨v3, z3, c3, e3, r3⟩ := h 3 f3 g3
    obtain ⟨v4, z4, c4, e4, r4⟩ := h 4 f4 g4
    simp only [List.getElem?_cons_zero, List.getElem?_cons_succ, Option.some.injEq] at e0 e1 e2 e3 e4
    subst e0; subst e1; subst e2; subst e3; subst e4
    rw [← k0] at r0
    rw [← k1] at r1
    rw [← k2] at r2
    rw [← k3] at r3
    rw [← k4] at r4
    obtain ⟨n0, q0, x0, w0⟩ := DataW.trod_int Tryd.underlying3 r0
    obtain ⟨n1, q1, x1, w1⟩ := DataW.trod_int Tryd.underlying3 r1
    obtain ⟨s2, q2, x2, w2⟩ := DataW.trod_string Tryd.underlying9 r2
    obtain ⟨n3, q3, x3, w3⟩ := DataW.trod_int Tryd.underlying3 r3
    obtain ⟨n4, q4, x4, w4⟩ := DataW.trod_int Tryd.underlying3 r4
    simp only [List.cons.injEq, and_true] at q0 q1 q2 q3 q4
    subst q0; subst q1; subst q2; subst q3; subst q4
    subst x0; subst x1; subst x2; subst x3; subst x4
    obtain ⟨⟨sl⟩⟩ := s2
    refine ⟨⟨n0, n1, sl, n3, n4⟩, ?_, ?_, ?_⟩
    · intro j u hj
      match j, hj with
      | 0, hj => simp only [ATok.cells, List.getElem?_cons_zero, Option.some.injEq] at hj; subst hj; exact c0
      | 1, hj => simp only [ATok.cells, List.getElem?_cons_zero, List.getElem?_cons_succ, Option.some.injEq] at hj; subst hj; exact c1
      | 2, hj => simp only [ATok.cells, List.getElem?_cons_zero, List.getElem?_cons_succ, Option.some.injEq] at hj; subst hj; exact c2
      | 3, hj => simp only [ATok.cells, List.getElem?_cons_zero, List.getElem?_cons_succ, Option.some.injEq] at hj; subst hj; exact c3
      | 4, hj => simp only [ATok.cells, List.getElem?_cons_zero, List.getElem?_cons_succ, Option.some.injEq] at hj; subst hj; exact c4
      | j + 5, hj => simp [ATok.cells] at hj
    · exact bounds_i64 w1
    · have hs : (DataW.agg (H := H) ([(DataW.lit (.int .i64 n0), ([] : List MemPlace)), (.lit (.int .i64 n1), []), (.lit (.string sl), []), (.lit (.int .i64 n3), []), (.lit (.int .i64 n4), [])].map (·.1))).weights Tryd.prog 48 = [sl.length] := by
        simp only [List.map_cons, List.map_nil, DataW.weights, he, hf, DataW.weightsEach, List.nil_append, List.append_nil]
      rw [hs]
      exact List.mem_singleton.2 rfl

set_option maxRecDepth 100000 in
theorem open_tokens {W : World} {sp : Nat → Bool} {v : Value} {d : DataW H} {ps : List MemPlace} {r : Reach} {b0 : Nat} {fs : Array Field} (he : Tryd.prog.underlying 48 = some (.struct fs)) (hf : fs.toList.map (·.type) = [3, 3, 9, 3, 3])
    (hone : oneCellFields Tryd.prog fs = true) (hC : Tryd.prog.cellsOf 48 = fs.size) (hval : Value.okWide Tryd.prog W r b0 24 v)
    (h : DataW.Trod enc Tryd.prog W 0 sp true 24 v d ps) (hw : ∀ n ∈ d.weights Tryd.prog 24, n ≤ reachBytes) :
    ∃ l : List ATok, RowOf W v l ∧ (∀ t ∈ l, t.wide) ∧ (∀ t ∈ l, t.s.length ≤ 140737488351232) ∧ l.length ≤ 9223372036854775807 := by
  obtain ⟨a0, ln, cp, rfl⟩ := okWide_slice Tryd.underlying24 hval
  obtain ⟨fuel, hfu⟩ := h
  rcases open_fields Tryd.underlying24 he hone hC hfu with ⟨h1, h2⟩ | ⟨a, len, cap, m, D, Pl, hcs, hb, hl, hm, hmm, hx, hi⟩
  · simp only [Value.cells, List.cons.injEq, Value.slice.injEq, and_true] at h1
    obtain ⟨rfl, rfl, rfl⟩ := h1
    exact ⟨[], ⟨none, 0, rfl, fun h => absurd rfl h⟩, fun _ h => (List.not_mem_nil h).elim, fun _ h => (List.not_mem_nil h).elim, by simp⟩
  · simp only [Value.cells, List.cons.injEq, Value.slice.injEq, and_true] at hcs
    obtain ⟨rfl, rfl, rfl⟩ := hcs
    have hsz : fs.size = 5 := by
      have := congrArg List.length hf
      simpa using this
    have hlm : ln ≤ m := by rw [hmm]; split <;> omega
    have key : ∀ i, ∃ t : ATok, i < ln → TokAt W a i (D i) t := by
      intro i
      by_cases hil : i < ln
      · obtain ⟨ys, n, hD, -, hyl, hfld⟩ := hi i (by omega)
        obtain ⟨t, ht⟩ := tok_at he hf hyl hfld
        exact ⟨t, fun _ => by rw [hD]; exact ht⟩
      · exact ⟨⟨0, 0, [], 0, 0⟩, fun h => absurd h hil⟩
    obtain ⟨f, hf2⟩ := Classical.axiomOfChoice key
    have hget : ∀ j t, ((List.range ln).map f)[j]? = some t → j < ln ∧ t = f j := by
      intro j t hj
      rw [List.getElem?_map] at hj
      rcases Nat.lt_or_ge j ln with hlt | hge
      · rw [List.getElem?_range hlt] at hj
        exact ⟨hlt, (Option.some.inj hj).symm⟩
      · rw [List.getElem?_eq_none (by simpa using hge)] at hj
        cases hj
    simp only [Prod.mk.injEq] at hx
    refine ⟨(List.range ln).map f, ⟨some a, cp, by simp, fun hne => ?_⟩, ?_, ?_, ?_⟩
    · have h0 : 0 < ln := by
        rcases Nat.eq_zero_or_pos ln with h | h
        · rw [h] at hne; simp at hne
        · exact h
      have c0 := (hf2 0 h0).1 0 _ rfl
      obtain ⟨g, off, spot⟩ := a
      have hspot : spot = none := by simpa [Addr.add] using World.cell?_spot c0
      subst hspot
      have hg : g < W.heap.size := by
        have := World.block_lt_of_cell? _ _ c0
        simpa [Addr.add] using this
      refine ⟨g, off, rfl, hg, fun j t hj i u hu => ?_⟩
      obtain ⟨hjl, rfl⟩ := hget j t hj
      have := (hf2 j hjl).1 i u hu
      rw [Go.WideShapes.add_plain] at this
      rw [Nat.add_assoc]
      exact this
    · intro t ht
      obtain ⟨j, hj, rfl⟩ := List.mem_map.1 ht
      exact (hf2 j (List.mem_range.1 hj)).2.1
    · intro t ht
      obtain ⟨j, hj, rfl⟩ := List.mem_map.1 ht
      have h3 := (hf2 j (List.mem_range.1 hj)).2.2
      have h4 : (D j) ∈ (List.range ln).map D := List.mem_map_of_mem hj
      have h5 := weightsAll_mem h4 _ h3
      have h6 : (f j).s.length ∈ d.weights Tryd.prog 24 := by
        rw [hx.1, DataW.weights, Tryd.underlying24]
        simp only [List.mem_cons, List.mem_append]
        exact .inr (.inl h5)
      exact hw _ h6
    · rw [List.length_map, List.length_range]
      exact Nat.le_trans hl (Nat.le_trans hm (by unfold maxLen; decide))

/-- What came in reads behind the call as it did, where below the old heap nothing has turned. -/
theorem trod_keeps {P : Program} {t : TypeId} {v : Value} {d : DataW H} {ps : List MemPlace} {W W' : World} (hl : laidOutB P = true) (hr : P.readableRec t = true) (hrow : t < P.types.size) (h : DataW.Trod enc P W 0 (fun _ => true) true t v d ps) (hb : Below W.heap.size W W')
    (hlt : ∀ x ∈ ps, x.block < W.heap.size) (sp : Nat → Bool) (hsp : ∀ x ∈ ps, sp x.block = true) : DataW.Trod enc P W' 0 sp true t v d ps :=
  WideElems.Trod_stays hl hr hrow h (fun x hx => hb.same (hlt x hx)) hsp

/-- The row's last step where of the world behind the call 'Below' alone is known. -/
theorem post_of_below {P : Program} {f : Func} {s : ChangeSpec} {apart fresh handsOn again : Bool} {W W' : World} {args : Array Value} {v : Value} {ds gs : List (DataW H)} {before pa pv : List MemPlace}
    (hW : DataW.Whole enc P f.params.toList s.vars apart W args.toList ds gs before)
    (hres : ∀ (b : Nat) (sp : Nat → Bool) (hd : Bool), DataW.TrodAll enc P W' b sp hd f.resultTypes.toList (v.resultList f.resultTypes.size) (s.fn H (ds ++ gs)).results [])
    (hargs : ∀ sp : Nat → Bool, (∀ p ∈ before, sp p.block = true) → DataW.TrodAll enc P W' 0 sp true f.params.toList args.toList (s.fn H (ds ++ gs)).args pa)
    (hvars : ∀ sp : Nat → Bool, (∀ p ∈ before, sp p.block = true) → DataW.TrodVars enc P W' sp s.vars (s.fn H (ds ++ gs)).vars pv)
    (hps : before = pa ++ pv) (hb : Below W.heap.size W W')
    (hok : ∀ (j : Nat) (t : TypeId) (r : Value), f.resultTypes[j]? = some t → (v.resultList f.resultTypes.size)[j]? = some r → Value.okWide P W' .any 0 t r) :
    s.post enc P f apart fresh handsOn again W args v W' := by
  have hlt : ∀ p ∈ before, p.block < W.heap.size := fun p hp => hW.lt p hp
  have hold : ∀ p ∈ before, (fun b => decide (b < W.heap.size)) p.block = true := fun p hp => by simpa using hlt p hp
  refine ⟨ds, gs, before, [], pa, pv, hW, hres _ _ _, hargs _ hold, hvars _ hold, World.keptBut_mono (fun p hp => ⟨hp, ?_⟩) (hb.frame (· ∈ before)), fun _ => ?_⟩
  · rw [hps, List.mem_append] at hp
    exact Or.inr hp
  · obtain ⟨_, _, _, _, _, hz, hn⟩ := hW
    refine ⟨hok, _, _, ([] ++ pa) ++ pv, ⟨[] ++ pa, pv, trodAll_append (hargs _ (fun _ _ => rfl)) (hres _ _ _), hvars _ (fun _ _ => rfl), rfl, ?_, ?_⟩, ?_⟩
    · intro b off hp
      have hin : MemPlace.cell b off ∈ before := by rw [hps]; simpa using hp
      rw [hb.frozen (hlt _ hin)]
      exact hz b off hin
    · intro ha
      have := hn ha
      rw [hps] at this
      simpa using this
    · intro p hp _
      rw [hps]
      simpa using hp
end
end Go.Proofs.YtinogdeolnldhaaDoor
