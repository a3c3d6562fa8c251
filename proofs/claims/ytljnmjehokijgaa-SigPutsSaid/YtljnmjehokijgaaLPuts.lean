/- What is put stands there, nothing else has changed; what stood there, put back, gives the tree that there was: SigPuts returns true for every input, and changes nothing. No condition. -/
import Derived.Test.YtljnmjehokijgaaRows
import Derived.ProofKit
import Derived.LaidMore
import Derived.OpenShut
import Derived.HandedShaped
import Derived.Stop.Joined
import Derived.Stop.LaidErr
import Derived.SevenTiedAt
import Derived.Deep.Slices
import Derived.Deep.Fields
import Derived.ChangeSame
import Derived.Carry
import Derived.Lib.SmallJoins
import Derived.Test.YtljnmjehokijgaaLPuts1

/- What a law's row gives the walks: trees that came in; the wrap of a row; a post of a law whose arguments lie in memory. -/
namespace Go.Proofs.Ytljnmjehokijgaa
open Go.ChangeShapes Go.WideShapes Go.ChangeAt Go.RowKit Go.Deep

theorem own : ownKnob Try.prog.godebug = none := by kernel_rfl

/-- A wrap that keeps the world's shape. -/
theorem handed0 {H : Type} {enc : TypeId × Value → H} {C : Checked} {os : Os} {f : FuncId} {fn : Func} {s : ChangeSpec} {apart fresh : Bool}
    (hown : ownKnob C.prog.godebug = none) (started : os.Started) (noInit : C.prog.inits.idxOf? f = none) (hfn : C.prog.funcs[f]? = some fn)
    (witness : ∃ (w : World) (tape : Tape) (i : Input), w.os = os ∧ (w.forCall tape i).Shaped C.prog ∧ i.vars = [] ∧ Input.okWide C.prog (w.forCall tape i) .any w.heap.size f i ∧
      (s.pre enc C.prog fn [] apart (w.forCall tape i).memory i.args ∧ sizedMet enc C.prog fn (OpenSpec.ofChange s) apart (w.forCall tape i).memory i.args) ∧ (({} : Assume).holds C.prog (lone (Frame.enter C.prog f i.args .normal) [] (w.forCall tape i))))
    (contract : ∀ (W : World) (base : Nat) (args : Array Value) (ds gs : List (DataW H)) (before : List MemPlace),
      (∀ (j : Nat) t v, fn.params[j]? = some t → args[j]? = some v → Value.okWide C.prog W .any base t v) →
      DataW.Whole enc C.prog fn.params.toList s.vars apart W args.toList ds gs before →
      (DataW.weightsEach C.prog (fn.params.toList ++ s.plain.varTypes C.prog) (ds ++ gs)).all (· ≤ reachBytes) = true → W.ShapedOpen C.prog →
      Calls C.prog f args W fun e W' => ∃ v, e = .returned v ∧ s.post enc C.prog fn apart fresh false false W args v W') :
    ReturnsInHanded {} C os f .any (fun w args => s.pre enc C.prog fn [] apart w args ∧ sizedMet enc C.prog fn (OpenSpec.ofChange s) apart w args) (s.post enc C.prog fn apart fresh false false) := by
  refine returnsInHanded_of_calls hown started noInit witness ?_
  intro w tape i _ hsh _ hok hpre _
  obtain ⟨_, _, _, fn', hfn', _, _, _, _, hval⟩ := hok
  obtain rfl : fn' = fn := Option.some.inj (hfn'.symm.trans hfn)
  obtain ⟨⟨ds, gs, before, hw, _⟩, hz⟩ := hpre
  refine (contract (w.forCall tape i) w.heap.size i.args ds gs before hval (DataW.Whole.of_heap (w' := w.forCall tape i) (by rfl) hw) (hz.weights hw) hsh).mono fun e W' ⟨v, he, hp⟩ => ?_
  subst he
  exact ChangeSpec.post_blind hp

theorem witness0 {H : Type} {enc : TypeId × Value → H} {C : Checked} {os : Os} {f : FuncId} {fn : Func} {s : ChangeSpec} {apart : Bool}
    (h : ∃ (w : World) (tape : Tape) (i : Input), w.os = os ∧ (w.forCall tape i).Shaped C.prog ∧ i.vars = [] ∧ Input.okWide C.prog (w.forCall tape i) .any w.heap.size f i ∧
      ((s.pre enc C.prog fn [] apart (w.forCall tape i).memory i.args ∧ True) ∧ sizedMet enc C.prog fn (OpenSpec.ofChange s) apart (w.forCall tape i).memory i.args) ∧ (({} : Assume).holds C.prog (lone (Frame.enter C.prog f i.args .normal) [] (w.forCall tape i)))) :
    ∃ (w : World) (tape : Tape) (i : Input), w.os = os ∧ (w.forCall tape i).Shaped C.prog ∧ i.vars = [] ∧ Input.okWide C.prog (w.forCall tape i) .any w.heap.size f i ∧
      (s.pre enc C.prog fn [] apart (w.forCall tape i).memory i.args ∧ sizedMet enc C.prog fn (OpenSpec.ofChange s) apart (w.forCall tape i).memory i.args) ∧ (({} : Assume).holds C.prog (lone (Frame.enter C.prog f i.args .normal) [] (w.forCall tape i))) := by
  obtain ⟨w, tape, i, h1, h2, h3, h4, ⟨⟨h5, -⟩, h6⟩, h7⟩ := h
  exact ⟨w, tape, i, h1, h2, h3, h4, ⟨h5, h6⟩, h7⟩

section
variable {H : Type} {enc : TypeId × Value → H}

/-- A slice of structs of one-cell fields. -/
theorem open_fields {P : Program} {w : World} {base : Nat} {spare : Nat → Bool} {held : Bool} {t e : TypeId} {fs : Array Field} {fuel : Nat} {cs : List Value} {x : DataW H × List MemPlace} (ht : P.underlying t = some (.slice e)) (he : P.underlying e = some (.struct fs))
    (hone : oneCellFields P fs = true) (hC : P.cellsOf e = fs.size) (h : DataW.trod enc P w base spare held fuel t cs = some x) :
    (cs = [.slice none 0 0] ∧ x = (.nil, [])) ∨
    ∃ (a : Addr) (len cap m : Nat) (D : Nat → DataW H) (Pl : Nat → List MemPlace), cs = [.slice (some a) len cap] ∧ base ≤ a.block ∧ len ≤ cap ∧ cap ≤ maxLen ∧ m = (if spare a.block then cap else len) ∧
      x = (.slice ((List.range len).map D) ((List.range (m - len)).map fun j => D (len + j)), MemPlace.row a (m * fs.size) ++ (List.range m).flatMap Pl) ∧
      ∀ i, i < m → ∃ (ys : List (DataW H × List MemPlace)) (n : Nat), D i = .agg (ys.map (·.1)) ∧ Pl i = ys.flatMap (·.2) ∧ ys.length = fs.size ∧
        ∀ (j : Nat) (f : Field), fs[j]? = some f → ∃ (v : Value) (y : DataW H × List MemPlace), w.cell? (a.add (i * fs.size + j)) = some v ∧ ys[j]? = some y ∧ DataW.trod enc P w base spare held n f.type [v] = some y := by
  rcases open_slice ht h with h0 | ⟨a, len, cap, m, n, D, Pl, hcs, hb, hl, hm, hmm, hx, hi⟩
  · exact .inl h0
  · refine .inr ⟨a, len, cap, m, D, Pl, hcs, hb, hl, hm, hmm, by rw [hC] at hx; exact hx, fun i him => ?_⟩
    obtain ⟨cs', hc, ht'⟩ := hi i him
    rw [hC] at hc
    obtain ⟨ys, n', hn', hy, hlen, hyl, hf⟩ := DataW.trod_struct he ht'
    obtain ⟨_, hcl, hat⟩ := World.cells?_some hc
    simp only [Prod.mk.injEq] at hy
    refine ⟨ys, n', hy.1, hy.2, hyl, fun j f hj => ?_⟩
    obtain ⟨ho, hk⟩ := hone_of hone j f hj
    have hjl : j < fs.size := (Array.getElem?_eq_some_iff.1 hj).1
    have hcell := hat j hjl
    have hv : cs'[j]? = some (cs'[j]'(by omega)) := List.getElem?_eq_getElem (by omega)
    have h1 := hf j f hj
    rw [ho, hk] at h1
    have hone' : (cs'.drop j).take 1 = [cs'[j]'(by omega)] := by
      rw [List.drop_eq_getElem_cons (by omega)]
      rfl
    rw [hone'] at h1
    have hys : ys[j]? = some (ys[j]'(by omega)) := List.getElem?_eq_getElem (by omega)
    refine ⟨_, _, ?_, hys, h1.trans hys⟩
    rw [← Go.Deep.add_add, hcell, hv]

/-- A slice of trees that came in. -/
theorem open_row {W : World} {sp : Nat → Bool} {f0 f1 f2 : Field} (hs : Try.prog.underlying 24 = some (.struct #[f0, f1, f2])) (hone : oneCellFields Try.prog #[f0, f1, f2] = true) (hC : Try.prog.cellsOf 24 = 3)
    (ht : [f0.type, f1.type, f2.type] = [3, 3, 22]) : ∀ (m : Nat) (d : DataW H) (v : Value) (n : Nat) (ps : List MemPlace), SizeOf.sizeOf d ≤ m →
    DataW.trod enc Try.prog W 0 sp true n 22 [v] = some (d, ps) → ∃ l : List Tm, RowTm W v l := by
  simp only [List.cons.injEq, and_true] at ht
  obtain ⟨t0, t1, t2⟩ := ht
  intro m
  induction m with
  | zero => intro d v n ps hd h; cases d <;> simp at hd
  | succ m ih =>
    intro d v n ps hd h
    rcases open_fields Try.underlying22 hs hone hC h with ⟨h1, h2⟩ | ⟨a, len, cap, k, D, Pl, hcs, hb, hl, hm, hmm, hx, hi⟩
    · simp only [List.cons.injEq, and_true] at h1
      subst h1
      exact ⟨[], RowTm.nil W⟩
    · simp only [List.cons.injEq, and_true] at hcs
      subst hcs
      have hlk : len ≤ k := by rw [hmm]; split <;> omega
      simp only [Prod.mk.injEq] at hx
      obtain ⟨hd2, -⟩ := hx
      have key : ∀ i, ∃ t : Tm, i < len → ∃ v0 v1 v2, W.cell? (a.add (i * 3)) = some v0 ∧ W.cell? (a.add (i * 3 + 1)) = some v1 ∧ W.cell? (a.add (i * 3 + 2)) = some v2 ∧ TmIn W t (.agg #[v0, v1, v2]) := by
        intro i
        by_cases hil : i < len
        · obtain ⟨ys, n', hD, -, hyl, hfld⟩ := hi i (by omega)
          have hsz : (#[f0, f1, f2] : Array Field).size = 3 := rfl
          rw [hsz] at hyl hfld
          obtain ⟨v0, y0, c0, e0, r0⟩ := hfld 0 f0 rfl
          obtain ⟨v1, y1, c1, e1, r1⟩ := hfld 1 f1 rfl
          obtain ⟨v2, y2, c2, e2, r2⟩ := hfld 2 f2 rfl
          rw [t0] at r0
          rw [t1] at r1
          rw [t2] at r2
          obtain ⟨k0, q0, -, -⟩ := DataW.trod_int Try.underlying3 r0
          obtain ⟨k1, q1, -, -⟩ := DataW.trod_int Try.underlying3 r1
          simp only [List.cons.injEq, and_true] at q0 q1
          subst q0; subst q1
          have hsm : SizeOf.sizeOf y2.1 ≤ m := by
            have h5 : y2 ∈ ys := List.mem_of_getElem? e2
            have h6 : SizeOf.sizeOf y2.1 < SizeOf.sizeOf (ys.map (·.1)) := List.sizeOf_lt_of_mem (List.mem_map_of_mem h5)
            have h7 : D i ∈ (List.range len).map D := List.mem_map_of_mem (List.mem_range.2 hil)
            have h8 := List.sizeOf_lt_of_mem h7
            rw [hD] at h8
            rw [hd2] at hd
            simp only [DataW.slice.sizeOf_spec, DataW.agg.sizeOf_spec] at hd h8
            omega
          obtain ⟨l, hl'⟩ := ih y2.1 v2 n' y2.2 hsm r2
          obtain ⟨p, cp, rfl, hln, hin⟩ := hl'
          exact ⟨.node k0 k1 l, fun _ => ⟨_, _, _, by simpa using c0, c1, c2, ⟨p, cp, rfl, hln, hin⟩⟩⟩
        · exact ⟨.node 0 0 [], fun h => absurd h hil⟩
      obtain ⟨f, hf⟩ := Classical.axiomOfChoice key
      refine ⟨(List.range len).map f, some a, cap, by simp, by simp; omega, ?_⟩
      rcases Nat.eq_zero_or_pos len with h0 | h0
      · subst h0; exact trivial
      · obtain ⟨v0, v1, v2, c0, -, -, -⟩ := hf 0 h0
        obtain ⟨g, off, spot⟩ := a
        have hspot : spot = none := by simpa [Addr.add] using World.cell?_spot c0
        subst hspot
        have hg : g < W.heap.size := by
          have := World.block_lt_of_cell? _ _ c0
          simpa [Addr.add] using this
        refine tmsIn_mk hg fun i hil => ?_
        simp only [List.length_map, List.length_range] at hil
        obtain ⟨v0, v1, v2, c0, c1, c2, ht⟩ := hf i hil
        rw [Go.WideShapes.add_plain] at c0 c1 c2
        refine ⟨v0, v1, v2, c0, by rw [Nat.add_assoc]; exact c1, by rw [Nat.add_assoc]; exact c2, ?_⟩
        simpa using ht

set_option maxRecDepth 100000 in
theorem open_terms {W : World} {sp : Nat → Bool} {v : Value} {d : DataW H} {ps : List MemPlace} {f0 f1 f2 : Field} (hs : Try.prog.underlying 24 = some (.struct #[f0, f1, f2])) (hone : oneCellFields Try.prog #[f0, f1, f2] = true) (hC : Try.prog.cellsOf 24 = 3)
    (ht : [f0.type, f1.type, f2.type] = [3, 3, 22]) {r : Reach} {b0 : Nat} (hval : Value.okWide Try.prog W r b0 22 v) (h : DataW.Trod enc Try.prog W 0 sp true 22 v d ps) : ∃ l : List Tm, RowTm W v l := by
  obtain ⟨a0, ln, cp, rfl⟩ := okWide_slice Try.underlying22 hval
  obtain ⟨fuel, hfu⟩ := h
  exact open_row hs hone hC ht _ d _ fuel ps (Nat.le_refl _) hfu

set_option maxRecDepth 100000 in
/-- A tree that came in. -/
theorem open_term {W : World} {sp : Nat → Bool} {v : Value} {d : DataW H} {ps : List MemPlace} {f0 f1 f2 : Field} (hs : Try.prog.underlying 24 = some (.struct #[f0, f1, f2])) (hone : oneCellFields Try.prog #[f0, f1, f2] = true) (hC : Try.prog.cellsOf 24 = 3)
    (ht : [f0.type, f1.type, f2.type] = [3, 3, 22]) {r : Reach} {b0 : Nat} (hval : Value.okWide Try.prog W r b0 24 v) (h : DataW.Trod enc Try.prog W 0 sp true 24 v d ps) : ∃ t : Tm, TmIn W t v := by
  obtain ⟨v0, v1, v2, y0, y1, y2, n, rfl, hd, -, h0, h1, h2⟩ := Go.Joins.open_agg3 hs hone hC hval h
  have ht2 := ht
  simp only [List.cons.injEq, and_true] at ht2
  obtain ⟨t0, t1, t2⟩ := ht2
  rw [t0] at h0
  rw [t1] at h1
  rw [t2] at h2
  obtain ⟨k0, q0, -, -⟩ := DataW.trod_int Try.underlying3 h0
  obtain ⟨k1, q1, -, -⟩ := DataW.trod_int Try.underlying3 h1
  simp only [List.cons.injEq, and_true] at q0 q1
  subst q0; subst q1
  obtain ⟨l, p, cp, rfl, hln, hin⟩ := open_row hs hone hC ht _ y2.1 v2 n y2.2 (Nat.le_refl _) h2
  exact ⟨.node k0 k1 l, p, cp, rfl, hln, hin⟩


/-- What came in reads behind the call as it did, where below the old heap nothing has turned. -/
theorem trod_keeps {P : Program} {t : TypeId} {v : Value} {d : DataW H} {ps : List MemPlace} {W W' : World} (hl : laidOutB P = true) (hr : P.readableRec t = true) (hrow : t < P.types.size) (h : DataW.Trod enc P W 0 (fun _ => true) true t v d ps) (hb : Below W.heap.size W W')
    (hlt : ∀ x ∈ ps, x.block < W.heap.size) (sp : Nat → Bool) (hsp : ∀ x ∈ ps, sp x.block = true) : DataW.Trod enc P W' 0 sp true t v d ps :=
  WideElems.Trod_stays hl hr hrow h (fun x hx => hb.same (hlt x hx)) hsp

/-- The row's last step where of the world behind the call 'Below' alone is known. -/
theorem post_of_below {P : Program} {f : Func} {s : ChangeSpec} {apart fresh handsOn again : Bool} {W W' : World} {args : Array Value} {v : Value} {ds gs : List (DataW H)} {before pa pv : List MemPlace}
    (hW : DataW.Whole enc P f.params.toList s.vars apart W args.toList ds gs before)
    (hres : ∀ (b : Nat) (sp : Nat → Bool) (hd : Bool), DataW.TrodAll enc P W' b sp hd f.resultTypes.toList (v.resultList f.resultTypes.size) (s.fn H (ds ++ gs)).results [])
    (hargs : ∀ sp : Nat → Bool, (∀ p ∈ before, sp p.block = true) → DataW.TrodAll enc P W' 0 sp true f.params.toList args.toList (s.fn H (ds ++ gs)).args pa)
    (hvars : ∀ sp : Nat → Bool, (∀ p ∈ before, sp p.block = true) → DataW.TrodVars enc P W' sp s.vars (s.fn H (ds ++ gs)).vars pv)
    (hps : before = pa ++ pv) (hb : Below W.heap.size W W')
    (hok : ∀ (j : Nat) (t : TypeId) (r : Value), f.resultTypes[j]? = some t → (v.resultList f.resultTypes.size)[j]? = some r → Value.okWide P W' .any 0 t r) :
    s.post enc P f apart fresh handsOn again W args v W' := by
  have hlt : ∀ p ∈ before, p.block < W.heap.size := fun p hp => hW.lt p hp
  have hold : ∀ p ∈ before, (fun b => decide (b < W.heap.size)) p.block = true := fun p hp => by simpa using hlt p hp
  refine ⟨ds, gs, before, [], pa, pv, hW, hres _ _ _, hargs _ hold, hvars _ hold, World.keptBut_mono (fun p hp => ⟨hp, ?_⟩) (hb.frame (· ∈ before)), fun _ => ?_⟩
  · rw [hps, List.mem_append] at hp
    exact Or.inr hp
  · obtain ⟨_, _, _, _, _, hz, hn⟩ := hW
    refine ⟨hok, _, _, ([] ++ pa) ++ pv, ⟨[] ++ pa, pv, trodAll_append (hargs _ (fun _ _ => rfl)) (hres _ _ _), hvars _ (fun _ _ => rfl), rfl, ?_, ?_⟩, ?_⟩
    · intro b off hp
      have hin : MemPlace.cell b off ∈ before := by rw [hps]; simpa using hp
      rw [hb.frozen (hlt _ hin)]
      exact hz b off hin
    · intro ha
      have := hn ha
      rw [hps] at this
      simpa using this
    · intro p hp _
      rw [hps]
      simpa using hp
end
end Go.Proofs.Ytljnmjehokijgaa

/- Trees that came in: their numbers are Go's. -/
namespace Go.Proofs.Ytljnmjehokijgaa
open Go.ChangeShapes Go.WideShapes Go.ChangeAt Go.RowKit Go.Deep

theorem small_of_wf {n : Int} (h : (Lit.int .i64 n).wf = true) : -9223372036854775808 ≤ n ∧ n ≤ 9223372036854775807 := by
  have h2 : (decide ((-9223372036854775808 : Int) ≤ n) && decide (n ≤ (9223372036854775807 : Int))) = true := h
  simpa using h2

theorem smalls_of : ∀ {l : List Tm}, (∀ t ∈ l, t.small) → Tm.smalls l
  | [], _ => trivial
  | t :: _, h => ⟨h t (.head _), smalls_of (fun u hu => h u (.tail _ hu))⟩

section
variable {H : Type} {enc : TypeId × Value → H}

/-- A slice of trees that came in. -/
theorem open_row2 {W : World} {sp : Nat → Bool} {f0 f1 f2 : Field} (hs : Try.prog.underlying 24 = some (.struct #[f0, f1, f2])) (hone : oneCellFields Try.prog #[f0, f1, f2] = true) (hC : Try.prog.cellsOf 24 = 3)
    (ht : [f0.type, f1.type, f2.type] = [3, 3, 22]) : ∀ (m : Nat) (d : DataW H) (v : Value) (n : Nat) (ps : List MemPlace), SizeOf.sizeOf d ≤ m →
    DataW.trod enc Try.prog W 0 sp true n 22 [v] = some (d, ps) → ∃ l : List Tm, RowTm W v l ∧ Tm.smalls l := by
  simp only [List.cons.injEq, and_true] at ht
  obtain ⟨t0, t1, t2⟩ := ht
  intro m
  induction m with
  | zero => intro d v n ps hd h; cases d <;> simp at hd
  | succ m ih =>
    intro d v n ps hd h
    rcases open_fields Try.underlying22 hs hone hC h with ⟨h1, h2⟩ | ⟨a, len, cap, k, D, Pl, hcs, hb, hl, hm, hmm, hx, hi⟩
    · simp only [List.cons.injEq, and_true] at h1
      subst h1
      exact ⟨[], RowTm.nil W, trivial⟩
    · simp only [List.cons.injEq, and_true] at hcs
      subst hcs
      have hlk : len ≤ k := by rw [hmm]; split <;> omega
      simp only [Prod.mk.injEq] at hx
      obtain ⟨hd2, -⟩ := hx
      have key : ∀ i, ∃ t : Tm, i < len → t.small ∧ ∃ v0 v1 v2, W.cell? (a.add (i * 3)) = some v0 ∧ W.cell? (a.add (i * 3 + 1)) = some v1 ∧ W.cell? (a.add (i * 3 + 2)) = some v2 ∧ TmIn W t (.agg #[v0, v1, v2]) := by
        intro i
        by_cases hil : i < len
        · obtain ⟨ys, n', hD, -, hyl, hfld⟩ := hi i (by omega)
          have hsz : (#[f0, f1, f2] : Array Field).size = 3 := rfl
          rw [hsz] at hyl hfld
          obtain ⟨v0, y0, c0, e0, r0⟩ := hfld 0 f0 rfl
          obtain ⟨v1, y1, c1, e1, r1⟩ := hfld 1 f1 rfl
          obtain ⟨v2, y2, c2, e2, r2⟩ := hfld 2 f2 rfl
          rw [t0] at r0
          rw [t1] at r1
          rw [t2] at r2
          obtain ⟨k0, q0, -, -⟩ := DataW.trod_int Try.underlying3 r0
          obtain ⟨k1, q1, -, w1⟩ := DataW.trod_int Try.underlying3 r1
          simp only [List.cons.injEq, and_true] at q0 q1
          subst q0; subst q1
          have hsm : SizeOf.sizeOf y2.1 ≤ m := by
            have h5 : y2 ∈ ys := List.mem_of_getElem? e2
            have h6 : SizeOf.sizeOf y2.1 < SizeOf.sizeOf (ys.map (·.1)) := List.sizeOf_lt_of_mem (List.mem_map_of_mem h5)
            have h7 : D i ∈ (List.range len).map D := List.mem_map_of_mem (List.mem_range.2 hil)
            have h8 := List.sizeOf_lt_of_mem h7
            rw [hD] at h8
            rw [hd2] at hd
            simp only [DataW.slice.sizeOf_spec, DataW.agg.sizeOf_spec] at hd h8
            omega
          obtain ⟨l, hl', hls⟩ := ih y2.1 v2 n' y2.2 hsm r2
          obtain ⟨p, cp, rfl, hln, hin⟩ := hl'
          exact ⟨.node k0 k1 l, fun _ => ⟨⟨small_of_wf w1, hls⟩, _, _, _, by simpa using c0, c1, c2, ⟨p, cp, rfl, hln, hin⟩⟩⟩
        · exact ⟨.node 0 0 [], fun h => absurd h hil⟩
      obtain ⟨f, hf⟩ := Classical.axiomOfChoice key
      refine ⟨(List.range len).map f, ⟨some a, cap, by simp, by simp; omega, ?_⟩, smalls_of (fun t ht => by
        obtain ⟨i, hi, rfl⟩ := List.mem_map.1 ht
        exact (hf i (List.mem_range.1 hi)).1)⟩
      rcases Nat.eq_zero_or_pos len with h0 | h0
      · subst h0; exact trivial
      · obtain ⟨-, v0, v1, v2, c0, -, -, -⟩ := hf 0 h0
        obtain ⟨g, off, spot⟩ := a
        have hspot : spot = none := by simpa [Addr.add] using World.cell?_spot c0
        subst hspot
        have hg : g < W.heap.size := by
          have := World.block_lt_of_cell? _ _ c0
          simpa [Addr.add] using this
        refine tmsIn_mk hg fun i hil => ?_
        simp only [List.length_map, List.length_range] at hil
        obtain ⟨-, v0, v1, v2, c0, c1, c2, ht⟩ := hf i hil
        rw [Go.WideShapes.add_plain] at c0 c1 c2
        refine ⟨v0, v1, v2, c0, by rw [Nat.add_assoc]; exact c1, by rw [Nat.add_assoc]; exact c2, ?_⟩
        simpa using ht

set_option maxRecDepth 100000 in
set_option maxRecDepth 100000 in
theorem open_terms2 {W : World} {sp : Nat → Bool} {v : Value} {d : DataW H} {ps : List MemPlace} {f0 f1 f2 : Field} (hs : Try.prog.underlying 24 = some (.struct #[f0, f1, f2])) (hone : oneCellFields Try.prog #[f0, f1, f2] = true) (hC : Try.prog.cellsOf 24 = 3)
    (ht : [f0.type, f1.type, f2.type] = [3, 3, 22]) {r : Reach} {b0 : Nat} (hval : Value.okWide Try.prog W r b0 22 v) (h : DataW.Trod enc Try.prog W 0 sp true 22 v d ps) : ∃ l : List Tm, RowTm W v l ∧ Tm.smalls l := by
  obtain ⟨a0, ln, cp, rfl⟩ := okWide_slice Try.underlying22 hval
  obtain ⟨fuel, hfu⟩ := h
  exact open_row2 hs hone hC ht _ d _ fuel ps (Nat.le_refl _) hfu

set_option maxRecDepth 100000 in
/-- A tree that came in. -/
theorem open_term2 {W : World} {sp : Nat → Bool} {v : Value} {d : DataW H} {ps : List MemPlace} {f0 f1 f2 : Field} (hs : Try.prog.underlying 24 = some (.struct #[f0, f1, f2])) (hone : oneCellFields Try.prog #[f0, f1, f2] = true) (hC : Try.prog.cellsOf 24 = 3)
    (ht : [f0.type, f1.type, f2.type] = [3, 3, 22]) {r : Reach} {b0 : Nat} (hval : Value.okWide Try.prog W r b0 24 v) (h : DataW.Trod enc Try.prog W 0 sp true 24 v d ps) : ∃ t : Tm, TmIn W t v ∧ t.small := by
  obtain ⟨v0, v1, v2, y0, y1, y2, n, rfl, hd, -, h0, h1, h2⟩ := Go.Joins.open_agg3 hs hone hC hval h
  have ht2 := ht
  simp only [List.cons.injEq, and_true] at ht2
  obtain ⟨t0, t1, t2⟩ := ht2
  rw [t0] at h0
  rw [t1] at h1
  rw [t2] at h2
  obtain ⟨k0, q0, -, -⟩ := DataW.trod_int Try.underlying3 h0
  obtain ⟨k1, q1, -, w1⟩ := DataW.trod_int Try.underlying3 h1
  simp only [List.cons.injEq, and_true] at q0 q1
  subst q0; subst q1
  obtain ⟨l, ⟨p, cp, rfl, hln, hin⟩, hls⟩ := open_row2 hs hone hC ht _ y2.1 v2 n y2.2 (Nat.le_refl _) h2
  exact ⟨.node k0 k1 l, ⟨p, cp, rfl, hln, hin⟩, small_of_wf w1, hls⟩



/-- A number that came in. -/
theorem open_int2 {W : World} {sp : Nat → Bool} {v : Value} {d : DataW H} {ps : List MemPlace} (h : DataW.Trod enc Try.prog W 0 sp true 3 v d ps) (hval : ∃ n : Int, v = .int .i64 n) : ∃ n : Int, v = .int .i64 n ∧ -9223372036854775808 ≤ n ∧ n ≤ 9223372036854775807 := by
  obtain ⟨n, rfl⟩ := hval
  obtain ⟨fuel, hf⟩ := h
  obtain ⟨n', e, -, w1⟩ := DataW.trod_int Try.underlying3 hf
  have e2 : n = n' := by simpa [Value.cells] using e
  subst e2
  exact ⟨n, rfl, small_of_wf w1⟩
end
end Go.Proofs.Ytljnmjehokijgaa

/- What is put stands there, nothing else has changed; what stood there, put back, gives the tree that there was: SigPuts returns true for every input, and changes nothing. No condition. -/
namespace Go.Proofs.Ytljnmjehokijgaa
open Go.ChangeShapes Go.WideShapes Go.ChangeAt Go.RowKit

set_option maxRecDepth 100000 in
set_option maxHeartbeats 1600000 in
theorem sigPuts_lifted (os : Os) (started : os.Started) (H : Type) (enc : TypeId × Value → H) :
    ReturnsInHanded {} Try.checked os 4 .any (fun w args => Rows.sigPutsSpec.pre enc Try.prog Try.f4 [] false w args ∧ sizedMet enc Try.prog Try.f4 (OpenSpec.ofChange Rows.sigPutsSpec) false w args)
      (Rows.sigPutsSpec.post enc Try.prog Try.f4 false true false false) := by
  refine handed0 (C := Try.checked) own started (by kernel_rfl) Try.func4
    (witness0 (ChangeSpec.witness_shaped (enc := enc) (C := Try.checked) (os := os) (X := fun _ _ => True) false (World.doorLaid Try.prog 48 os) #[.agg #[.int .i64 0, .int .i64 0, .slice none 0 0], .agg #[.int .i64 0, .int .i64 0, .slice none 0 0], .int .i64 0] 8 rfl (World.shaped_of_RefB (by kernel_rfl) (by kernel_rfl)) (by kernel_rfl) (by kernel_rfl) (by kernel_rfl) trivial)) ?_
  intro W base args ds gs before hval0 hW hwt0 hsh
  have hval : ∀ (j : Nat) t v, Try.f4.params[j]? = some t → args[j]? = some v → Value.okWide Try.prog W .any base t v := hval0
  have hW' := hW
  have hlt : ∀ x ∈ before, x.block < W.heap.size := fun x hx => hW'.lt x hx
  obtain ⟨p, q, hA0, hV, hpq, hfz, hnd⟩ := hW
  have hA : DataW.TrodAll enc Try.prog W 0 (fun _ => true) true Try.f4.params.toList args.toList ds p := hA0
  rw [Try.params4] at hA hval
  obtain ⟨v0, v1, v2, d0, d1, d2, p0, p1, p2, rfl, rfl, rfl, h0, h1, h2⟩ := trodAll_three hA
  obtain ⟨rfl, rfl⟩ := trodVars_none hV
  rw [List.append_nil] at hpq
  have k0 := h0
  have k1 := h1
  have k2 := h2
  obtain ⟨t0, hr0, hs0⟩ := open_term2 Try.underlying24 (by kernel_rfl) (by kernel_rfl) (by kernel_rfl) (hval 0 24 v0 rfl rfl) h0
  obtain ⟨t1, hr1, hs1⟩ := open_term2 Try.underlying24 (by kernel_rfl) (by kernel_rfl) (by kernel_rfl) (hval 1 24 v1 rfl rfl) h1
  obtain ⟨z2, rfl, hs2⟩ := open_int2 h2 (okWide_int Try.underlying3 (hval 2 3 v2 rfl rfl))
  clear hA0 hval0 hwt0
  refine (sigPuts_any W t0 v0 t1 v1 z2 hr0 hs0 hr1 hs1 hs2).mono fun e W' ⟨he, hb⟩ => ?_
  subst he
  exact ⟨_, rfl, post_of_below (pa := before) (pv := []) hW' (fun _ _ _ => trodAll_mk1 (shut_bool Try.underlying4 _)) (fun sp hsp => by rw [hpq, List.append_assoc]; exact trodAll_mk3 (trod_keeps (by kernel_rfl) (by kernel_rfl) (of_decide_eq_true (by kernel_rfl)) k0 hb (fun x hx => hlt x (by rw [hpq]; first | (cases hx; done) | simp [hx])) sp (fun x hx => hsp x (by rw [hpq]; first | (cases hx; done) | simp [hx]))) (trod_keeps (by kernel_rfl) (by kernel_rfl) (of_decide_eq_true (by kernel_rfl)) k1 hb (fun x hx => hlt x (by rw [hpq]; first | (cases hx; done) | simp [hx])) sp (fun x hx => hsp x (by rw [hpq]; first | (cases hx; done) | simp [hx]))) (trod_keeps (by kernel_rfl) (by kernel_rfl) (of_decide_eq_true (by kernel_rfl)) k2 hb (fun x hx => hlt x (by rw [hpq]; first | (cases hx; done) | simp [hx])) sp (fun x hx => hsp x (by rw [hpq]; first | (cases hx; done) | simp [hx])))) (fun _ _ => rfl) (List.append_nil _).symm hb (ok_one (by kernel_rfl) rfl (okWide_bool_mk Try.underlying4 _))⟩

theorem sigPuts_said : Rows.SigPutsSaid :=
  OpenClaim.holds_of_wide 4 Try.f4 rfl rfl rfl rfl rfl rfl rfl ⟨rfl, rfl, rfl, rfl, rfl⟩ rfl rfl rfl rfl rfl (by kernel_rfl) Try.func4 (by kernel_rfl)
    (of_decide_eq_true (by kernel_rfl)) (by unfold Func.isWrapper; first | (rw [if_pos (by decide +kernel)]; kernel_rfl) | (rw [if_neg (by decide +kernel)]; exact ⟨rfl, rfl⟩))
    (fun os started H enc _ => sigPuts_lifted os started H enc)
end Go.Proofs.Ytljnmjehokijgaa
