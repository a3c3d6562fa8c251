/- Parts of the proof, one behind the other. -/
import Derived.Test.YtljnmjehokijgaaGreatMg16

/- Vars and Ground. -/
namespace Go.Proofs.YtljnmjehokijgaaGreat
open Go.RowKit

set_option maxRecDepth 100000 in
set_option maxHeartbeats 1600000 in
theorem vars_any (la : List Tm) (va : Value) (w : World) (ha : RowTm w va la) (hn : Tm.smalls la) (hsz : Tm.sizes la ≤ 1000000) :
    Calls Tryz.prog 17 #[va] w fun e w' => ∃ v, e = .returned v ∧ RowI w' v (varsOf la) ∧ Turned w w' (fun _ => False) := by
  have hA := areTrees_any la va w ha
  have HV := Lib.hid (fun V (hV : Turned w V (fun _ => False)) => variables_any la va V (ha.turned hV) hn hsz)
  obtain ⟨aa, ca, rfl, -, -⟩ := ha
  cases hall : la.all Tm.isTree with
  | false =>
    rw [hall] at hA
    have HA := Lib.hid hA
    have hv : varsOf la = [] := by unfold varsOf; rw [hall]; rfl
    rw [hv]
    clear hA hall hv
    go_enter Tryz.func17, Tryz.ntmps17
    go_wp2_with fail
    refine HA.out.mono ?_
    rintro e w1 ⟨rfl, t1⟩
    have T1 := Lib.hid t1
    clear t1
    go_wp2
    go_ret
    exact ⟨_, rfl, RowI.nil _, T1.out⟩
  | true =>
    rw [hall] at hA
    have HA := Lib.hid hA
    have hv : varsOf la = Tm.walks varStep la [] := by
      unfold varsOf
      rw [hall, if_pos rfl]
      refine (Tm.walks_vars la [] ?_).symm
      rw [Tm.rights_all, List.all_eq_true]
      rw [List.all_eq_true] at hall
      exact fun t ht => ((Tm.isTree_iff t).1 (hall t ht)).2.2
    rw [hv]
    clear hA hall hv
    generalize Tm.walks varStep la [] = r at *
    go_enter Tryz.func17, Tryz.ntmps17
    go_wp2_with fail
    refine HA.out.mono ?_
    rintro e w1 ⟨rfl, t1⟩
    have T1 := Lib.hid t1
    clear t1
    go_wp2_with fail
    refine (HV.out w1 T1.out).mono ?_
    rintro e w2 ⟨v, rfl, ho, t2⟩
    obtain ⟨av, cv, rfl⟩ := ho.form
    have HR := Lib.hid (ho.row)
    have T2 := Lib.hid (T1.out.trans t2 (fun _ _ hf => hf))
    clear ho t2
    go_wp2
    go_ret
    exact ⟨_, rfl, HR.out, T2.out⟩

/-- No variable. -/
def noVarB (t : Tm) : Bool := !(t.kind == 1)

set_option maxRecDepth 100000 in
set_option maxHeartbeats 1600000 in
theorem ground1_any (ta : Tm) (va : Value) (w : World) (ha : TmIn w ta va) :
    Calls Tryz.prog 62 #[va] w fun e w' => e = .returned (.bool (noVarB ta)) ∧ Turned w w' (fun _ => False) := by
  obtain ⟨aa, ca, rfl, hla, -⟩ := ha.form
  obtain ⟨W, hW, tW, hC⟩ := box1 w (.int .i64 ta.kind) (.int .i64 ta.num) (.slice aa ta.kids.length ca) 24
  obtain ⟨c0, c1, c2, lW⟩ := hC W (Turned.refl _ _)
  have HW := Lib.hid hW
  have TW := Lib.hid tW
  clear hW tW hC ha
  unfold noVarB
  generalize ta.kind = k at *
  by_cases hk : k = 1
  · subst hk
    go_enter Tryz.func62, Tryz.ntmps62
    go_wp2_with fail
    rw [← HW.out]
    go_wp2
    go_ret
    exact ⟨rfl, TW.out⟩
  · have e1 : (k == 1) = false := by simpa using hk
    have e2 : (k != 1) = true := by simpa using hk
    rw [e1]
    go_enter Tryz.func62, Tryz.ntmps62
    go_wp2_with fail
    rw [← HW.out]
    go_wp2
    go_ret
    exact ⟨rfl, TW.out⟩

theorem run_ground1 (x : Value) (w : World) : (callFunc 62 (#[x] ++ #[])).run Tryz.prog w = .ok (.enter 62 (#[x] ++ #[])) w := by kernel_rfl

theorem looks_ground (w0 : World) : Looks w0 62 #[] (fun (s : Unit) x => (s, noVarB x)) (fun _ w => Turned w0 w (fun _ => False)) (fun _ _ => True) (fun _ => True) where
  run := run_ground1
  old := fun _ _ h => h
  step := fun _ _ _ h t => h.trans t (fun _ _ hf => hf)
  less := fun _ _ _ => trivial
  next := fun _ _ _ _ => trivial
  kids := fun _ _ _ _ _ _ => trivial
  call := fun s n t v w _ _ ht hI => by
    refine (ground1_any t v w (TmIn.turned hI _ ht)).mono ?_
    rintro e w' ⟨rfl, t1⟩
    exact ⟨rfl, hI.trans t1 (fun _ _ hf => hf), KeepsT.of t1⟩

mutual
theorem Tm.every_noVar : ∀ t : Tm, t.right = true → (∀ x, ¬ t.vin x) → t.every noVarB = true
  | .node k n l, hr, h => by
    simp only [Tm.right, Bool.and_eq_true] at hr
    by_cases hk : k = 1
    · exact absurd (by simp only [Tm.vin, if_pos hk]) (h n)
    · simp only [Tm.every, Bool.and_eq_true]
      refine ⟨by simp [noVarB, Tm.kind, hk], Tm.everys_noVar l hr.2 (fun x hx => h x (by simp only [Tm.vin, if_neg hk]; exact hx))⟩
theorem Tm.everys_noVar : ∀ l : List Tm, Tm.rights l = true → (∀ x, ¬ Tm.vins x l) → Tm.everys noVarB l = true
  | [], _, _ => rfl
  | t :: l, hr, h => by
    simp only [Tm.rights, Bool.and_eq_true] at hr
    simp only [Tm.everys, Bool.and_eq_true]
    exact ⟨Tm.every_noVar t hr.1 (fun x hx => h x (.inl hx)), Tm.everys_noVar l hr.2 (fun x hx => h x (.inr hx))⟩
end

theorem ground_eq (t : Tm) : t.ground = (t.isTree && t.every noVarB) := by
  unfold Tm.ground
  cases ht : t.isTree with
  | false => rfl
  | true =>
    have hr := ((Tm.isTree_iff t).1 ht).2.2
    have hv : varsOf [t] = t.vars [] := by simp [varsOf, ht, Tm.varss]
    rw [hv, Bool.true_and, Bool.true_and]
    cases he : t.every noVarB with
    | true =>
      have : t.vars [] = [] := List.eq_nil_iff_forall_not_mem.2 (fun x hx => by
        rcases (Tm.vars_mem x t []).1 hx with h | h
        · cases h
        · have := Tm.every_vin hr he h
          simp [noVarB, Tm.leaf, Tm.kind] at this)
      rw [this]
      rfl
    | false =>
      cases hvs : t.vars [] with
      | nil =>
        rw [Tm.every_noVar t hr (fun x hx => by
          have := (Tm.vars_mem x t []).2 (.inr hx)
          rw [hvs] at this
          cases this)] at he
        cases he
      | cons a r => rfl

set_option maxRecDepth 100000 in
set_option maxHeartbeats 1600000 in
theorem ground_any (ta : Tm) (va : Value) (w : World) (ha : TmIn w ta va) :
    Calls Tryz.prog 19 #[va] w fun e w' => e = .returned (.bool ta.ground) ∧ Turned w w' (fun _ => False) := by
  obtain ⟨aa, ca, rfl, hla, -⟩ := ha.form
  obtain ⟨W, hW, tW, hC⟩ := box1 w (.int .i64 ta.kind) (.int .i64 ta.num) (.slice aa ta.kids.length ca) 24
  have hT := tree_any ta _ W (TmIn.turned tW _ ha)
  have hV := fun V (hV : Turned w V (fun _ => False)) => visit_any w _ _ _ _ _ _ (looks_ground w) ta (.agg #[.int .i64 ta.kind, .int .i64 ta.num, .slice aa ta.kids.length ca]) () 0 V ha trivial hV trivial
  simp only [Tm.visit_every] at hV
  obtain ⟨c0, c1, c2, lW⟩ := hC W (Turned.refl _ _)
  have HW := Lib.hid hW
  have TW := Lib.hid tW
  have HC := Lib.hid hC
  have HV := Lib.hid hV
  rw [ground_eq]
  clear hW tW hC hV ha
  generalize ta.kind = k at *
  generalize ta.num = n at *
  generalize ta.kids.length = m at *
  unfold Tm.treeE at hT
  cases ht : ta.isTree with
  | false =>
    rw [ht] at hT
    simp only [Bool.false_eq_true, if_false] at hT
    have HT := Lib.hid hT
    clear hT ht
    go_enter Tryz.func19, Tryz.ntmps19
    go_wp2_with fail
    rw [← HW.out]
    go_wp2_with fail
    refine HT.out.mono ?_
    rintro e w1 ⟨rfl, t1⟩
    have T1 := Lib.hid (TW.out.trans t1 (fun _ _ hf => hf))
    clear t1
    go_wp2
    go_ret
    exact ⟨rfl, T1.out⟩
  | true =>
    rw [ht] at hT
    simp only [if_true] at hT
    have HT := Lib.hid hT
    clear hT ht
    generalize ta.every noVarB = g at *
    go_enter Tryz.func19, Tryz.ntmps19
    go_wp2_with fail
    rw [← HW.out]
    go_wp2_with fail
    refine HT.out.mono ?_
    rintro e w1 ⟨rfl, t1⟩
    obtain ⟨d0, d1, d2, lW1⟩ := HC.out w1 t1
    have T1 := Lib.hid (TW.out.trans t1 (fun _ _ hf => hf))
    clear t1 c0 c1 c2 lW
    go_wp2_with fail
    refine (HV.out w1 T1.out).mono ?_
    rintro e w2 ⟨rfl, t2, -, -⟩
    have T2 := Lib.hid t2
    clear t2
    go_wp2
    go_ret
    exact ⟨rfl, T2.out⟩
end Go.Proofs.YtljnmjehokijgaaGreat

/- SigTrees: the walk. -/
namespace Go.Proofs.YtljnmjehokijgaaGreat
open Go.RowKit

theorem eql_int {x y : Operand} (c : Int) (w : World) : (do eqGuard BinOp.eql 3 x y (.int .i64 c) (.int .i64 c); binOp BinOp.eql 3 (.int .i64 c) (.int .i64 c) : Sem Value).run Tryz.prog w = .ok (.bool true) w := by
  unfold eqGuard binOp
  simp [Op.intCmp]
theorem eql_bool {x y : Operand} (c : Bool) (w : World) : (do eqGuard BinOp.eql 4 x y (.bool c) (.bool c); binOp BinOp.eql 4 (.bool c) (.bool c) : Sem Value).run Tryz.prog w = .ok (.bool true) w := by
  cases c <;> kernel_rfl

/-- A row of two trees of the call's own. -/
theorem ownTT_two {w1 : World} {R : Nat → Prop} {t u : Tm} {x y z x' y' z' : Value} {B : Nat} (h : TmS w1 R t (.agg #[x, y, z])) (h2 : TmS w1 R u (.agg #[x', y', z'])) (hB : B ≤ w1.heap.size) :
    OwnTT (w1.alloc (.cells #[x, y, z, x', y', z'] 24)) B R (.slice (some ⟨w1.heap.size, 0, none⟩) 2 2) [t, u] := by
  refine ⟨[(x, y, z), (x', y', z')], rfl, fun i c s hi hu => ?_, rfl, .inr ⟨_, 2, _, rfl, hB, heap_alloc_new _ _, Nat.le_refl _, by unfold maxLen; omega, rfl, rfl⟩⟩
  match i, hi, hu with
  | 0, hi, hu =>
    simp only [List.getElem?_cons_zero, Option.some.injEq] at hi hu
    subst hi; subst hu
    exact TmS.turned (D := fun _ => False) ((Turned.refl _ _).alloc _) (fun _ _ _ hf => hf) (fun k hk hR => ⟨hR, by simp only [Value.ownBlock, ne_eq, Option.some.injEq]; omega⟩) _ h
  | 1, hi, hu =>
    simp only [List.getElem?_cons_succ, List.getElem?_cons_zero, Option.some.injEq] at hi hu
    subst hi; subst hu
    exact TmS.turned (D := fun _ => False) ((Turned.refl _ _).alloc _) (fun _ _ _ hf => hf) (fun k hk hR => ⟨hR, by simp only [Value.ownBlock, ne_eq, Option.some.injEq]; omega⟩) _ h2
  | i + 2, hi, _ => simp at hi

set_option maxRecDepth 100000 in
set_option maxHeartbeats 3200000 in
theorem sigTrees_any (hsane : ∀ w, Calls Tryz.prog 8 #[] w fun e w' => e = .returned (.bool true) ∧ Turned w w' (fun _ => False))
    (w : World) (a b : Tm) (l : List Tm) (va vb vl : Value) (ha : TmIn w a va) (hb : TmIn w b vb) (hl : RowTm w vl l) (hs : Tm.smalls l) (nl : ∀ n c, vl = .slice none n c → c = 0) (hsz : (2 + l.length) * 40 ≤ 140737488355328)
    (sl : ∀ g off sp n c, vl = .slice (some ⟨g, off, sp⟩) n c → l ≠ [] → sp = none) :
    Calls Tryz.prog 3 #[va, vb, vl] w fun e w' => e = .returned (.bool true) ∧ Below w.heap.size w w' := by
  have hl0 := hl
  obtain ⟨pa, ca, rfl, -⟩ := ha.form
  obtain ⟨pb, cb, rfl, -⟩ := hb.form
  obtain ⟨al, cl, rfl, hll, rl⟩ := hl
  obtain ⟨W, hW, tW, hC⟩ := box2 w (.int .i64 a.kind) (.int .i64 a.num) (.slice pa a.kids.length ca) (.int .i64 b.kind) (.int .i64 b.num) (.slice pb b.kids.length cb) 24 24
  have hfin : ∀ V, Turned W V (fun _ => False) → Below w.heap.size w V := fun V hV => (tW.trans hV (fun _ _ hf => hf)).below (Nat.le_refl _) (fun _ hf => hf.elim)
  have k1 : W.heap[w.heap.size]? = some (.cells #[.int .i64 a.kind, .int .i64 a.num, .slice pa a.kids.length ca] 24 (0, 0)) := by
    rw [hW]
    exact alloc_keep (heap_alloc_new _ _)
  have k2 : W.heap[w.heap.size + 1]? = some (.cells #[.int .i64 b.kind, .int .i64 b.num, .slice pb b.kids.length cb] 24 (0, 0)) := by
    rw [hW]
    exact alloc_at (by simp)
  have HBoxA := Lib.hid (fun V (hV : Turned W V (fun _ => False)) => show Box a V w.heap.size from ⟨pa, ca, turn_keep hV k1, TmIn.turned (tW.trans hV (fun _ _ hf => hf)) _ ha⟩)
  have HBoxB := Lib.hid (fun V (hV : Turned W V (fun _ => False)) => show Box b V (w.heap.size + 1) from ⟨pb, cb, turn_keep hV k2, TmIn.turned (tW.trans hV (fun _ _ hf => hf)) _ hb⟩)
  have HIa := Lib.hid (fun V (hV : Turned w V (fun _ => False)) => TmS.turned (S' := (· < w.heap.size)) hV (fun _ _ _ hf => hf) (fun _ _ h => h) _ (TmIn.toS _ ha))
  have HIb := Lib.hid (fun V (hV : Turned w V (fun _ => False)) => TmS.turned (S' := (· < w.heap.size)) hV (fun _ _ _ hf => hf) (fun _ _ h => h) _ (TmIn.toS _ hb))
  have HIl := Lib.hid (fun V (hV : Turned w V (fun _ => False)) => TmsS.turned (S' := (· < w.heap.size)) hV (fun _ _ _ hf => hf) (fun _ _ h => h) _ (TmsIn.toS _ rl))
  have HIr := Lib.hid (fun V (hV : Turned w V (fun _ => False)) => hl0.turned hV)
  have HSz := Lib.hid (fun V (hV : Turned w V (fun _ => False)) => size_any a _ V (TmIn.turned hV _ ha))
  have HRSz := Lib.hid (fun V (hV : Turned w V (fun _ => False)) => rsize_any a _ V (TmIn.turned hV _ ha))
  have HSm := Lib.hid (fun V v0 v1 (h0 : TmIn V a v0) (h1 : TmIn V b v1) => show Calls Tryz.prog 12 #[v0, v1] V fun e w' => ∃ x, e = .returned x ∧ (Rel.val (.bool (a.same b))).holds x w' ∧ Turned V w' (fun _ => False) from (same_any a b v0 v1 V h0 h1).mono (fun e w' h => ⟨_, h.1, rfl, h.2⟩))
  have HRSm := Lib.hid (fun V v0 v1 (h0 : TmIn V a v0) (h1 : TmIn V b v1) => show Calls Tryz.prog 13 #[v0, v1] V fun e w' => ∃ x, e = .returned x ∧ (Rel.val (.bool (a.same b))).holds x w' ∧ Turned V w' (fun _ => False) from (rsame_any a b v0 v1 V h0 h1).mono (fun e w' h => ⟨_, h.1, rfl, h.2⟩))
  have HCm := Lib.hid (fun V v0 v1 (h0 : TmIn V a v0) (h1 : TmIn V b v1) => show Calls Tryz.prog 14 #[v0, v1] V fun e w' => ∃ x, e = .returned x ∧ (Rel.val (.int .i64 (a.cmp b))).holds x w' ∧ Turned V w' (fun _ => False) from (compare_any a b v0 v1 V h0 h1).mono (fun e w' h => ⟨_, h.1, rfl, h.2⟩))
  have HRCm := Lib.hid (fun V v0 v1 (h0 : TmIn V a v0) (h1 : TmIn V b v1) => show Calls Tryz.prog 15 #[v0, v1] V fun e w' => ∃ x, e = .returned x ∧ (Rel.val (.int .i64 (a.cmp b))).holds x w' ∧ Turned V w' (fun _ => False) from (rcompare_any a b v0 v1 V h0 h1).mono (fun e w' h => ⟨_, h.1, rfl, h.2⟩))
  have hVs := fun (hz : Tm.sizes l ≤ 1000000) V v (h0 : RowTm V v l) => show Calls Tryz.prog 17 #[v] V fun e w' => ∃ x, e = .returned x ∧ (Rel.ints (varsOf l)).holds x w' ∧ Turned V w' (fun _ => False) from (vars_any l v V h0 hs hz).mono (fun e w' h => h)
  have hRVs := fun (hz : Tm.sizes l ≤ 1000000) V v (h0 : RowTm V v l) => show Calls Tryz.prog 18 #[v] V fun e w' => ∃ x, e = .returned x ∧ (Rel.ints (varsOf l)).holds x w' ∧ Turned V w' (fun _ => False) from (rvarsOf_any l v V h0 hz).mono (fun e w' ⟨x, h1, h2, h3⟩ => ⟨x, h1, h2.row, h3⟩)
  have hvv : intsB (varsOf l) (varsOf l) = true := decide_eq_true rfl
  have HSi := Lib.hid (fun V v0 v1 (h0 : RowI V v0 (varsOf l)) (h1 : RowI V v1 (varsOf l)) => c_ints (varsOf l) (varsOf l) true hvv V v0 v1 h0 h1)
  have HGr := Lib.hid (fun V v0 (h0 : TmIn V a v0) => show Calls Tryz.prog 19 #[v0] V fun e w' => ∃ x, e = .returned x ∧ (Rel.val (.bool a.ground)).holds x w' ∧ Turned V w' (fun _ => False) from (ground_any a v0 V h0).mono (fun e w' h => ⟨_, h.1, rfl, h.2⟩))
  have HRGr := Lib.hid (fun V v0 (h0 : TmIn V a v0) => show Calls Tryz.prog 20 #[v0] V fun e w' => ∃ x, e = .returned x ∧ (Rel.val (.bool a.ground)).holds x w' ∧ Turned V w' (fun _ => False) from (rground_any a v0 V h0).mono (fun e w' h => ⟨_, h.1, rfl, h.2⟩))
  have HVs0 := Lib.hid hVs
  have HRVs0 := Lib.hid hRVs
  have HW := Lib.hid hW
  have HC := Lib.hid hC
  have TW := Lib.hid tW
  have Hsane := Lib.hid (hsane W)
  have Hll := Lib.hid hll
  have HNl := Lib.hid (fun h => nl l.length cl (by rw [h]) : al = none → cl = 0)
  have HSl := Lib.hid (fun g off sp h => sl g off sp l.length cl (by rw [h]) : ∀ g off sp, al = some ⟨g, off, sp⟩ → l ≠ [] → sp = none)
  have HFin := Lib.hid hfin
  clear hsane ha hb rl hW hC tW hll nl sl hfin hl0 k1 k2 hVs hRVs hvv hs
  generalize a.same b = sm at *
  generalize a.cmp b = cm at *
  generalize a.ground = gr at *
  generalize varsOf l = vs at *
  generalize a.size2 = s2 at *
  obtain ⟨n, d⟩ := s2
  go_enter Tryz.func3, Tryz.ntmps3
  go_wp2_with fail
  rw [← HW.out]
  refine Hsane.out.mono ?_
  rintro e w1 ⟨rfl, t1⟩
  obtain ⟨c0, c1, c2, d0, d1, d2, l1⟩ := HC.out w1 t1
  have T1 := Lib.hid t1
  have tw1 := TW.out.trans t1 (fun _ _ hf => hf)
  have hO1 : OwnTT (w1.alloc (.cells #[.int .i64 a.kind, .int .i64 a.num, .slice pa a.kids.length ca, .int .i64 b.kind, .int .i64 b.num, .slice pb b.kids.length cb] 24)) w1.heap.size (· < w.heap.size) (.slice (some ⟨w1.heap.size, 0, none⟩) 2 2) [a, b] := ownTT_two (HIa.out w1 tw1) (HIb.out w1 tw1) (Nat.le_refl _)
  have hap1 : TmsS (w1.alloc (.cells #[.int .i64 a.kind, .int .i64 a.num, .slice pa a.kids.length ca, .int .i64 b.kind, .int .i64 b.num, .slice pb b.kids.length cb] 24)) (fun k => k < w.heap.size ∧ (Value.slice (some ⟨w1.heap.size, 0, none⟩) 2 2).ownBlock ≠ some k) l al := by
    refine TmsS.turned (D := fun _ => False) (Turned.refl _ _) (fun _ _ _ hf => hf) (fun k _ hk => ⟨hk, ?_⟩) _ (HIl.out _ (tw1.alloc _))
    have := tw1.size
    simp only [Value.ownBlock, ne_eq, Option.some.injEq]
    omega
  have hB1 : w1.heap.size ≤ (w1.alloc (.cells #[.int .i64 a.kind, .int .i64 a.num, .slice pa a.kids.length ca, .int .i64 b.kind, .int .i64 b.num, .slice pb b.kids.length cb] 24)).heap.size := by simp
  have HO1 := Lib.hid hO1
  have HA1 := Lib.hid hap1
  have hlen1 : ([a, b].length + l.length) * 40 ≤ 140737488355328 := by simp; omega
  clear t1 tw1 hO1 hap1 HIa HIb HIl
  have Hw1 := Lib.hid (show W.heap.size ≤ w1.heap.size from by have := T1.out.size; omega)
  have TwA := Lib.hid (show Turned W (w1.alloc (.cells #[.int .i64 a.kind, .int .i64 a.num, .slice pa a.kids.length ca, .int .i64 b.kind, .int .i64 b.num, .slice pb b.kids.length cb] 24)) (fun _ => False) from T1.out.alloc _)
  generalize hk0 : a.kind = ak at *
  generalize hk1 : a.num = an at *
  generalize hk2 : a.kids.length = am at *
  generalize hk3 : b.kind = bk at *
  generalize hk4 : b.num = bn at *
  generalize hk5 : b.kids.length = bm at *
  clear hk0 hk1 hk2 hk3 hk4 hk5
  go_wp2_with (at_builtin; (refine append_terms _ (by rfl) _ _ (by rfl) w1.heap.size (· < w.heap.size) (.slice (some ⟨w1.heap.size, 0, none⟩) 2 2) [a, b] l (by rfl) HO1.out al cl (by rfl) HNl.out HA1.out HSl.out hlen1 hB1 ?_; intro v3 w3 hO3 t3; go_loud (have u3 : Turned W w3 (fun _ => False) := TwA.out.trans t3 (fun i hi e => by have := Hw1.out; simp only [Value.ownBlock, Option.some.injEq] at e; omega)); go_loud (have HR3 := Lib.hid (hO3.rowS (S' := fun _ => True) (fun _ _ _ => trivial) (fun _ _ => trivial))); have U3 := Lib.hid u3; clear hO3 t3 u3))
  refine (few_any _ _ w3 (by obtain ⟨a4, k4, hv4, hl4, hr4⟩ := HR3.out; exact ⟨a4, k4, hv4, hl4, TmsS.toIn _ hr4⟩)).mono ?_
  rintro e w5 ⟨rfl, t5⟩
  have U5 := Lib.hid (U3.out.trans t5 (fun _ _ hf => hf))
  clear t5 HR3 U3 HO1 HA1 TwA Hw1 c0 c1 c2 d0 d1 d2 l1
  generalize hb5 : fewB _ = b5
  cases b5
  · go_wp2_with fail
    go_ret
    exact ⟨rfl, HFin.out _ U5.out⟩
  have hzz : Tm.sizes l ≤ 1000000 := by
    have h5 := ((Tm.cnts_iff 1000 _ 6000 0 (by omega) (by omega)).1 hb5).1
    simp only [List.cons_append, List.nil_append, Tm.sizes] at h5
    omega
  have HVs := Lib.hid (HVs0.out hzz)
  have HRVs := Lib.hid (HRVs0.out hzz)
  clear hb5 HVs0 HRVs0 hzz
  obtain ⟨c0, c1, c2, d0, d1, d2, l1⟩ := HC.out w5 U5.out
  go_wp2_with fail
  refine (HSz.out w5 (TW.out.trans U5.out (fun _ _ hf => hf))).mono ?_
  rintro e w6 ⟨he, t6⟩
  unfold SizePost at he
  subst he
  have U6 := Lib.hid (U5.out.trans t6 (fun _ _ hf => hf))
  clear t6 c0 c1 c2 d0 d1 d2 l1
  obtain ⟨c0, c1, c2, d0, d1, d2, l1⟩ := HC.out w6 U6.out
  go_wp2_with fail
  refine (HRSz.out w6 (TW.out.trans U6.out (fun _ _ hf => hf))).mono ?_
  rintro e w7 ⟨he, t7⟩
  unfold SizePost at he
  subst he
  have T7 := Lib.hid (U6.out.trans t7 (fun _ _ hf => hf))
  clear t7 c0 c1 c2 d0 d1 d2 l1
  have HBa := Lib.hid (HBoxA.out w7 T7.out)
  have HBb := Lib.hid (HBoxB.out w7 T7.out)
  have HLr := Lib.hid (show Rel.holds (.trees l) (.slice al l.length cl) w7 from HIr.out w7 (TW.out.trans T7.out (fun _ _ hf => hf)))
  clear HBoxA HBoxB HIr HSz HRSz HC HW
  go_upto_region 7 with fail
  refine wp_region_each (by kernel_rfl) (waits_of (by kernel_rfl)) (apart_of (by kernel_rfl)) (fun i => (([(.tree a), (.tree b), (.val (.bool sm)), (.tree a), (.tree b), (.val (.bool sm)), (.val (.bool true)), (.val (.bool true)), (.tree a), (.tree b), (.val (.int .i64 cm)), (.tree a), (.tree b), (.val (.int .i64 cm)), (.val (.bool true)), (.val (.bool true)), (.val (.bool true)), (.val (.int .i64 n)), (.val (.int .i64 n)), (.val (.bool true)), (.val (.bool true)), (.val (.bool true)), (.val (.int .i64 d)), (.val (.int .i64 d)), (.val (.bool true)), (.val (.bool true)), (.val (.bool true)), (.trees l), (.ints vs), (.trees l), (.ints vs), (.val (.bool true)), (.val (.bool true)), (.val (.bool true)), (.tree a), (.val (.bool gr)), (.tree a), (.val (.bool gr)), (.val (.bool true)), (.val (.bool true)), (.val (.bool true))] : List Rel)[i]?.getD (.val undef)).holds) (fun i x w1 w2 h t => Rel.turned _ x w1 w2 h t) ?_ ?_
  · intro i o ho v w8 ht hdep
    have hi : i < 41 := (Array.getElem?_eq_some_iff.1 ho).1
    obtain rfl | rfl | rfl | rfl | rfl | rfl | rfl | rfl | rfl | rfl | rfl | rfl | rfl | rfl | rfl | rfl | rfl | rfl | rfl | rfl | rfl | rfl | rfl | rfl | rfl | rfl | rfl | rfl | rfl | rfl | rfl | rfl | rfl | rfl | rfl | rfl | rfl | rfl | rfl | rfl | rfl := (show i = 0 ∨ i = 1 ∨ i = 2 ∨ i = 3 ∨ i = 4 ∨ i = 5 ∨ i = 6 ∨ i = 7 ∨ i = 8 ∨ i = 9 ∨ i = 10 ∨ i = 11 ∨ i = 12 ∨ i = 13 ∨ i = 14 ∨ i = 15 ∨ i = 16 ∨ i = 17 ∨ i = 18 ∨ i = 19 ∨ i = 20 ∨ i = 21 ∨ i = 22 ∨ i = 23 ∨ i = 24 ∨ i = 25 ∨ i = 26 ∨ i = 27 ∨ i = 28 ∨ i = 29 ∨ i = 30 ∨ i = 31 ∨ i = 32 ∨ i = 33 ∨ i = 34 ∨ i = 35 ∨ i = 36 ∨ i = 37 ∨ i = 38 ∨ i = 39 ∨ i = 40 by omega)
    all_goals
      obtain rfl := Option.some.inj ho
      clear hi
    · show Gives _ _ _ 0 (.tree a) _ _
      exact gives_box ho (wanted_none rfl _) rfl ((eval_other (fresh_of (by kernel_rfl))).trans rfl) (HBa.out.turned ht)
    · show Gives _ _ _ 1 (.tree b) _ _
      exact gives_box ho (wanted_none rfl _) rfl ((eval_other (fresh_of (by kernel_rfl))).trans rfl) (HBb.out.turned ht)
    · have d0 : TmIn w8 a (v 0) := hdep { on := 0, ground := .data } (by simp) rfl
      have d1 : TmIn w8 b (v 1) := hdep { on := 1, ground := .data } (by simp) rfl
      show Gives _ _ _ 2 (.val (.bool sm)) _ _
      refine gives_fn (vs := #[v 0, v 1]) ho (wanted_none rfl _) rfl ?_ (Go.Proofs.enters_of Tryz.func12 (by kernel_rfl) rfl) ?_
      · simp only [List.map_toArray, List.map_cons, List.map_nil]
        rw [eval_dst (i := 0) (apart_of (by kernel_rfl)) rfl (Nat.le_of_ble_eq_true (by kernel_rfl)), eval_dst (i := 1) (apart_of (by kernel_rfl)) rfl (Nat.le_of_ble_eq_true (by kernel_rfl))]
      · exact HSm.out _ _ _ d0 d1
    · show Gives _ _ _ 3 (.tree a) _ _
      exact gives_box ho (wanted_none rfl _) rfl ((eval_other (fresh_of (by kernel_rfl))).trans rfl) (HBa.out.turned ht)
    · show Gives _ _ _ 4 (.tree b) _ _
      exact gives_box ho (wanted_none rfl _) rfl ((eval_other (fresh_of (by kernel_rfl))).trans rfl) (HBb.out.turned ht)
    · have d3 : TmIn w8 a (v 3) := hdep { on := 3, ground := .data } (by simp) rfl
      have d4 : TmIn w8 b (v 4) := hdep { on := 4, ground := .data } (by simp) rfl
      show Gives _ _ _ 5 (.val (.bool sm)) _ _
      refine gives_fn (vs := #[v 3, v 4]) ho (wanted_none rfl _) rfl ?_ (Go.Proofs.enters_of Tryz.func13 (by kernel_rfl) rfl) ?_
      · simp only [List.map_toArray, List.map_cons, List.map_nil]
        rw [eval_dst (i := 3) (apart_of (by kernel_rfl)) rfl (Nat.le_of_ble_eq_true (by kernel_rfl)), eval_dst (i := 4) (apart_of (by kernel_rfl)) rfl (Nat.le_of_ble_eq_true (by kernel_rfl))]
      · exact HRSm.out _ _ _ d3 d4
    · have d2 : (v 2) = (.bool sm) := hdep { on := 2, ground := .data } (by simp) rfl
      have d5 : (v 5) = (.bool sm) := hdep { on := 5, ground := .data } (by simp) rfl
      show Gives _ _ _ 6 (.val (.bool true)) _ _
      exact gives_bin ho (wanted_none rfl _) rfl ((eval_dst (i := 2) (apart_of (by kernel_rfl)) rfl (Nat.le_of_ble_eq_true (by kernel_rfl))).trans d2) ((eval_dst (i := 5) (apart_of (by kernel_rfl)) rfl (Nat.le_of_ble_eq_true (by kernel_rfl))).trans d5) (fun _ => eql_bool _ _)
    · have d6 : (v 6) = (.bool true) := hdep { on := 6, ground := .data } (by simp) rfl
      show Gives _ _ _ 7 (.val (.bool true)) _ _
      exact gives_move ho (wanted_none rfl _) (.inl rfl) ((eval_dst (i := 6) (apart_of (by kernel_rfl)) rfl (Nat.le_of_ble_eq_true (by kernel_rfl))).trans d6)
    · have d7 : (v 7) = (.bool true) := hdep { on := 7, ground := .guard } (by simp) rfl
      show Gives _ _ _ 8 (.tree a) _ _
      refine gives_box ho ?_ rfl ((eval_other (fresh_of (by kernel_rfl))).trans rfl) (HBa.out.turned ht)
      exact want_yes (g := 7) (d := 37) (b := true) (apart_of (by kernel_rfl)) rfl rfl (Nat.le_of_ble_eq_true (by kernel_rfl)) d7
    · have d7 : (v 7) = (.bool true) := hdep { on := 7, ground := .guard } (by simp) rfl
      show Gives _ _ _ 9 (.tree b) _ _
      refine gives_box ho ?_ rfl ((eval_other (fresh_of (by kernel_rfl))).trans rfl) (HBb.out.turned ht)
      exact want_yes (g := 7) (d := 37) (b := true) (apart_of (by kernel_rfl)) rfl rfl (Nat.le_of_ble_eq_true (by kernel_rfl)) d7
    · have d7 : (v 7) = (.bool true) := hdep { on := 7, ground := .guard } (by simp) rfl
      have d8 : TmIn w8 a (v 8) := hdep { on := 8, ground := .data } (by simp) rfl
      have d9 : TmIn w8 b (v 9) := hdep { on := 9, ground := .data } (by simp) rfl
      show Gives _ _ _ 10 (.val (.int .i64 cm)) _ _
      refine gives_fn (vs := #[v 8, v 9]) ho ?_ rfl ?_ (Go.Proofs.enters_of Tryz.func14 (by kernel_rfl) rfl) ?_
      · exact want_yes (g := 7) (d := 37) (b := true) (apart_of (by kernel_rfl)) rfl rfl (Nat.le_of_ble_eq_true (by kernel_rfl)) d7
      · simp only [List.map_toArray, List.map_cons, List.map_nil]
        rw [eval_dst (i := 8) (apart_of (by kernel_rfl)) rfl (Nat.le_of_ble_eq_true (by kernel_rfl)), eval_dst (i := 9) (apart_of (by kernel_rfl)) rfl (Nat.le_of_ble_eq_true (by kernel_rfl))]
      · exact HCm.out _ _ _ d8 d9
    · have d7 : (v 7) = (.bool true) := hdep { on := 7, ground := .guard } (by simp) rfl
      show Gives _ _ _ 11 (.tree a) _ _
      refine gives_box ho ?_ rfl ((eval_other (fresh_of (by kernel_rfl))).trans rfl) (HBa.out.turned ht)
      exact want_yes (g := 7) (d := 37) (b := true) (apart_of (by kernel_rfl)) rfl rfl (Nat.le_of_ble_eq_true (by kernel_rfl)) d7
    · have d7 : (v 7) = (.bool true) := hdep { on := 7, ground := .guard } (by simp) rfl
      show Gives _ _ _ 12 (.tree b) _ _
      refine gives_box ho ?_ rfl ((eval_other (fresh_of (by kernel_rfl))).trans rfl) (HBb.out.turned ht)
      exact want_yes (g := 7) (d := 37) (b := true) (apart_of (by kernel_rfl)) rfl rfl (Nat.le_of_ble_eq_true (by kernel_rfl)) d7
    · have d7 : (v 7) = (.bool true) := hdep { on := 7, ground := .guard } (by simp) rfl
      have d11 : TmIn w8 a (v 11) := hdep { on := 11, ground := .data } (by simp) rfl
      have d12 : TmIn w8 b (v 12) := hdep { on := 12, ground := .data } (by simp) rfl
      show Gives _ _ _ 13 (.val (.int .i64 cm)) _ _
      refine gives_fn (vs := #[v 11, v 12]) ho ?_ rfl ?_ (Go.Proofs.enters_of Tryz.func15 (by kernel_rfl) rfl) ?_
      · exact want_yes (g := 7) (d := 37) (b := true) (apart_of (by kernel_rfl)) rfl rfl (Nat.le_of_ble_eq_true (by kernel_rfl)) d7
      · simp only [List.map_toArray, List.map_cons, List.map_nil]
        rw [eval_dst (i := 11) (apart_of (by kernel_rfl)) rfl (Nat.le_of_ble_eq_true (by kernel_rfl)), eval_dst (i := 12) (apart_of (by kernel_rfl)) rfl (Nat.le_of_ble_eq_true (by kernel_rfl))]
      · exact HRCm.out _ _ _ d11 d12
    · have d7 : (v 7) = (.bool true) := hdep { on := 7, ground := .guard } (by simp) rfl
      have d10 : (v 10) = (.int .i64 cm) := hdep { on := 10, ground := .data } (by simp) rfl
      have d13 : (v 13) = (.int .i64 cm) := hdep { on := 13, ground := .data } (by simp) rfl
      show Gives _ _ _ 14 (.val (.bool true)) _ _
      refine gives_bin ho ?_ rfl ((eval_dst (i := 10) (apart_of (by kernel_rfl)) rfl (Nat.le_of_ble_eq_true (by kernel_rfl))).trans d10) ((eval_dst (i := 13) (apart_of (by kernel_rfl)) rfl (Nat.le_of_ble_eq_true (by kernel_rfl))).trans d13) (fun _ => eql_int _ _)
      exact want_yes (g := 7) (d := 37) (b := true) (apart_of (by kernel_rfl)) rfl rfl (Nat.le_of_ble_eq_true (by kernel_rfl)) d7
    · have d7 : (v 7) = (.bool true) := hdep { on := 7, ground := .data } (by simp) rfl
      have d14 : (v 14) = (.bool true) := hdep { on := 14, ground := .data } (by simp) rfl
      show Gives _ _ _ 15 (.val (.bool true)) _ _
      exact gives_pick_t ho (wanted_none rfl _) rfl ((eval_dst (i := 7) (apart_of (by kernel_rfl)) rfl (Nat.le_of_ble_eq_true (by kernel_rfl))).trans d7) ((eval_dst (i := 14) (apart_of (by kernel_rfl)) rfl (Nat.le_of_ble_eq_true (by kernel_rfl))).trans d14)
    · have d15 : (v 15) = (.bool true) := hdep { on := 15, ground := .data } (by simp) rfl
      show Gives _ _ _ 16 (.val (.bool true)) _ _
      exact gives_move ho (wanted_none rfl _) (.inl rfl) ((eval_dst (i := 15) (apart_of (by kernel_rfl)) rfl (Nat.le_of_ble_eq_true (by kernel_rfl))).trans d15)
    · have d16 : (v 16) = (.bool true) := hdep { on := 16, ground := .guard } (by simp) rfl
      show Gives _ _ _ 17 (.val (.int .i64 n)) _ _
      refine gives_move ho ?_ (.inl rfl) ((eval_other (fresh_of (by kernel_rfl))).trans rfl)
      exact want_yes (g := 16) (d := 46) (b := true) (apart_of (by kernel_rfl)) rfl rfl (Nat.le_of_ble_eq_true (by kernel_rfl)) d16
    · have d16 : (v 16) = (.bool true) := hdep { on := 16, ground := .guard } (by simp) rfl
      show Gives _ _ _ 18 (.val (.int .i64 n)) _ _
      refine gives_move ho ?_ (.inl rfl) ((eval_other (fresh_of (by kernel_rfl))).trans rfl)
      exact want_yes (g := 16) (d := 46) (b := true) (apart_of (by kernel_rfl)) rfl rfl (Nat.le_of_ble_eq_true (by kernel_rfl)) d16
    · have d16 : (v 16) = (.bool true) := hdep { on := 16, ground := .guard } (by simp) rfl
      have d17 : (v 17) = (.int .i64 n) := hdep { on := 17, ground := .data } (by simp) rfl
      have d18 : (v 18) = (.int .i64 n) := hdep { on := 18, ground := .data } (by simp) rfl
      show Gives _ _ _ 19 (.val (.bool true)) _ _
      refine gives_bin ho ?_ rfl ((eval_dst (i := 17) (apart_of (by kernel_rfl)) rfl (Nat.le_of_ble_eq_true (by kernel_rfl))).trans d17) ((eval_dst (i := 18) (apart_of (by kernel_rfl)) rfl (Nat.le_of_ble_eq_true (by kernel_rfl))).trans d18) (fun _ => eql_int _ _)
      exact want_yes (g := 16) (d := 46) (b := true) (apart_of (by kernel_rfl)) rfl rfl (Nat.le_of_ble_eq_true (by kernel_rfl)) d16
    · have d16 : (v 16) = (.bool true) := hdep { on := 16, ground := .data } (by simp) rfl
      have d19 : (v 19) = (.bool true) := hdep { on := 19, ground := .data } (by simp) rfl
      show Gives _ _ _ 20 (.val (.bool true)) _ _
      exact gives_pick_t ho (wanted_none rfl _) rfl ((eval_dst (i := 16) (apart_of (by kernel_rfl)) rfl (Nat.le_of_ble_eq_true (by kernel_rfl))).trans d16) ((eval_dst (i := 19) (apart_of (by kernel_rfl)) rfl (Nat.le_of_ble_eq_true (by kernel_rfl))).trans d19)
    · have d20 : (v 20) = (.bool true) := hdep { on := 20, ground := .data } (by simp) rfl
      show Gives _ _ _ 21 (.val (.bool true)) _ _
      exact gives_move ho (wanted_none rfl _) (.inl rfl) ((eval_dst (i := 20) (apart_of (by kernel_rfl)) rfl (Nat.le_of_ble_eq_true (by kernel_rfl))).trans d20)
    · have d21 : (v 21) = (.bool true) := hdep { on := 21, ground := .guard } (by simp) rfl
      show Gives _ _ _ 22 (.val (.int .i64 d)) _ _
      refine gives_move ho ?_ (.inl rfl) ((eval_other (fresh_of (by kernel_rfl))).trans rfl)
      exact want_yes (g := 21) (d := 51) (b := true) (apart_of (by kernel_rfl)) rfl rfl (Nat.le_of_ble_eq_true (by kernel_rfl)) d21
    · have d21 : (v 21) = (.bool true) := hdep { on := 21, ground := .guard } (by simp) rfl
      show Gives _ _ _ 23 (.val (.int .i64 d)) _ _
      refine gives_move ho ?_ (.inl rfl) ((eval_other (fresh_of (by kernel_rfl))).trans rfl)
      exact want_yes (g := 21) (d := 51) (b := true) (apart_of (by kernel_rfl)) rfl rfl (Nat.le_of_ble_eq_true (by kernel_rfl)) d21
    · have d21 : (v 21) = (.bool true) := hdep { on := 21, ground := .guard } (by simp) rfl
      have d22 : (v 22) = (.int .i64 d) := hdep { on := 22, ground := .data } (by simp) rfl
      have d23 : (v 23) = (.int .i64 d) := hdep { on := 23, ground := .data } (by simp) rfl
      show Gives _ _ _ 24 (.val (.bool true)) _ _
      refine gives_bin ho ?_ rfl ((eval_dst (i := 22) (apart_of (by kernel_rfl)) rfl (Nat.le_of_ble_eq_true (by kernel_rfl))).trans d22) ((eval_dst (i := 23) (apart_of (by kernel_rfl)) rfl (Nat.le_of_ble_eq_true (by kernel_rfl))).trans d23) (fun _ => eql_int _ _)
      exact want_yes (g := 21) (d := 51) (b := true) (apart_of (by kernel_rfl)) rfl rfl (Nat.le_of_ble_eq_true (by kernel_rfl)) d21
    · have d21 : (v 21) = (.bool true) := hdep { on := 21, ground := .data } (by simp) rfl
      have d24 : (v 24) = (.bool true) := hdep { on := 24, ground := .data } (by simp) rfl
      show Gives _ _ _ 25 (.val (.bool true)) _ _
      exact gives_pick_t ho (wanted_none rfl _) rfl ((eval_dst (i := 21) (apart_of (by kernel_rfl)) rfl (Nat.le_of_ble_eq_true (by kernel_rfl))).trans d21) ((eval_dst (i := 24) (apart_of (by kernel_rfl)) rfl (Nat.le_of_ble_eq_true (by kernel_rfl))).trans d24)
    · have d25 : (v 25) = (.bool true) := hdep { on := 25, ground := .data } (by simp) rfl
      show Gives _ _ _ 26 (.val (.bool true)) _ _
      exact gives_move ho (wanted_none rfl _) (.inl rfl) ((eval_dst (i := 25) (apart_of (by kernel_rfl)) rfl (Nat.le_of_ble_eq_true (by kernel_rfl))).trans d25)
    · have d26 : (v 26) = (.bool true) := hdep { on := 26, ground := .guard } (by simp) rfl
      show Gives _ _ _ 27 (.trees l) _ _
      refine gives_move ho ?_ (.inl rfl) (by rw [eval_other (fresh_of (by kernel_rfl))]; exact Rel.turned _ _ _ _ HLr.out ht)
      exact want_yes (g := 26) (d := 56) (b := true) (apart_of (by kernel_rfl)) rfl rfl (Nat.le_of_ble_eq_true (by kernel_rfl)) d26
    · have d26 : (v 26) = (.bool true) := hdep { on := 26, ground := .guard } (by simp) rfl
      have d27 : RowTm w8 (v 27) l := hdep { on := 27, ground := .data } (by simp) rfl
      show Gives _ _ _ 28 (.ints vs) _ _
      refine gives_fn (vs := #[v 27]) ho ?_ rfl ?_ (Go.Proofs.enters_of Tryz.func17 (by kernel_rfl) rfl) ?_
      · exact want_yes (g := 26) (d := 56) (b := true) (apart_of (by kernel_rfl)) rfl rfl (Nat.le_of_ble_eq_true (by kernel_rfl)) d26
      · simp only [List.map_toArray, List.map_cons, List.map_nil]
        rw [eval_dst (i := 27) (apart_of (by kernel_rfl)) rfl (Nat.le_of_ble_eq_true (by kernel_rfl))]
      · exact HVs.out _ _ d27
    · have d26 : (v 26) = (.bool true) := hdep { on := 26, ground := .guard } (by simp) rfl
      show Gives _ _ _ 29 (.trees l) _ _
      refine gives_move ho ?_ (.inl rfl) (by rw [eval_other (fresh_of (by kernel_rfl))]; exact Rel.turned _ _ _ _ HLr.out ht)
      exact want_yes (g := 26) (d := 56) (b := true) (apart_of (by kernel_rfl)) rfl rfl (Nat.le_of_ble_eq_true (by kernel_rfl)) d26
    · have d26 : (v 26) = (.bool true) := hdep { on := 26, ground := .guard } (by simp) rfl
      have d29 : RowTm w8 (v 29) l := hdep { on := 29, ground := .data } (by simp) rfl
      show Gives _ _ _ 30 (.ints vs) _ _
      refine gives_fn (vs := #[v 29]) ho ?_ rfl ?_ (Go.Proofs.enters_of Tryz.func18 (by kernel_rfl) rfl) ?_
      · exact want_yes (g := 26) (d := 56) (b := true) (apart_of (by kernel_rfl)) rfl rfl (Nat.le_of_ble_eq_true (by kernel_rfl)) d26
      · simp only [List.map_toArray, List.map_cons, List.map_nil]
        rw [eval_dst (i := 29) (apart_of (by kernel_rfl)) rfl (Nat.le_of_ble_eq_true (by kernel_rfl))]
      · exact HRVs.out _ _ d29
    · have d26 : (v 26) = (.bool true) := hdep { on := 26, ground := .guard } (by simp) rfl
      have d28 : RowI w8 (v 28) vs := hdep { on := 28, ground := .data } (by simp) rfl
      have d30 : RowI w8 (v 30) vs := hdep { on := 30, ground := .data } (by simp) rfl
      show Gives _ _ _ 31 (.val (.bool true)) _ _
      refine gives_fn (vs := #[v 28, v 30]) ho ?_ rfl ?_ (Go.Proofs.enters_of Tryz.func16 (by kernel_rfl) rfl) ?_
      · exact want_yes (g := 26) (d := 56) (b := true) (apart_of (by kernel_rfl)) rfl rfl (Nat.le_of_ble_eq_true (by kernel_rfl)) d26
      · simp only [List.map_toArray, List.map_cons, List.map_nil]
        rw [eval_dst (i := 28) (apart_of (by kernel_rfl)) rfl (Nat.le_of_ble_eq_true (by kernel_rfl)), eval_dst (i := 30) (apart_of (by kernel_rfl)) rfl (Nat.le_of_ble_eq_true (by kernel_rfl))]
      · exact HSi.out _ _ _ d28 d30
    · have d26 : (v 26) = (.bool true) := hdep { on := 26, ground := .data } (by simp) rfl
      have d31 : (v 31) = (.bool true) := hdep { on := 31, ground := .data } (by simp) rfl
      show Gives _ _ _ 32 (.val (.bool true)) _ _
      exact gives_pick_t ho (wanted_none rfl _) rfl ((eval_dst (i := 26) (apart_of (by kernel_rfl)) rfl (Nat.le_of_ble_eq_true (by kernel_rfl))).trans d26) ((eval_dst (i := 31) (apart_of (by kernel_rfl)) rfl (Nat.le_of_ble_eq_true (by kernel_rfl))).trans d31)
    · have d32 : (v 32) = (.bool true) := hdep { on := 32, ground := .data } (by simp) rfl
      show Gives _ _ _ 33 (.val (.bool true)) _ _
      exact gives_move ho (wanted_none rfl _) (.inl rfl) ((eval_dst (i := 32) (apart_of (by kernel_rfl)) rfl (Nat.le_of_ble_eq_true (by kernel_rfl))).trans d32)
    · have d33 : (v 33) = (.bool true) := hdep { on := 33, ground := .guard } (by simp) rfl
      show Gives _ _ _ 34 (.tree a) _ _
      refine gives_box ho ?_ rfl ((eval_other (fresh_of (by kernel_rfl))).trans rfl) (HBa.out.turned ht)
      exact want_yes (g := 33) (d := 63) (b := true) (apart_of (by kernel_rfl)) rfl rfl (Nat.le_of_ble_eq_true (by kernel_rfl)) d33
    · have d33 : (v 33) = (.bool true) := hdep { on := 33, ground := .guard } (by simp) rfl
      have d34 : TmIn w8 a (v 34) := hdep { on := 34, ground := .data } (by simp) rfl
      show Gives _ _ _ 35 (.val (.bool gr)) _ _
      refine gives_fn (vs := #[v 34]) ho ?_ rfl ?_ (Go.Proofs.enters_of Tryz.func19 (by kernel_rfl) rfl) ?_
      · exact want_yes (g := 33) (d := 63) (b := true) (apart_of (by kernel_rfl)) rfl rfl (Nat.le_of_ble_eq_true (by kernel_rfl)) d33
      · simp only [List.map_toArray, List.map_cons, List.map_nil]
        rw [eval_dst (i := 34) (apart_of (by kernel_rfl)) rfl (Nat.le_of_ble_eq_true (by kernel_rfl))]
      · exact HGr.out _ _ d34
    · have d33 : (v 33) = (.bool true) := hdep { on := 33, ground := .guard } (by simp) rfl
      show Gives _ _ _ 36 (.tree a) _ _
      refine gives_box ho ?_ rfl ((eval_other (fresh_of (by kernel_rfl))).trans rfl) (HBa.out.turned ht)
      exact want_yes (g := 33) (d := 63) (b := true) (apart_of (by kernel_rfl)) rfl rfl (Nat.le_of_ble_eq_true (by kernel_rfl)) d33
    · have d33 : (v 33) = (.bool true) := hdep { on := 33, ground := .guard } (by simp) rfl
      have d36 : TmIn w8 a (v 36) := hdep { on := 36, ground := .data } (by simp) rfl
      show Gives _ _ _ 37 (.val (.bool gr)) _ _
      refine gives_fn (vs := #[v 36]) ho ?_ rfl ?_ (Go.Proofs.enters_of Tryz.func20 (by kernel_rfl) rfl) ?_
      · exact want_yes (g := 33) (d := 63) (b := true) (apart_of (by kernel_rfl)) rfl rfl (Nat.le_of_ble_eq_true (by kernel_rfl)) d33
      · simp only [List.map_toArray, List.map_cons, List.map_nil]
        rw [eval_dst (i := 36) (apart_of (by kernel_rfl)) rfl (Nat.le_of_ble_eq_true (by kernel_rfl))]
      · exact HRGr.out _ _ d36
    · have d33 : (v 33) = (.bool true) := hdep { on := 33, ground := .guard } (by simp) rfl
      have d35 : (v 35) = (.bool gr) := hdep { on := 35, ground := .data } (by simp) rfl
      have d37 : (v 37) = (.bool gr) := hdep { on := 37, ground := .data } (by simp) rfl
      show Gives _ _ _ 38 (.val (.bool true)) _ _
      refine gives_bin ho ?_ rfl ((eval_dst (i := 35) (apart_of (by kernel_rfl)) rfl (Nat.le_of_ble_eq_true (by kernel_rfl))).trans d35) ((eval_dst (i := 37) (apart_of (by kernel_rfl)) rfl (Nat.le_of_ble_eq_true (by kernel_rfl))).trans d37) (fun _ => eql_bool _ _)
      exact want_yes (g := 33) (d := 63) (b := true) (apart_of (by kernel_rfl)) rfl rfl (Nat.le_of_ble_eq_true (by kernel_rfl)) d33
    · have d33 : (v 33) = (.bool true) := hdep { on := 33, ground := .data } (by simp) rfl
      have d38 : (v 38) = (.bool true) := hdep { on := 38, ground := .data } (by simp) rfl
      show Gives _ _ _ 39 (.val (.bool true)) _ _
      exact gives_pick_t ho (wanted_none rfl _) rfl ((eval_dst (i := 33) (apart_of (by kernel_rfl)) rfl (Nat.le_of_ble_eq_true (by kernel_rfl))).trans d33) ((eval_dst (i := 38) (apart_of (by kernel_rfl)) rfl (Nat.le_of_ble_eq_true (by kernel_rfl))).trans d38)
    · have d39 : (v 39) = (.bool true) := hdep { on := 39, ground := .data } (by simp) rfl
      show Gives _ _ _ 40 (.val (.bool true)) _ _
      exact gives_move ho (wanted_none rfl _) (.inr rfl) ((eval_dst (i := 39) (apart_of (by kernel_rfl)) rfl (Nat.le_of_ble_eq_true (by kernel_rfl))).trans d39)
  intro v w8 ht hv
  have e40 : v 40 = .bool true := hv 40 (Nat.le_of_ble_eq_true (by kernel_rfl))
  have T8 := Lib.hid (T7.out.trans ht (fun _ _ hf => hf))
  clear hv ht
  simp only [putAll, List.size_toArray, List.length_cons, List.length_nil, Nat.zero_add, Nat.reduceAdd, putN, dstOf, List.getElem?_toArray, List.getElem?_cons_zero, List.getElem?_cons_succ, Option.bind_some, Act.put, List.setIfInBounds_toArray, List.set_cons_zero, List.set_cons_succ, e40]
  clear e40
  go_wp2
  go_ret
  exact ⟨rfl, HFin.out _ T8.out⟩
end Go.Proofs.YtljnmjehokijgaaGreat
