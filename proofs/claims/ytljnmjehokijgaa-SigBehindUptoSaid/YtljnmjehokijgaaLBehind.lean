/- Put behind one another: SigBehind returns true for every input whose arguments together are of the Rows' bulk, and changes nothing. -/
import Derived.JoinedCond
import Derived.Test.YtljnmjehokijgaaLBehind2

/- Put behind one another: SigBehind returns true for every input whose arguments together are of the Rows' bulk, and changes nothing. -/
namespace Go.Proofs.Ytljnmjehokijgaa
open Go.ChangeShapes Go.WideShapes Go.ChangeAt Go.RowKit Go.Deep

theorem bulk_one {H : Type} (d : DataW H) : 1 ≤ Rows.uptoBulk d := by
  cases d with
  | lit l => cases l <;> simp [Rows.uptoBulk]
  | nil => simp [Rows.uptoBulk]
  | ptr d => simp [Rows.uptoBulk]
  | slice elems spare => simp [Rows.uptoBulk]
  | agg parts => simp [Rows.uptoBulk]
  | iface t d => simp [Rows.uptoBulk]
  | map entries => simp [Rows.uptoBulk]
  | held h => simp [Rows.uptoBulk]

theorem bulk_len {H : Type} (l : List (DataW H)) : l.length ≤ Rows.uptoBulkAll l := by
  induction l with
  | nil => simp [Rows.uptoBulkAll]
  | cons x r ih => have := bulk_one x; simp only [Rows.uptoBulkAll, List.length_cons]; omega

theorem substOk : SubstOk := fun V R t l va vl ht hl => by
  obtain ⟨a, cap, rfl, hln, hin⟩ := hl
  refine (sigSubst_any t va l _ V (TmS.toIn _ ht) ⟨a, cap, rfl, hln, TmsS.toIn _ hin⟩).mono ?_
  rintro e w' ⟨v, rfl, hv, t'⟩
  exact ⟨⟨v, rfl, TmS.mono (fun j _ hj => .inr hj) _ hv⟩, t'⟩

theorem row_spot {W : World} {v : Value} {l : List Tm} (h : RowTm W v l) : ∀ g off sp n c, v = .slice (some ⟨g, off, sp⟩) n c → l ≠ [] → sp = none := by
  intro g off sp n c hv hne
  obtain ⟨a, cap, hv2, hln, hin⟩ := h
  rw [hv] at hv2
  injection hv2 with e1 e2 e3
  subst e1
  obtain ⟨t, l', rfl⟩ := List.exists_cons_of_ne_nil hne
  obtain ⟨g2, o2, v0, v1, v2, e, -⟩ := hin
  injection e with e
  injection e with e1 e2 e3

section
variable {H : Type} {enc : TypeId × Value → H}

set_option maxRecDepth 100000 in
/-- A row of trees that came in: a nil one has no room; its bulk. -/
theorem open_terms3 {W : World} {sp : Nat → Bool} {v : Value} {d : DataW H} {ps : List MemPlace} {f0 f1 f2 : Field} (hs : Try.prog.underlying 24 = some (.struct #[f0, f1, f2])) (hone : oneCellFields Try.prog #[f0, f1, f2] = true) (hC : Try.prog.cellsOf 24 = 3)
    (ht : [f0.type, f1.type, f2.type] = [3, 3, 22]) {r : Reach} {b0 : Nat} (hval : Value.okWide Try.prog W r b0 22 v) (h : DataW.Trod enc Try.prog W 0 sp true 22 v d ps) :
    ∃ l : List Tm, RowTm W v l ∧ Tm.smalls l ∧ (∀ n c, v = .slice none n c → c = 0) ∧ l.length ≤ Rows.uptoBulk d := by
  obtain ⟨l, hr, hsm⟩ := open_terms2 hs hone hC ht hval h
  refine ⟨l, hr, hsm, ?_⟩
  obtain ⟨a0, ln, cp, rfl⟩ := okWide_slice Try.underlying22 hval
  obtain ⟨fuel, hfu0⟩ := h
  have hfu : DataW.trod enc Try.prog W 0 sp true fuel 22 [.slice a0 ln cp] = some (d, ps) := hfu0
  obtain ⟨a2, cap2, hv2, -, -⟩ := hr
  rcases open_fields Try.underlying22 hs hone hC hfu with ⟨h1, h2⟩ | ⟨a, len, cap, k, D, Pl, hcs, hb, hl, hm, hmm, hx, hi⟩
  · simp only [List.cons.injEq, and_true] at h1
    rw [h1] at hv2
    injection hv2 with e1 e2 e3
    refine ⟨fun n c e => ?_, by omega⟩
    rw [h1] at e
    injection e with e1 e2 e3
    exact e3.symm
  · simp only [List.cons.injEq, and_true] at hcs
    rw [hcs] at hv2
    injection hv2 with e1 e2 e3
    refine ⟨fun n c e => ?_, ?_⟩
    · rw [hcs] at e
      injection e with e1
      cases e1
    · simp only [Prod.mk.injEq] at hx
      rw [hx.1]
      have := bulk_len ((List.range len).map D)
      simp only [List.length_map, List.length_range] at this
      simp only [Rows.uptoBulk]
      omega
end

set_option maxRecDepth 100000 in
set_option maxHeartbeats 1600000 in
theorem sigBehind_lifted (os : Os) (started : os.Started) (H : Type) (enc : TypeId × Value → H) (F : Stop.Interp) :
    ReturnsInHanded {} Try.checked os 5 .any ((Rows.OpenSpec.upto Rows.sigBehindSpec).pre6 enc Try.prog Try.f5 Rows.sigBehindUptoRow.domain false) (((Rows.OpenSpec.upto Rows.sigBehindSpec).at F).post enc Try.prog Try.f5 false true false false) := by
  refine returnsInHanded_of_cond (C := Try.checked) (s := Rows.OpenSpec.upto Rows.sigBehindSpec) (k := Rows.uptoSmall) rfl own started (by kernel_rfl) Try.func5
    (OpenSpec.witness (enc := enc) (C := Try.checked) (s := Rows.OpenSpec.upto Rows.sigBehindSpec) (k := Rows.uptoSmall) rfl false ⟨#[], #[.agg #[.int .i64 0, .int .i64 0, .slice none 0 0], .slice none 0 0, .slice none 0 0], []⟩ 8 (by kernel_rfl) (by kernel_rfl) (by kernel_rfl)
      (x := ([.agg [.lit (.int .i64 0), .lit (.int .i64 0), .nil], .nil, .nil], [], [])) (by kernel_rfl) rfl (by kernel_rfl)) ?_
  intro W base args ds gs before hval0 hW hwt0 hk hsh
  have hval : ∀ (j : Nat) t v, Try.f5.params[j]? = some t → args[j]? = some v → Value.okWide Try.prog W .any base t v := hval0
  have hW' := hW
  have hlt : ∀ x ∈ before, x.block < W.heap.size := fun x hx => hW'.lt x hx
  obtain ⟨p, q, hA0, hV, hpq, hfz, hnd⟩ := hW
  have hA : DataW.TrodAll enc Try.prog W 0 (fun _ => true) true Try.f5.params.toList args.toList ds p := hA0
  rw [Try.params5] at hA hval
  obtain ⟨v0, v1, v2, d0, d1, d2, p0, p1, p2, rfl, rfl, rfl, h0, h1, h2⟩ := trodAll_three hA
  obtain ⟨rfl, rfl⟩ := trodVars_none hV
  rw [List.append_nil] at hpq
  have k0 := h0
  have k1 := h1
  have k2 := h2
  obtain ⟨t0, hr0, hs0⟩ := open_term2 Try.underlying24 (by kernel_rfl) (by kernel_rfl) (by kernel_rfl) (hval 0 24 v0 rfl rfl) h0
  obtain ⟨l1, hr1, hs1, n1, b1⟩ := open_terms3 Try.underlying24 (by kernel_rfl) (by kernel_rfl) (by kernel_rfl) (hval 1 22 v1 rfl rfl) h1
  obtain ⟨l2, hr2, hs2, n2, b2⟩ := open_terms3 Try.underlying24 (by kernel_rfl) (by kernel_rfl) (by kernel_rfl) (hval 2 22 v2 rfl rfl) h2
  have hbk : (1 + l1.length + l2.length) * 40 ≤ 140737488355328 := by
    have hk2 : Rows.uptoBulkAll (([d0, d1, d2] : List (DataW H)) ++ []) ≤ 1048576 := of_decide_eq_true hk
    simp only [List.append_nil, Rows.uptoBulkAll] at hk2
    omega
  clear hA0 hval0 hwt0 hk hsh
  refine (sigBehind_any sane_all substOk W t0 l1 l2 v0 v1 v2 hr0 hr1 hr2 n1 n2 hbk (row_spot hr1) (row_spot hr2)).mono fun e W' ⟨he, hb⟩ => ?_
  subst he
  exact ⟨_, rfl, post_of_below (pa := before) (pv := []) hW' (fun _ _ _ => trodAll_mk1 (shut_bool Try.underlying4 _)) (fun sp hsp => by rw [hpq, List.append_assoc]; exact trodAll_mk3 (trod_keeps (by kernel_rfl) (by kernel_rfl) (of_decide_eq_true (by kernel_rfl)) k0 hb (fun x hx => hlt x (by rw [hpq]; first | (cases hx; done) | simp [hx])) sp (fun x hx => hsp x (by rw [hpq]; first | (cases hx; done) | simp [hx]))) (trod_keeps (by kernel_rfl) (by kernel_rfl) (of_decide_eq_true (by kernel_rfl)) k1 hb (fun x hx => hlt x (by rw [hpq]; first | (cases hx; done) | simp [hx])) sp (fun x hx => hsp x (by rw [hpq]; first | (cases hx; done) | simp [hx]))) (trod_keeps (by kernel_rfl) (by kernel_rfl) (of_decide_eq_true (by kernel_rfl)) k2 hb (fun x hx => hlt x (by rw [hpq]; first | (cases hx; done) | simp [hx])) sp (fun x hx => hsp x (by rw [hpq]; first | (cases hx; done) | simp [hx])))) (fun _ _ => rfl) (List.append_nil _).symm hb (ok_one (by kernel_rfl) rfl (okWide_bool_mk Try.underlying4 _))⟩

theorem sigBehind_said : Rows.SigBehindUptoSaid :=
  OpenClaim.holds_of_cond 5 Try.f5 rfl rfl rfl rfl rfl rfl rfl ⟨rfl, rfl, rfl, rfl, rfl⟩ rfl rfl rfl rfl rfl (by kernel_rfl) Try.func5 (by kernel_rfl)
    (of_decide_eq_true (by kernel_rfl)) (by unfold Func.isWrapper; first | (rw [if_pos (by decide +kernel)]; kernel_rfl) | (rw [if_neg (by decide +kernel)]; exact ⟨rfl, rfl⟩))
    (fun os started H enc _ F => sigBehind_lifted os started H enc F)
end Go.Proofs.Ytljnmjehokijgaa
