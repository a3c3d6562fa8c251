/- LexEdited is proved: for every input an edit, and the one that undoes it, give the text and the tokens that there were, and edits at different places can be made in either order (the law returns true), and each argument reads as it did.
   Conditions: those of the given row (the listed tables of Go's library hold what the card ties to the program's text). -/
import Derived.Test.YtinogdeolnldhaaDoorOpen
import Derived.Lib.SmallJoins
import Derived.Test.YtinogdeolnldhaaDoorEdited
import Derived.Test.YtinogdeolnldhaaDoorTie
import Derived.Test.YtinogdeolnldhaaDoorCards
namespace Go.Proofs.YtinogdeolnldhaaDoor
open Go.ChangeShapes Go.WideShapes Go.ChangeAt Go.RowKit

set_option maxRecDepth 100000 in
/-- An edit that came in. -/
theorem open_edit {H : Type} {enc : TypeId × Value → H} {W : World} {sp : Nat → Bool} {v : Value} {d : DataW H} {ps : List MemPlace} {r : Reach} {b0 : Nat} {f0 f1 f2 : Field} (hs : Tryd.prog.underlying 31 = some (.struct #[f0, f1, f2])) (hone : Go.Deep.oneCellFields Tryd.prog #[f0, f1, f2] = true) (hC : Tryd.prog.cellsOf 31 = 3)
    (ht : [f0.type, f1.type, f2.type] = [3, 3, 9]) (hval : Value.okWide Tryd.prog W r b0 31 v)
    (h : DataW.Trod enc Tryd.prog W 0 sp true 31 v d ps) (hw : ∀ n ∈ d.weights Tryd.prog 31, n ≤ reachBytes) :
    ∃ (a c : Int) (s : Lx.Bytes), v = .agg #[.int .i64 a, .int .i64 c, .string ⟨s.toArray⟩] ∧ s.length ≤ 140737488351232 := by
  simp only [List.cons.injEq, and_true] at ht
  obtain ⟨t0, t1, t2⟩ := ht
  obtain ⟨v0, v1, v2, y0, y1, y2, n, rfl, hd, -, h0, h1, h2⟩ := Go.Joins.open_agg3 hs hone hC hval h
  rw [t0] at h0
  rw [t1] at h1
  rw [t2] at h2
  obtain ⟨n0, q0, x0, -⟩ := DataW.trod_int Tryd.underlying3 h0
  obtain ⟨n1, q1, x1, -⟩ := DataW.trod_int Tryd.underlying3 h1
  obtain ⟨s2, q2, x2, -⟩ := DataW.trod_string Tryd.underlying9 h2
  simp only [List.cons.injEq, and_true] at q0 q1 q2
  subst q0; subst q1; subst q2; subst x0; subst x1; subst x2
  obtain ⟨⟨sl⟩⟩ := s2
  refine ⟨n0, n1, sl, rfl, hw _ ?_⟩
  rw [hd]
  simp only [DataW.weights, hs, List.map_cons, List.map_nil, t0, t1, t2, DataW.weightsEach, List.nil_append, List.append_nil]
  exact List.mem_singleton.2 rfl

set_option maxRecDepth 100000 in
set_option maxHeartbeats 1600000 in
theorem lexEdited_lifted (os : Os) (started : os.Started) (H : Type) (enc : TypeId × Value → H) :
    ReturnsInHanded {} Tryd.checked os 5 .any (fun w args => (Rows.lexEditedSpec.pre enc Tryd.prog Tryd.f5 [] false w args ∧ laidMetH Tryd.prog laid5 w) ∧ sizedMet enc Tryd.prog Tryd.f5 (OpenSpec.ofChange Rows.lexEditedSpec) false w args)
      (Rows.lexEditedSpec.post enc Tryd.prog Tryd.f5 false true false false) := by
  refine handed (C := Tryd.checked) (X := fun w _ => laidMetH Tryd.prog laid5 w) own (fun _ _ _ hh h => h.of_heap hh) started (by kernel_rfl) Tryd.func5
    (ChangeSpec.witness_shaped (enc := enc) (C := Tryd.checked) (os := os) (X := fun w _ => laidMetH Tryd.prog laid5 w) false (World.doorLaid Tryd.prog 48 os) #[.string ⟨#[]⟩, .agg #[.int .i64 0, .int .i64 0, .string ⟨#[]⟩], .agg #[.int .i64 0, .int .i64 0, .string ⟨#[]⟩]] 8 rfl (World.shaped_of_RefB (by kernel_rfl) (by kernel_rfl)) (by kernel_rfl) (by kernel_rfl) (by kernel_rfl) (door_met os _)) ?_
  intro W base args ds gs before hval0 hW hwt0 hsh hL
  have hval : ∀ (j : Nat) t v, Tryd.f5.params[j]? = some t → args[j]? = some v → Value.okWide Tryd.prog W .any base t v := hval0
  have hW' := hW
  have hlt : ∀ x ∈ before, x.block < W.heap.size := fun x hx => hW'.lt x hx
  obtain ⟨p, q, hA0, hV, hpq, hfz, hnd⟩ := hW
  have hA : DataW.TrodAll enc Tryd.prog W 0 (fun _ => true) true Tryd.f5.params.toList args.toList ds p := hA0
  rw [Tryd.params5] at hA hval
  obtain ⟨v0, v1, v2, d0, d1, d2, p0, p1, p2, rfl, rfl, rfl, h0, h1, h2⟩ := trodAll_three hA
  obtain ⟨rfl, rfl⟩ := trodVars_none hV
  rw [List.append_nil] at hpq
  have hwt : (DataW.weightsEach Tryd.prog (Tryd.f5.params.toList ++ Rows.lexEditedSpec.plain.varTypes Tryd.prog) (([d0, d1, d2] : List (DataW H)) ++ [])).all (· ≤ reachBytes) = true := hwt0
  rw [Tryd.params5] at hwt
  have k0 := h0
  have k1 := h1
  have k2 := h2
  obtain ⟨t0, rfl, rfl, rfl, ws0⟩ := ChangeMaps.open_string Tryd.underlying9 (hval 0 9 v0 rfl rfl) h0
  have hlen0 : t0.data.toList.length ≤ 140737488351232 := sized_string (j := 0) hwt rfl rfl
  obtain ⟨ea1, ec1, es1, rfl, hel1⟩ := open_edit Tryd.underlying31 (by kernel_rfl) (by kernel_rfl) (by kernel_rfl) (hval 1 31 v1 rfl rfl) h1 (fun n hn => by simpa using List.all_eq_true.1 hwt n (DataW.weights_mem_each (j := 1) rfl rfl n hn))
  obtain ⟨ea2, ec2, es2, rfl, hel2⟩ := open_edit Tryd.underlying31 (by kernel_rfl) (by kernel_rfl) (by kernel_rfl) (hval 2 31 v2 rfl rfl) h2 (fun n hn => by simpa using List.all_eq_true.1 hwt n (DataW.weights_mem_each (j := 2) rfl rfl n hn))
  clear hA0 hval0 hwt0 hwt
  obtain ⟨⟨s0⟩⟩ := t0
  refine (lexEdited_any W (env_of hL) (seven_of hsh) s0 ea1 ec1 es1 ea2 ec2 es2 hlen0 hel1 hel2).mono fun e W' ⟨he, hb⟩ => ?_
  subst he
  exact ⟨_, rfl, post_of_below (pa := before) (pv := []) hW' (fun _ _ _ => trodAll_mk1 (shut_bool Tryd.underlying4 _)) (fun sp hsp => by rw [hpq, List.append_assoc]; exact trodAll_mk3 (trod_keeps (by kernel_rfl) (by kernel_rfl) (of_decide_eq_true (by kernel_rfl)) k0 hb (fun x hx => hlt x (by rw [hpq]; first | (cases hx; done) | simp [hx])) sp (fun x hx => hsp x (by rw [hpq]; first | (cases hx; done) | simp [hx]))) (trod_keeps (by kernel_rfl) (by kernel_rfl) (of_decide_eq_true (by kernel_rfl)) k1 hb (fun x hx => hlt x (by rw [hpq]; first | (cases hx; done) | simp [hx])) sp (fun x hx => hsp x (by rw [hpq]; first | (cases hx; done) | simp [hx]))) (trod_keeps (by kernel_rfl) (by kernel_rfl) (of_decide_eq_true (by kernel_rfl)) k2 hb (fun x hx => hlt x (by rw [hpq]; first | (cases hx; done) | simp [hx])) sp (fun x hx => hsp x (by rw [hpq]; first | (cases hx; done) | simp [hx])))) (fun _ _ => rfl) (List.append_nil _).symm hb (ok_one (by kernel_rfl) rfl (okWide_bool_mk Tryd.underlying4 _))⟩

theorem lexEdited_row : Rows.LexEditedSaid :=
  OpenClaim.holds_of_wide 5 Tryd.f5 rfl rfl rfl rfl rfl rfl rfl ⟨rfl, rfl, rfl, rfl, rfl⟩ rfl rfl rfl rfl rfl (by kernel_rfl) Tryd.func5 (by kernel_rfl)
    (of_decide_eq_true (by kernel_rfl)) (by unfold Func.isWrapper; first | (rw [if_pos (by decide +kernel)]; kernel_rfl) | (rw [if_neg (by decide +kernel)]; exact ⟨rfl, rfl⟩))
    (fun os started H enc _ => lexEdited_lifted os started H enc)

theorem lexEdited_holds : Rows.LexEditedCardSaid :=
  Claim7.holds_tied_plain_at .later [] [.data, .data, .data, .listed, .data] true Rows.lexEditedCard.stood.harness true
    lexEdited_row (fun _ h => by cases h) (by kernel_rfl) (fun _ h => by cases h) lexEdited_row_tie rfl ⟨rfl, rfl⟩ (by kernel_rfl) rfl
    (fun f fn hf hfn => by
      obtain rfl : f = 5 := Option.some.inj ((show Tryd.prog.funcNamed "madrigal/madrigallaw01.LexEdited" = some 5 by kernel_rfl).symm.trans hf) |>.symm
      obtain rfl : fn = Tryd.f5 := (Option.some.inj (Tryd.func5.symm.trans hfn)).symm
      exact ⟨by kernel_rfl, fun j t ht => by
        rw [Tryd.params5] at ht
        have hm : t ∈ [9, 31, 31] := by simpa using Array.mem_of_getElem? ht
        have hall : ([9, 31, 31].all fun u => !Tryd.prog.wantsStandIn u) = true := by kernel_rfl
        exact (show Tryd.prog.wantsStandIn t = false by simpa using List.all_eq_true.1 hall t hm)⟩)
    (by kernel_rfl)
end Go.Proofs.YtinogdeolnldhaaDoor
