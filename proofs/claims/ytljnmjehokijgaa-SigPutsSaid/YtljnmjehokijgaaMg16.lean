/- Parts of the proof, one behind the other. -/
import Derived.Test.YtljnmjehokijgaaMg15

/- sane: the walk. -/
namespace Go.Proofs.Ytljnmjehokijgaa
open Go.RowKit

set_option maxRecDepth 100000 in
set_option maxHeartbeats 3200000 in
theorem sane_any (c_unify1 : ∀ (w : World) (v0 v1 : Value), TmIn w (.node 2 2 [tX, .node 2 1 [tX]]) v0 → TmIn w (.node 2 2 [.node 2 1 [tY], .node 1 2 []]) v1 →
      Calls Try.prog 27 #[v0, v1] w fun e w' => ∃ x, e = .returned x ∧ (Rel.tup (.trees [.node 2 1 [tY], tY, .node 2 1 [.node 2 1 [tY]]]) [.bool true, .int .i64 0]).holds x w' ∧ Turned w w' (fun _ => False))
    (c_unify2 : ∀ (w : World) (v0 v1 : Value), TmIn w tX v0 → TmIn w (.node 2 1 [tX]) v1 →
      Calls Try.prog 27 #[v0, v1] w fun e w' => ∃ x, e = .returned x ∧ (Rel.tup (.trees []) [.bool false, .int .i64 0]).holds x w' ∧ Turned w w' (fun _ => False)) (w : World) : Calls Try.prog 9 #[] w fun e w' => e = .returned (.bool true) ∧ Turned w w' (fun _ => False) := by
  have HU1 := Lib.hid c_unify1
  have HU2 := Lib.hid c_unify2
  clear c_unify1 c_unify2
  go_enter Try.func9, Try.ntmps9
  go_wp2_with fail
  refine (numbers_any w).mono ?_
  rintro e w1 ⟨⟨v, rfl, hs⟩, t1⟩
  have hs2 := hs
  obtain ⟨p, cp, q, cq, rfl, -⟩ := hs2
  simp only [numSorts, numOps, List.length_cons, List.length_nil]
  have b1 := heap_alloc_new w1 (.cells #[.slice p 2 cp, .slice q 4 cq] 60)
  have t2 := t1.alloc (.cells #[.slice p 2 cp, .slice q 4 cq] 60)
  have hs3 := hs.turned ((Turned.refl w1 _).alloc (.cells #[.slice p 2 cp, .slice q 4 cq] 60))
  go_wp2_with fail
  generalize hw2 : w1.alloc (.cells #[.slice p 2 cp, .slice q 4 cq] 60) = w2 at *
  generalize w1.heap.size = b0 at *
  clear hw2 hs t1
  refine (variable_any 0 w2).mono ?_
  rintro e w3 ⟨rfl, t3⟩
  go_wp2_with fail
  refine (variable_any 1 w3).mono ?_
  rintro e w4 ⟨rfl, t4⟩
  go_wp2_with fail
  refine (op_any 0 none 0 0 w4).mono ?_
  rintro e w5 ⟨rfl, t5⟩
  go_upto_region 3 with fail
  have hB : Base (((w5.alloc (.cells #[.int .i64 1, .int .i64 0, .slice none 0 0] 24)).alloc (.cells #[.int .i64 1, .int .i64 1, .slice none 0 0] 24)).alloc (.cells #[.int .i64 2, .int .i64 0, .slice none 0 0] 24)) b0 w5.heap.size p q cp cq := by
    have t25 : Turned w2 w5 (fun _ => False) := (t3.trans t4 (fun _ _ hf => hf)).trans t5 (fun _ _ hf => hf)
    have hz1 : (w5.alloc (.cells #[.int .i64 1, .int .i64 0, .slice none 0 0] 24)).heap.size = w5.heap.size + 1 := by simp
    have hz2 : ((w5.alloc (.cells #[.int .i64 1, .int .i64 0, .slice none 0 0] 24)).alloc (.cells #[.int .i64 1, .int .i64 1, .slice none 0 0] 24)).heap.size = w5.heap.size + 1 + 1 := by simp
    have tt := ((t25.alloc (.cells #[.int .i64 1, .int .i64 0, .slice none 0 0] 24)).alloc (.cells #[.int .i64 1, .int .i64 1, .slice none 0 0] 24)).alloc (.cells #[.int .i64 2, .int .i64 0, .slice none 0 0] 24)
    exact ⟨hs3.turned tt, turn_keep tt b1, alloc_keep (alloc_keep (heap_alloc_new _ _)), by rw [← hz1]; exact alloc_keep (heap_alloc_new _ _), by rw [← hz2]; exact heap_alloc_new _ _⟩
  have hbx : w.heap.size ≤ w5.heap.size := (((t2.trans t3 (fun _ _ hf => hf)).trans t4 (fun _ _ hf => hf)).trans t5 (fun _ _ hf => hf)).size
  have hT := ((((t2.trans t3 (fun _ _ hf => hf)).trans t4 (fun _ _ hf => hf)).trans t5 (fun _ _ hf => hf)).alloc (.cells #[.int .i64 1, .int .i64 0, .slice none 0 0] 24)).alloc (.cells #[.int .i64 1, .int .i64 1, .slice none 0 0] 24) |>.alloc (.cells #[.int .i64 2, .int .i64 0, .slice none 0 0] 24)
  generalize ((w5.alloc (.cells #[.int .i64 1, .int .i64 0, .slice none 0 0] 24)).alloc (.cells #[.int .i64 1, .int .i64 1, .slice none 0 0] 24)).alloc (.cells #[.int .i64 2, .int .i64 0, .slice none 0 0] 24) = w6 at *
  have HB := Lib.hid hB
  have HT := Lib.hid hT
  generalize w5.heap.size = bx at *
  clear hB hT b1 t2 hs3 t3 t4 t5
  refine wp_region_each (by kernel_rfl) (waits_of (by kernel_rfl)) (apart_of (by kernel_rfl)) (fun i => (([.sig, (.ints [0]), (.tree tX), (.tree tZ), (.trees [tZ]), (.tree (.node 2 1 [tZ])), (.trees [tX, (.node 2 1 [tZ])]), (.tree (.node 2 2 [tX, (.node 2 1 [tZ])])), (.val (.tuple #[(.int .i64 0), (.int .i64 0)])), (.val (.tuple #[(.int .i64 0), (.int .i64 0)])), (.val (.int .i64 0)), (.val (.int .i64 0)), (.val (.int .i64 0)), (.val (.int .i64 0))] : List Rel)[i]?.getD (.val undef)).holds) (fun i x w1 w2 h t => Rel.turned _ x w1 w2 h t) ?_ ?_
  · intro i o ho v3 w7 ht hdep
    have hB7 := HB.out.turned ht
    obtain ⟨s0, s1, -, -, -⟩ := boxE hB7.k1
    have hi : i < 14 := (Array.getElem?_eq_some_iff.1 ho).1
    obtain rfl | rfl | rfl | rfl | rfl | rfl | rfl | rfl | rfl | rfl | rfl | rfl | rfl | rfl := (show i = 0 ∨ i = 1 ∨ i = 2 ∨ i = 3 ∨ i = 4 ∨ i = 5 ∨ i = 6 ∨ i = 7 ∨ i = 8 ∨ i = 9 ∨ i = 10 ∨ i = 11 ∨ i = 12 ∨ i = 13 by omega)
    all_goals
      obtain rfl := Option.some.inj ho
      clear hi
    · show Gives _ _ _ 0 .sig _ _
      exact gives_load ho (wanted_none rfl _) rfl ((eval_other (fresh_of (by kernel_rfl))).trans rfl) (load_sig _ _ _ _ s0 s1) hB7.sig
    · show Gives _ _ _ 1 (.ints [0]) _ _
      exact gives_ints1 ho (wanted_none rfl _) rfl
    · show Gives _ _ _ 2 (.tree tX) _ _
      exact gives_leaf ho (wanted_none rfl _) rfl ((eval_other (fresh_of (by kernel_rfl))).trans rfl) hB7.k2
    · show Gives _ _ _ 3 (.tree tZ) _ _
      exact gives_leaf ho (wanted_none rfl _) rfl ((eval_other (fresh_of (by kernel_rfl))).trans rfl) hB7.k4
    · have d3 : TmIn w7 tZ (v3 3) := hdep { on := 3, ground := .data } (by simp) rfl
      show Gives _ _ _ 4 (.trees [tZ]) _ _
      exact gives_trees1 ho (wanted_none rfl _) rfl (by rw [eval_dst (i := 3) (apart_of (by kernel_rfl)) rfl (Nat.le_of_ble_eq_true (by kernel_rfl))]; exact d3)
    · have d4 : RowTm w7 (v3 4) [tZ] := hdep { on := 4, ground := .data } (by simp) rfl
      show Gives _ _ _ 5 (.tree (.node 2 1 [tZ])) _ _
      exact gives_node ho (wanted_none rfl _) rfl (by rw [eval_dst (i := 4) (apart_of (by kernel_rfl)) rfl (Nat.le_of_ble_eq_true (by kernel_rfl))]; exact d4)
    · have d2 : TmIn w7 tX (v3 2) := hdep { on := 2, ground := .data } (by simp) rfl
      have d5 : TmIn w7 (.node 2 1 [tZ]) (v3 5) := hdep { on := 5, ground := .data } (by simp) rfl
      show Gives _ _ _ 6 (.trees [tX, (.node 2 1 [tZ])]) _ _
      exact gives_trees2 ho (wanted_none rfl _) rfl (by rw [eval_dst (i := 2) (apart_of (by kernel_rfl)) rfl (Nat.le_of_ble_eq_true (by kernel_rfl))]; exact d2) (by rw [eval_dst (i := 5) (apart_of (by kernel_rfl)) rfl (Nat.le_of_ble_eq_true (by kernel_rfl))]; exact d5)
    · have d6 : RowTm w7 (v3 6) [tX, (.node 2 1 [tZ])] := hdep { on := 6, ground := .data } (by simp) rfl
      show Gives _ _ _ 7 (.tree (.node 2 2 [tX, (.node 2 1 [tZ])])) _ _
      exact gives_node ho (wanted_none rfl _) rfl (by rw [eval_dst (i := 6) (apart_of (by kernel_rfl)) rfl (Nat.le_of_ble_eq_true (by kernel_rfl))]; exact d6)
    · have d0 : SigIn w7 numSorts numOps (v3 0) := hdep { on := 0, ground := .data } (by simp) rfl
      have d1 : RowI w7 (v3 1) [0] := hdep { on := 1, ground := .data } (by simp) rfl
      have d7 : TmIn w7 (.node 2 2 [tX, (.node 2 1 [tZ])]) (v3 7) := hdep { on := 7, ground := .data } (by simp) rfl
      show Gives _ _ _ 8 (.val (.tuple #[(.int .i64 0), (.int .i64 0)])) _ _
      refine gives_fn (vs := #[v3 0, v3 1, v3 7]) ho (wanted_none rfl _) rfl ?_ (Go.Proofs.enters_of Try.func30 (by kernel_rfl) rfl) ?_
      · simp only [List.map_toArray, List.map_cons, List.map_nil]
        rw [eval_dst (i := 0) (apart_of (by kernel_rfl)) rfl (Nat.le_of_ble_eq_true (by kernel_rfl)), eval_dst (i := 1) (apart_of (by kernel_rfl)) rfl (Nat.le_of_ble_eq_true (by kernel_rfl)), eval_dst (i := 7) (apart_of (by kernel_rfl)) rfl (Nat.le_of_ble_eq_true (by kernel_rfl))]
      · exact c_sort1 _ _ _ _ d0 d1 d7
    · have d8 : (v3 8) = (.tuple #[(.int .i64 0), (.int .i64 0)]) := hdep { on := 8, ground := .data } (by simp) rfl
      show Gives _ _ _ 9 (.val (.tuple #[(.int .i64 0), (.int .i64 0)])) _ _
      exact gives_move ho (wanted_none rfl _) (.inl rfl) ((eval_dst (i := 8) (apart_of (by kernel_rfl)) rfl (Nat.le_of_ble_eq_true (by kernel_rfl))).trans d8)
    · have d9 : (v3 9) = (.tuple #[(.int .i64 0), (.int .i64 0)]) := hdep { on := 9, ground := .data } (by simp) rfl
      show Gives _ _ _ 10 (.val (.int .i64 0)) _ _
      exact gives_get ho (wanted_none rfl _) rfl ((eval_dst (i := 9) (apart_of (by kernel_rfl)) rfl (Nat.le_of_ble_eq_true (by kernel_rfl))).trans d9) rfl rfl
    · have d9 : (v3 9) = (.tuple #[(.int .i64 0), (.int .i64 0)]) := hdep { on := 9, ground := .data } (by simp) rfl
      show Gives _ _ _ 11 (.val (.int .i64 0)) _ _
      exact gives_get ho (wanted_none rfl _) rfl ((eval_dst (i := 9) (apart_of (by kernel_rfl)) rfl (Nat.le_of_ble_eq_true (by kernel_rfl))).trans d9) rfl rfl
    · have d10 : (v3 10) = (.int .i64 0) := hdep { on := 10, ground := .data } (by simp) rfl
      show Gives _ _ _ 12 (.val (.int .i64 0)) _ _
      exact gives_move ho (wanted_none rfl _) (.inr rfl) ((eval_dst (i := 10) (apart_of (by kernel_rfl)) rfl (Nat.le_of_ble_eq_true (by kernel_rfl))).trans d10)
    · have d11 : (v3 11) = (.int .i64 0) := hdep { on := 11, ground := .data } (by simp) rfl
      show Gives _ _ _ 13 (.val (.int .i64 0)) _ _
      exact gives_move ho (wanted_none rfl _) (.inr rfl) ((eval_dst (i := 11) (apart_of (by kernel_rfl)) rfl (Nat.le_of_ble_eq_true (by kernel_rfl))).trans d11)
  intro v3 w7 ht hv
  have e12 : v3 12 = (.int .i64 0) := hv 12 (Nat.le_of_ble_eq_true (by kernel_rfl))
  have e13 : v3 13 = (.int .i64 0) := hv 13 (Nat.le_of_ble_eq_true (by kernel_rfl))
  clear hv
  replace HB := Lib.hid (HB.out.turned ht)
  replace HT := Lib.hid (HT.out.trans ht (fun _ _ hf => hf))
  clear ht
  simp only [putAll, List.size_toArray, List.length_cons, List.length_nil, Nat.zero_add, Nat.reduceAdd, putN, dstOf, List.getElem?_toArray, List.getElem?_cons_zero, List.getElem?_cons_succ, Option.bind_some, Act.put, List.setIfInBounds_toArray, List.set_cons_zero, List.set_cons_succ, e12, e13]
  clear e12 e13
  go_upto_region 4 with fail
  refine wp_region_each (by kernel_rfl) (waits_of (by kernel_rfl)) (apart_of (by kernel_rfl)) (fun i => (([.sig, (.ints [0, 1]), (.tree tX), (.tree tY), (.trees [tX, tY]), (.tree (.node 2 3 [tX, tY])), (.val (.tuple #[(.int .i64 0), (.int .i64 4)])), (.val (.tuple #[(.int .i64 0), (.int .i64 4)])), (.val (.int .i64 0)), (.val (.int .i64 4)), (.val (.int .i64 0)), (.val (.int .i64 4))] : List Rel)[i]?.getD (.val undef)).holds) (fun i x w1 w2 h t => Rel.turned _ x w1 w2 h t) ?_ ?_
  · intro i o ho v4 w8 ht hdep
    have hB7 := HB.out.turned ht
    obtain ⟨s0, s1, -, -, -⟩ := boxE hB7.k1
    have hi : i < 12 := (Array.getElem?_eq_some_iff.1 ho).1
    obtain rfl | rfl | rfl | rfl | rfl | rfl | rfl | rfl | rfl | rfl | rfl | rfl := (show i = 0 ∨ i = 1 ∨ i = 2 ∨ i = 3 ∨ i = 4 ∨ i = 5 ∨ i = 6 ∨ i = 7 ∨ i = 8 ∨ i = 9 ∨ i = 10 ∨ i = 11 by omega)
    all_goals
      obtain rfl := Option.some.inj ho
      clear hi
    · show Gives _ _ _ 0 .sig _ _
      exact gives_load ho (wanted_none rfl _) rfl ((eval_other (fresh_of (by kernel_rfl))).trans rfl) (load_sig _ _ _ _ s0 s1) hB7.sig
    · show Gives _ _ _ 1 (.ints [0, 1]) _ _
      exact gives_ints2 ho (wanted_none rfl _) rfl
    · show Gives _ _ _ 2 (.tree tX) _ _
      exact gives_leaf ho (wanted_none rfl _) rfl ((eval_other (fresh_of (by kernel_rfl))).trans rfl) hB7.k2
    · show Gives _ _ _ 3 (.tree tY) _ _
      exact gives_leaf ho (wanted_none rfl _) rfl ((eval_other (fresh_of (by kernel_rfl))).trans rfl) hB7.k3
    · have d2 : TmIn w8 tX (v4 2) := hdep { on := 2, ground := .data } (by simp) rfl
      have d3 : TmIn w8 tY (v4 3) := hdep { on := 3, ground := .data } (by simp) rfl
      show Gives _ _ _ 4 (.trees [tX, tY]) _ _
      exact gives_trees2 ho (wanted_none rfl _) rfl (by rw [eval_dst (i := 2) (apart_of (by kernel_rfl)) rfl (Nat.le_of_ble_eq_true (by kernel_rfl))]; exact d2) (by rw [eval_dst (i := 3) (apart_of (by kernel_rfl)) rfl (Nat.le_of_ble_eq_true (by kernel_rfl))]; exact d3)
    · have d4 : RowTm w8 (v4 4) [tX, tY] := hdep { on := 4, ground := .data } (by simp) rfl
      show Gives _ _ _ 5 (.tree (.node 2 3 [tX, tY])) _ _
      exact gives_node ho (wanted_none rfl _) rfl (by rw [eval_dst (i := 4) (apart_of (by kernel_rfl)) rfl (Nat.le_of_ble_eq_true (by kernel_rfl))]; exact d4)
    · have d0 : SigIn w8 numSorts numOps (v4 0) := hdep { on := 0, ground := .data } (by simp) rfl
      have d1 : RowI w8 (v4 1) [0, 1] := hdep { on := 1, ground := .data } (by simp) rfl
      have d5 : TmIn w8 (.node 2 3 [tX, tY]) (v4 5) := hdep { on := 5, ground := .data } (by simp) rfl
      show Gives _ _ _ 6 (.val (.tuple #[(.int .i64 0), (.int .i64 4)])) _ _
      refine gives_fn (vs := #[v4 0, v4 1, v4 5]) ho (wanted_none rfl _) rfl ?_ (Go.Proofs.enters_of Try.func30 (by kernel_rfl) rfl) ?_
      · simp only [List.map_toArray, List.map_cons, List.map_nil]
        rw [eval_dst (i := 0) (apart_of (by kernel_rfl)) rfl (Nat.le_of_ble_eq_true (by kernel_rfl)), eval_dst (i := 1) (apart_of (by kernel_rfl)) rfl (Nat.le_of_ble_eq_true (by kernel_rfl)), eval_dst (i := 5) (apart_of (by kernel_rfl)) rfl (Nat.le_of_ble_eq_true (by kernel_rfl))]
      · exact c_sort2 _ _ _ _ d0 d1 d5
    · have d6 : (v4 6) = (.tuple #[(.int .i64 0), (.int .i64 4)]) := hdep { on := 6, ground := .data } (by simp) rfl
      show Gives _ _ _ 7 (.val (.tuple #[(.int .i64 0), (.int .i64 4)])) _ _
      exact gives_move ho (wanted_none rfl _) (.inl rfl) ((eval_dst (i := 6) (apart_of (by kernel_rfl)) rfl (Nat.le_of_ble_eq_true (by kernel_rfl))).trans d6)
    · have d7 : (v4 7) = (.tuple #[(.int .i64 0), (.int .i64 4)]) := hdep { on := 7, ground := .data } (by simp) rfl
      show Gives _ _ _ 8 (.val (.int .i64 0)) _ _
      exact gives_get ho (wanted_none rfl _) rfl ((eval_dst (i := 7) (apart_of (by kernel_rfl)) rfl (Nat.le_of_ble_eq_true (by kernel_rfl))).trans d7) rfl rfl
    · have d7 : (v4 7) = (.tuple #[(.int .i64 0), (.int .i64 4)]) := hdep { on := 7, ground := .data } (by simp) rfl
      show Gives _ _ _ 9 (.val (.int .i64 4)) _ _
      exact gives_get ho (wanted_none rfl _) rfl ((eval_dst (i := 7) (apart_of (by kernel_rfl)) rfl (Nat.le_of_ble_eq_true (by kernel_rfl))).trans d7) rfl rfl
    · have d8 : (v4 8) = (.int .i64 0) := hdep { on := 8, ground := .data } (by simp) rfl
      show Gives _ _ _ 10 (.val (.int .i64 0)) _ _
      exact gives_move ho (wanted_none rfl _) (.inr rfl) ((eval_dst (i := 8) (apart_of (by kernel_rfl)) rfl (Nat.le_of_ble_eq_true (by kernel_rfl))).trans d8)
    · have d9 : (v4 9) = (.int .i64 4) := hdep { on := 9, ground := .data } (by simp) rfl
      show Gives _ _ _ 11 (.val (.int .i64 4)) _ _
      exact gives_move ho (wanted_none rfl _) (.inr rfl) ((eval_dst (i := 9) (apart_of (by kernel_rfl)) rfl (Nat.le_of_ble_eq_true (by kernel_rfl))).trans d9)
  intro v4 w8 ht hv
  have e10 : v4 10 = (.int .i64 0) := hv 10 (Nat.le_of_ble_eq_true (by kernel_rfl))
  have e11 : v4 11 = (.int .i64 4) := hv 11 (Nat.le_of_ble_eq_true (by kernel_rfl))
  clear hv
  replace HB := Lib.hid (HB.out.turned ht)
  replace HT := Lib.hid (HT.out.trans ht (fun _ _ hf => hf))
  clear ht
  simp only [putAll, List.size_toArray, List.length_cons, List.length_nil, Nat.zero_add, Nat.reduceAdd, putN, dstOf, List.getElem?_toArray, List.getElem?_cons_zero, List.getElem?_cons_succ, Option.bind_some, Act.put, List.setIfInBounds_toArray, List.set_cons_zero, List.set_cons_succ, e10, e11]
  clear e10 e11
  go_upto_region 5 with fail
  refine wp_region_each (by kernel_rfl) (waits_of (by kernel_rfl)) (apart_of (by kernel_rfl)) (fun i => (([.sig, (.tree tX), (.tree tX), (.trees [tX]), (.tree (.node 2 1 [tX])), (.trees [tX, (.node 2 1 [tX])]), (.tree (.node 2 3 [tX, (.node 2 1 [tX])])), (.tree tX), (.trees [(.node 2 3 [tX, (.node 2 1 [tX])]), tX]), (.ints [1, 0]), (.tup (.ints [0]) [(.int .i64 0)]), (.tup (.ints [0]) [(.int .i64 0)]), (.ints [0]), (.val (.int .i64 0)), (.ints [0]), (.val (.int .i64 0))] : List Rel)[i]?.getD (.val undef)).holds) (fun i x w1 w2 h t => Rel.turned _ x w1 w2 h t) ?_ ?_
  · intro i o ho v5 w9 ht hdep
    have hB7 := HB.out.turned ht
    obtain ⟨s0, s1, -, -, -⟩ := boxE hB7.k1
    have hi : i < 16 := (Array.getElem?_eq_some_iff.1 ho).1
    obtain rfl | rfl | rfl | rfl | rfl | rfl | rfl | rfl | rfl | rfl | rfl | rfl | rfl | rfl | rfl | rfl := (show i = 0 ∨ i = 1 ∨ i = 2 ∨ i = 3 ∨ i = 4 ∨ i = 5 ∨ i = 6 ∨ i = 7 ∨ i = 8 ∨ i = 9 ∨ i = 10 ∨ i = 11 ∨ i = 12 ∨ i = 13 ∨ i = 14 ∨ i = 15 by omega)
    all_goals
      obtain rfl := Option.some.inj ho
      clear hi
    · show Gives _ _ _ 0 .sig _ _
      exact gives_load ho (wanted_none rfl _) rfl ((eval_other (fresh_of (by kernel_rfl))).trans rfl) (load_sig _ _ _ _ s0 s1) hB7.sig
    · show Gives _ _ _ 1 (.tree tX) _ _
      exact gives_leaf ho (wanted_none rfl _) rfl ((eval_other (fresh_of (by kernel_rfl))).trans rfl) hB7.k2
    · show Gives _ _ _ 2 (.tree tX) _ _
      exact gives_leaf ho (wanted_none rfl _) rfl ((eval_other (fresh_of (by kernel_rfl))).trans rfl) hB7.k2
    · have d2 : TmIn w9 tX (v5 2) := hdep { on := 2, ground := .data } (by simp) rfl
      show Gives _ _ _ 3 (.trees [tX]) _ _
      exact gives_trees1 ho (wanted_none rfl _) rfl (by rw [eval_dst (i := 2) (apart_of (by kernel_rfl)) rfl (Nat.le_of_ble_eq_true (by kernel_rfl))]; exact d2)
    · have d3 : RowTm w9 (v5 3) [tX] := hdep { on := 3, ground := .data } (by simp) rfl
      show Gives _ _ _ 4 (.tree (.node 2 1 [tX])) _ _
      exact gives_node ho (wanted_none rfl _) rfl (by rw [eval_dst (i := 3) (apart_of (by kernel_rfl)) rfl (Nat.le_of_ble_eq_true (by kernel_rfl))]; exact d3)
    · have d1 : TmIn w9 tX (v5 1) := hdep { on := 1, ground := .data } (by simp) rfl
      have d4 : TmIn w9 (.node 2 1 [tX]) (v5 4) := hdep { on := 4, ground := .data } (by simp) rfl
      show Gives _ _ _ 5 (.trees [tX, (.node 2 1 [tX])]) _ _
      exact gives_trees2 ho (wanted_none rfl _) rfl (by rw [eval_dst (i := 1) (apart_of (by kernel_rfl)) rfl (Nat.le_of_ble_eq_true (by kernel_rfl))]; exact d1) (by rw [eval_dst (i := 4) (apart_of (by kernel_rfl)) rfl (Nat.le_of_ble_eq_true (by kernel_rfl))]; exact d4)
    · have d5 : RowTm w9 (v5 5) [tX, (.node 2 1 [tX])] := hdep { on := 5, ground := .data } (by simp) rfl
      show Gives _ _ _ 6 (.tree (.node 2 3 [tX, (.node 2 1 [tX])])) _ _
      exact gives_node ho (wanted_none rfl _) rfl (by rw [eval_dst (i := 5) (apart_of (by kernel_rfl)) rfl (Nat.le_of_ble_eq_true (by kernel_rfl))]; exact d5)
    · show Gives _ _ _ 7 (.tree tX) _ _
      exact gives_leaf ho (wanted_none rfl _) rfl ((eval_other (fresh_of (by kernel_rfl))).trans rfl) hB7.k2
    · have d6 : TmIn w9 (.node 2 3 [tX, (.node 2 1 [tX])]) (v5 6) := hdep { on := 6, ground := .data } (by simp) rfl
      have d7 : TmIn w9 tX (v5 7) := hdep { on := 7, ground := .data } (by simp) rfl
      show Gives _ _ _ 8 (.trees [(.node 2 3 [tX, (.node 2 1 [tX])]), tX]) _ _
      exact gives_trees2 ho (wanted_none rfl _) rfl (by rw [eval_dst (i := 6) (apart_of (by kernel_rfl)) rfl (Nat.le_of_ble_eq_true (by kernel_rfl))]; exact d6) (by rw [eval_dst (i := 7) (apart_of (by kernel_rfl)) rfl (Nat.le_of_ble_eq_true (by kernel_rfl))]; exact d7)
    · show Gives _ _ _ 9 (.ints [1, 0]) _ _
      exact gives_ints2 ho (wanted_none rfl _) rfl
    · have d0 : SigIn w9 numSorts numOps (v5 0) := hdep { on := 0, ground := .data } (by simp) rfl
      have d8 : RowTm w9 (v5 8) [(.node 2 3 [tX, (.node 2 1 [tX])]), tX] := hdep { on := 8, ground := .data } (by simp) rfl
      have d9 : RowI w9 (v5 9) [1, 0] := hdep { on := 9, ground := .data } (by simp) rfl
      show Gives _ _ _ 10 (.tup (.ints [0]) [(.int .i64 0)]) _ _
      refine gives_fn (vs := #[v5 0, v5 8, v5 9]) ho (wanted_none rfl _) rfl ?_ (Go.Proofs.enters_of Try.func31 (by kernel_rfl) rfl) ?_
      · simp only [List.map_toArray, List.map_cons, List.map_nil]
        rw [eval_dst (i := 0) (apart_of (by kernel_rfl)) rfl (Nat.le_of_ble_eq_true (by kernel_rfl)), eval_dst (i := 8) (apart_of (by kernel_rfl)) rfl (Nat.le_of_ble_eq_true (by kernel_rfl)), eval_dst (i := 9) (apart_of (by kernel_rfl)) rfl (Nat.le_of_ble_eq_true (by kernel_rfl))]
      · exact c_infer _ _ _ _ d0 d8 d9
    · have d10 : (Rel.holds (.tup (.ints [0]) [(.int .i64 0)]) (v5 10) w9) := hdep { on := 10, ground := .data } (by simp) rfl
      show Gives _ _ _ 11 (.tup (.ints [0]) [(.int .i64 0)]) _ _
      exact gives_move ho (wanted_none rfl _) (.inl rfl) (by rw [eval_dst (i := 10) (apart_of (by kernel_rfl)) rfl (Nat.le_of_ble_eq_true (by kernel_rfl))]; exact d10)
    · have d11 : (Rel.holds (.tup (.ints [0]) [(.int .i64 0)]) (v5 11) w9) := hdep { on := 11, ground := .data } (by simp) rfl
      show Gives _ _ _ 12 (.ints [0]) _ _
      exact gives_get0 ho (wanted_none rfl _) rfl (by rw [eval_dst (i := 11) (apart_of (by kernel_rfl)) rfl (Nat.le_of_ble_eq_true (by kernel_rfl))]; exact d11)
    · have d11 : (Rel.holds (.tup (.ints [0]) [(.int .i64 0)]) (v5 11) w9) := hdep { on := 11, ground := .data } (by simp) rfl
      show Gives _ _ _ 13 (.val (.int .i64 0)) _ _
      exact gives_getk ho (wanted_none rfl _) rfl (by rw [eval_dst (i := 11) (apart_of (by kernel_rfl)) rfl (Nat.le_of_ble_eq_true (by kernel_rfl))]; exact d11) rfl
    · have d12 : RowI w9 (v5 12) [0] := hdep { on := 12, ground := .data } (by simp) rfl
      show Gives _ _ _ 14 (.ints [0]) _ _
      exact gives_move ho (wanted_none rfl _) (.inr rfl) (by rw [eval_dst (i := 12) (apart_of (by kernel_rfl)) rfl (Nat.le_of_ble_eq_true (by kernel_rfl))]; exact d12)
    · have d13 : (v5 13) = (.int .i64 0) := hdep { on := 13, ground := .data } (by simp) rfl
      show Gives _ _ _ 15 (.val (.int .i64 0)) _ _
      exact gives_move ho (wanted_none rfl _) (.inr rfl) ((eval_dst (i := 13) (apart_of (by kernel_rfl)) rfl (Nat.le_of_ble_eq_true (by kernel_rfl))).trans d13)
  intro v5 w9 ht hv
  have H5_14 := Lib.hid (show Rel.holds (.ints [0]) (v5 14) w9 from hv 14 (Nat.le_of_ble_eq_true (by kernel_rfl)))
  have e15 : v5 15 = (.int .i64 0) := hv 15 (Nat.le_of_ble_eq_true (by kernel_rfl))
  clear hv
  replace HB := Lib.hid (HB.out.turned ht)
  replace HT := Lib.hid (HT.out.trans ht (fun _ _ hf => hf))
  clear ht
  simp only [putAll, List.size_toArray, List.length_cons, List.length_nil, Nat.zero_add, Nat.reduceAdd, putN, dstOf, List.getElem?_toArray, List.getElem?_cons_zero, List.getElem?_cons_succ, Option.bind_some, Act.put, List.setIfInBounds_toArray, List.set_cons_zero, List.set_cons_succ, e15]
  clear e15
  go_upto_region 6 with fail
  refine wp_region_seq (waits_of (by kernel_rfl)) (apart_of (by kernel_rfl)) (fun i => (([(.val (.int .i64 0)), (.val (.bool false)), (.val (.bool false)), (.val (.int .i64 0)), (.val (.bool false)), (.val (.bool false)), (.val (.bool false)), (.val (.int .i64 4)), (.val (.bool false)), (.val (.bool false)), (.val (.bool false)), (.val (.int .i64 0)), (.val (.bool false)), (.val (.bool false)), (.val (.bool false)), (.ints [0]), (.ints [0]), (.val (.bool true)), (.val (.bool false)), (.val (.bool false)), (.val (.bool false)), .sig, (.ints [2]), (.ints [2]), (.val (.bool true)), (.val (.bool false)), (.val (.bool false)), (.val (.bool false)), .sig, (.val (.int .i64 0)), (.val (.bool false)), (.val (.bool false))] : List Rel)[i]?.getD (.val undef)).holds) (fun i x w1 w2 h t => Rel.turned _ x w1 w2 h t) ?_ ?_
  · intro i o ho v6 w10 ht hdep
    have hB7 := HB.out.turned ht
    obtain ⟨s0, s1, -, -, -⟩ := boxE hB7.k1
    have hi : i < 32 := (Array.getElem?_eq_some_iff.1 ho).1
    obtain rfl | rfl | rfl | rfl | rfl | rfl | rfl | rfl | rfl | rfl | rfl | rfl | rfl | rfl | rfl | rfl | rfl | rfl | rfl | rfl | rfl | rfl | rfl | rfl | rfl | rfl | rfl | rfl | rfl | rfl | rfl | rfl := (show i = 0 ∨ i = 1 ∨ i = 2 ∨ i = 3 ∨ i = 4 ∨ i = 5 ∨ i = 6 ∨ i = 7 ∨ i = 8 ∨ i = 9 ∨ i = 10 ∨ i = 11 ∨ i = 12 ∨ i = 13 ∨ i = 14 ∨ i = 15 ∨ i = 16 ∨ i = 17 ∨ i = 18 ∨ i = 19 ∨ i = 20 ∨ i = 21 ∨ i = 22 ∨ i = 23 ∨ i = 24 ∨ i = 25 ∨ i = 26 ∨ i = 27 ∨ i = 28 ∨ i = 29 ∨ i = 30 ∨ i = 31 by omega)
    all_goals
      obtain rfl := Option.some.inj ho
      clear hi
    · show Gives _ _ _ 0 (.val (.int .i64 0)) _ _
      exact gives_move ho (wanted_none rfl _) (.inl rfl) ((eval_other (fresh_of (by kernel_rfl))).trans rfl)
    · have d0 : (v6 0) = (.int .i64 0) := hdep { on := 0, ground := .data } (by simp) rfl
      show Gives _ _ _ 1 (.val (.bool false)) _ _
      exact gives_bin ho (wanted_none rfl _) rfl ((eval_dst (i := 0) (apart_of (by kernel_rfl)) rfl (Nat.le_of_ble_eq_true (by kernel_rfl))).trans d0) rfl (fun _ => by kernel_rfl)
    · have d1 : (v6 1) = (.bool false) := hdep { on := 1, ground := .data } (by simp) rfl
      show Gives _ _ _ 2 (.val (.bool false)) _ _
      exact gives_move ho (wanted_none rfl _) (.inl rfl) ((eval_dst (i := 1) (apart_of (by kernel_rfl)) rfl (Nat.le_of_ble_eq_true (by kernel_rfl))).trans d1)
    · have d2 : (v6 2) = (.bool false) := hdep { on := 2, ground := .guard } (by simp) rfl
      show Gives _ _ _ 3 (.val (.int .i64 0)) _ _
      refine gives_move ho ?_ (.inl rfl) ((eval_other (fresh_of (by kernel_rfl))).trans rfl)
      exact want_yes (g := 2) (d := 62) (b := false) (apart_of (by kernel_rfl)) rfl rfl (Nat.le_of_ble_eq_true (by kernel_rfl)) d2
    · have d2 : (v6 2) = (.bool false) := hdep { on := 2, ground := .guard } (by simp) rfl
      have d3 : (v6 3) = (.int .i64 0) := hdep { on := 3, ground := .data } (by simp) rfl
      show Gives _ _ _ 4 (.val (.bool false)) _ _
      refine gives_bin ho ?_ rfl ((eval_dst (i := 3) (apart_of (by kernel_rfl)) rfl (Nat.le_of_ble_eq_true (by kernel_rfl))).trans d3) rfl (fun _ => by kernel_rfl)
      exact want_yes (g := 2) (d := 62) (b := false) (apart_of (by kernel_rfl)) rfl rfl (Nat.le_of_ble_eq_true (by kernel_rfl)) d2
    · have d2 : (v6 2) = (.bool false) := hdep { on := 2, ground := .data } (by simp) rfl
      have d4 : (v6 4) = (.bool false) := hdep { on := 4, ground := .data } (by simp) rfl
      show Gives _ _ _ 5 (.val (.bool false)) _ _
      exact gives_pick_f ho (wanted_none rfl _) rfl ((eval_dst (i := 2) (apart_of (by kernel_rfl)) rfl (Nat.le_of_ble_eq_true (by kernel_rfl))).trans d2) ((eval_dst (i := 4) (apart_of (by kernel_rfl)) rfl (Nat.le_of_ble_eq_true (by kernel_rfl))).trans d4)
    · have d5 : (v6 5) = (.bool false) := hdep { on := 5, ground := .data } (by simp) rfl
      show Gives _ _ _ 6 (.val (.bool false)) _ _
      exact gives_move ho (wanted_none rfl _) (.inl rfl) ((eval_dst (i := 5) (apart_of (by kernel_rfl)) rfl (Nat.le_of_ble_eq_true (by kernel_rfl))).trans d5)
    · have d6 : (v6 6) = (.bool false) := hdep { on := 6, ground := .guard } (by simp) rfl
      show Gives _ _ _ 7 (.val (.int .i64 4)) _ _
      refine gives_move ho ?_ (.inl rfl) ((eval_other (fresh_of (by kernel_rfl))).trans rfl)
      exact want_yes (g := 6) (d := 66) (b := false) (apart_of (by kernel_rfl)) rfl rfl (Nat.le_of_ble_eq_true (by kernel_rfl)) d6
    · have d6 : (v6 6) = (.bool false) := hdep { on := 6, ground := .guard } (by simp) rfl
      have d7 : (v6 7) = (.int .i64 4) := hdep { on := 7, ground := .data } (by simp) rfl
      show Gives _ _ _ 8 (.val (.bool false)) _ _
      refine gives_bin ho ?_ rfl ((eval_dst (i := 7) (apart_of (by kernel_rfl)) rfl (Nat.le_of_ble_eq_true (by kernel_rfl))).trans d7) rfl (fun _ => by kernel_rfl)
      exact want_yes (g := 6) (d := 66) (b := false) (apart_of (by kernel_rfl)) rfl rfl (Nat.le_of_ble_eq_true (by kernel_rfl)) d6
    · have d6 : (v6 6) = (.bool false) := hdep { on := 6, ground := .data } (by simp) rfl
      have d8 : (v6 8) = (.bool false) := hdep { on := 8, ground := .data } (by simp) rfl
      show Gives _ _ _ 9 (.val (.bool false)) _ _
      exact gives_pick_f ho (wanted_none rfl _) rfl ((eval_dst (i := 6) (apart_of (by kernel_rfl)) rfl (Nat.le_of_ble_eq_true (by kernel_rfl))).trans d6) ((eval_dst (i := 8) (apart_of (by kernel_rfl)) rfl (Nat.le_of_ble_eq_true (by kernel_rfl))).trans d8)
    · have d9 : (v6 9) = (.bool false) := hdep { on := 9, ground := .data } (by simp) rfl
      show Gives _ _ _ 10 (.val (.bool false)) _ _
      exact gives_move ho (wanted_none rfl _) (.inl rfl) ((eval_dst (i := 9) (apart_of (by kernel_rfl)) rfl (Nat.le_of_ble_eq_true (by kernel_rfl))).trans d9)
    · have d10 : (v6 10) = (.bool false) := hdep { on := 10, ground := .guard } (by simp) rfl
      show Gives _ _ _ 11 (.val (.int .i64 0)) _ _
      refine gives_move ho ?_ (.inl rfl) ((eval_other (fresh_of (by kernel_rfl))).trans rfl)
      exact want_yes (g := 10) (d := 70) (b := false) (apart_of (by kernel_rfl)) rfl rfl (Nat.le_of_ble_eq_true (by kernel_rfl)) d10
    · have d10 : (v6 10) = (.bool false) := hdep { on := 10, ground := .guard } (by simp) rfl
      have d11 : (v6 11) = (.int .i64 0) := hdep { on := 11, ground := .data } (by simp) rfl
      show Gives _ _ _ 12 (.val (.bool false)) _ _
      refine gives_bin ho ?_ rfl ((eval_dst (i := 11) (apart_of (by kernel_rfl)) rfl (Nat.le_of_ble_eq_true (by kernel_rfl))).trans d11) rfl (fun _ => by kernel_rfl)
      exact want_yes (g := 10) (d := 70) (b := false) (apart_of (by kernel_rfl)) rfl rfl (Nat.le_of_ble_eq_true (by kernel_rfl)) d10
    · have d10 : (v6 10) = (.bool false) := hdep { on := 10, ground := .data } (by simp) rfl
      have d12 : (v6 12) = (.bool false) := hdep { on := 12, ground := .data } (by simp) rfl
      show Gives _ _ _ 13 (.val (.bool false)) _ _
      exact gives_pick_f ho (wanted_none rfl _) rfl ((eval_dst (i := 10) (apart_of (by kernel_rfl)) rfl (Nat.le_of_ble_eq_true (by kernel_rfl))).trans d10) ((eval_dst (i := 12) (apart_of (by kernel_rfl)) rfl (Nat.le_of_ble_eq_true (by kernel_rfl))).trans d12)
    · have d13 : (v6 13) = (.bool false) := hdep { on := 13, ground := .data } (by simp) rfl
      show Gives _ _ _ 14 (.val (.bool false)) _ _
      exact gives_move ho (wanted_none rfl _) (.inl rfl) ((eval_dst (i := 13) (apart_of (by kernel_rfl)) rfl (Nat.le_of_ble_eq_true (by kernel_rfl))).trans d13)
    · have d14 : (v6 14) = (.bool false) := hdep { on := 14, ground := .guard } (by simp) rfl
      show Gives _ _ _ 15 (.ints [0]) _ _
      refine gives_move ho ?_ (.inl rfl) (by rw [eval_other (fresh_of (by kernel_rfl))]; exact Rel.turned _ _ _ _ H5_14.out ht)
      exact want_yes (g := 14) (d := 74) (b := false) (apart_of (by kernel_rfl)) rfl rfl (Nat.le_of_ble_eq_true (by kernel_rfl)) d14
    · have d14 : (v6 14) = (.bool false) := hdep { on := 14, ground := .guard } (by simp) rfl
      show Gives _ _ _ 16 (.ints [0]) _ _
      refine gives_ints1 ho ?_ rfl
      exact want_yes (g := 14) (d := 74) (b := false) (apart_of (by kernel_rfl)) rfl rfl (Nat.le_of_ble_eq_true (by kernel_rfl)) d14
    · have d14 : (v6 14) = (.bool false) := hdep { on := 14, ground := .guard } (by simp) rfl
      have d15 : RowI w10 (v6 15) [0] := hdep { on := 15, ground := .data } (by simp) rfl
      have d16 : RowI w10 (v6 16) [0] := hdep { on := 16, ground := .data } (by simp) rfl
      show Gives _ _ _ 17 (.val (.bool true)) _ _
      refine gives_fn (vs := #[v6 15, v6 16]) ho ?_ rfl ?_ (Go.Proofs.enters_of Try.func32 (by kernel_rfl) rfl) ?_
      · exact want_yes (g := 14) (d := 74) (b := false) (apart_of (by kernel_rfl)) rfl rfl (Nat.le_of_ble_eq_true (by kernel_rfl)) d14
      · simp only [List.map_toArray, List.map_cons, List.map_nil]
        rw [eval_dst (i := 15) (apart_of (by kernel_rfl)) rfl (Nat.le_of_ble_eq_true (by kernel_rfl)), eval_dst (i := 16) (apart_of (by kernel_rfl)) rfl (Nat.le_of_ble_eq_true (by kernel_rfl))]
      · exact (c_ints [0] [0] true (by decide +kernel)) _ _ _ d15 d16
    · have d14 : (v6 14) = (.bool false) := hdep { on := 14, ground := .guard } (by simp) rfl
      have d17 : (v6 17) = (.bool true) := hdep { on := 17, ground := .data } (by simp) rfl
      show Gives _ _ _ 18 (.val (.bool false)) _ _
      refine gives_un ho ?_ rfl ((eval_dst (i := 17) (apart_of (by kernel_rfl)) rfl (Nat.le_of_ble_eq_true (by kernel_rfl))).trans d17) (fun _ => by kernel_rfl)
      exact want_yes (g := 14) (d := 74) (b := false) (apart_of (by kernel_rfl)) rfl rfl (Nat.le_of_ble_eq_true (by kernel_rfl)) d14
    · have d14 : (v6 14) = (.bool false) := hdep { on := 14, ground := .data } (by simp) rfl
      have d18 : (v6 18) = (.bool false) := hdep { on := 18, ground := .data } (by simp) rfl
      show Gives _ _ _ 19 (.val (.bool false)) _ _
      exact gives_pick_f ho (wanted_none rfl _) rfl ((eval_dst (i := 14) (apart_of (by kernel_rfl)) rfl (Nat.le_of_ble_eq_true (by kernel_rfl))).trans d14) ((eval_dst (i := 18) (apart_of (by kernel_rfl)) rfl (Nat.le_of_ble_eq_true (by kernel_rfl))).trans d18)
    · have d19 : (v6 19) = (.bool false) := hdep { on := 19, ground := .data } (by simp) rfl
      show Gives _ _ _ 20 (.val (.bool false)) _ _
      exact gives_move ho (wanted_none rfl _) (.inl rfl) ((eval_dst (i := 19) (apart_of (by kernel_rfl)) rfl (Nat.le_of_ble_eq_true (by kernel_rfl))).trans d19)
    · have d20 : (v6 20) = (.bool false) := hdep { on := 20, ground := .guard } (by simp) rfl
      show Gives _ _ _ 21 .sig _ _
      refine gives_load ho ?_ rfl ((eval_other (fresh_of (by kernel_rfl))).trans rfl) (load_sig _ _ _ _ s0 s1) hB7.sig
      exact want_yes (g := 20) (d := 80) (b := false) (apart_of (by kernel_rfl)) rfl rfl (Nat.le_of_ble_eq_true (by kernel_rfl)) d20
    · have d20 : (v6 20) = (.bool false) := hdep { on := 20, ground := .guard } (by simp) rfl
      have d21 : SigIn w10 numSorts numOps (v6 21) := hdep { on := 21, ground := .data } (by simp) rfl
      show Gives _ _ _ 22 (.ints [2]) _ _
      refine gives_fn (vs := #[v6 21, (.string ⟨#[95, 43, 95]⟩)]) ho ?_ rfl ?_ (Go.Proofs.enters_of Try.func33 (by kernel_rfl) rfl) ?_
      · exact want_yes (g := 20) (d := 80) (b := false) (apart_of (by kernel_rfl)) rfl rfl (Nat.le_of_ble_eq_true (by kernel_rfl)) d20
      · simp only [List.map_toArray, List.map_cons, List.map_nil]
        rw [eval_dst (i := 21) (apart_of (by kernel_rfl)) rfl (Nat.le_of_ble_eq_true (by kernel_rfl))]
        rfl
      · exact c_find _ _ d21
    · have d20 : (v6 20) = (.bool false) := hdep { on := 20, ground := .guard } (by simp) rfl
      show Gives _ _ _ 23 (.ints [2]) _ _
      refine gives_ints1 ho ?_ rfl
      exact want_yes (g := 20) (d := 80) (b := false) (apart_of (by kernel_rfl)) rfl rfl (Nat.le_of_ble_eq_true (by kernel_rfl)) d20
    · have d20 : (v6 20) = (.bool false) := hdep { on := 20, ground := .guard } (by simp) rfl
      have d22 : RowI w10 (v6 22) [2] := hdep { on := 22, ground := .data } (by simp) rfl
      have d23 : RowI w10 (v6 23) [2] := hdep { on := 23, ground := .data } (by simp) rfl
      show Gives _ _ _ 24 (.val (.bool true)) _ _
      refine gives_fn (vs := #[v6 22, v6 23]) ho ?_ rfl ?_ (Go.Proofs.enters_of Try.func32 (by kernel_rfl) rfl) ?_
      · exact want_yes (g := 20) (d := 80) (b := false) (apart_of (by kernel_rfl)) rfl rfl (Nat.le_of_ble_eq_true (by kernel_rfl)) d20
      · simp only [List.map_toArray, List.map_cons, List.map_nil]
        rw [eval_dst (i := 22) (apart_of (by kernel_rfl)) rfl (Nat.le_of_ble_eq_true (by kernel_rfl)), eval_dst (i := 23) (apart_of (by kernel_rfl)) rfl (Nat.le_of_ble_eq_true (by kernel_rfl))]
      · exact (c_ints [2] [2] true (by decide +kernel)) _ _ _ d22 d23
    · have d20 : (v6 20) = (.bool false) := hdep { on := 20, ground := .guard } (by simp) rfl
      have d24 : (v6 24) = (.bool true) := hdep { on := 24, ground := .data } (by simp) rfl
      show Gives _ _ _ 25 (.val (.bool false)) _ _
      refine gives_un ho ?_ rfl ((eval_dst (i := 24) (apart_of (by kernel_rfl)) rfl (Nat.le_of_ble_eq_true (by kernel_rfl))).trans d24) (fun _ => by kernel_rfl)
      exact want_yes (g := 20) (d := 80) (b := false) (apart_of (by kernel_rfl)) rfl rfl (Nat.le_of_ble_eq_true (by kernel_rfl)) d20
    · have d20 : (v6 20) = (.bool false) := hdep { on := 20, ground := .data } (by simp) rfl
      have d25 : (v6 25) = (.bool false) := hdep { on := 25, ground := .data } (by simp) rfl
      show Gives _ _ _ 26 (.val (.bool false)) _ _
      exact gives_pick_f ho (wanted_none rfl _) rfl ((eval_dst (i := 20) (apart_of (by kernel_rfl)) rfl (Nat.le_of_ble_eq_true (by kernel_rfl))).trans d20) ((eval_dst (i := 25) (apart_of (by kernel_rfl)) rfl (Nat.le_of_ble_eq_true (by kernel_rfl))).trans d25)
    · have d26 : (v6 26) = (.bool false) := hdep { on := 26, ground := .data } (by simp) rfl
      show Gives _ _ _ 27 (.val (.bool false)) _ _
      exact gives_move ho (wanted_none rfl _) (.inl rfl) ((eval_dst (i := 26) (apart_of (by kernel_rfl)) rfl (Nat.le_of_ble_eq_true (by kernel_rfl))).trans d26)
    · have d27 : (v6 27) = (.bool false) := hdep { on := 27, ground := .guard } (by simp) rfl
      show Gives _ _ _ 28 .sig _ _
      refine gives_load ho ?_ rfl ((eval_other (fresh_of (by kernel_rfl))).trans rfl) (load_sig _ _ _ _ s0 s1) hB7.sig
      exact want_yes (g := 27) (d := 87) (b := false) (apart_of (by kernel_rfl)) rfl rfl (Nat.le_of_ble_eq_true (by kernel_rfl)) d27
    · have d27 : (v6 27) = (.bool false) := hdep { on := 27, ground := .guard } (by simp) rfl
      have d28 : SigIn w10 numSorts numOps (v6 28) := hdep { on := 28, ground := .data } (by simp) rfl
      show Gives _ _ _ 29 (.val (.int .i64 0)) _ _
      refine gives_fn (vs := #[v6 28]) ho ?_ rfl ?_ (Go.Proofs.enters_of Try.func34 (by kernel_rfl) rfl) ?_
      · exact want_yes (g := 27) (d := 87) (b := false) (apart_of (by kernel_rfl)) rfl rfl (Nat.le_of_ble_eq_true (by kernel_rfl)) d27
      · simp only [List.map_toArray, List.map_cons, List.map_nil]
        rw [eval_dst (i := 28) (apart_of (by kernel_rfl)) rfl (Nat.le_of_ble_eq_true (by kernel_rfl))]
      · exact c_check2 _ _ d28
    · have d27 : (v6 27) = (.bool false) := hdep { on := 27, ground := .guard } (by simp) rfl
      have d29 : (v6 29) = (.int .i64 0) := hdep { on := 29, ground := .data } (by simp) rfl
      show Gives _ _ _ 30 (.val (.bool false)) _ _
      refine gives_bin ho ?_ rfl ((eval_dst (i := 29) (apart_of (by kernel_rfl)) rfl (Nat.le_of_ble_eq_true (by kernel_rfl))).trans d29) rfl (fun _ => by kernel_rfl)
      exact want_yes (g := 27) (d := 87) (b := false) (apart_of (by kernel_rfl)) rfl rfl (Nat.le_of_ble_eq_true (by kernel_rfl)) d27
    · have d27 : (v6 27) = (.bool false) := hdep { on := 27, ground := .data } (by simp) rfl
      have d30 : (v6 30) = (.bool false) := hdep { on := 30, ground := .data } (by simp) rfl
      show Gives _ _ _ 31 (.val (.bool false)) _ _
      exact gives_pick_f ho (wanted_none rfl _) rfl ((eval_dst (i := 27) (apart_of (by kernel_rfl)) rfl (Nat.le_of_ble_eq_true (by kernel_rfl))).trans d27) ((eval_dst (i := 30) (apart_of (by kernel_rfl)) rfl (Nat.le_of_ble_eq_true (by kernel_rfl))).trans d30)
  intro v6 w10 ht hv
  have e1 : v6 1 = (.bool false) := hv 1 (Nat.le_of_ble_eq_true (by kernel_rfl))
  have e2 : v6 2 = (.bool false) := hv 2 (Nat.le_of_ble_eq_true (by kernel_rfl))
  have e4 : v6 4 = (.bool false) := hv 4 (Nat.le_of_ble_eq_true (by kernel_rfl))
  have e5 : v6 5 = (.bool false) := hv 5 (Nat.le_of_ble_eq_true (by kernel_rfl))
  have e6 : v6 6 = (.bool false) := hv 6 (Nat.le_of_ble_eq_true (by kernel_rfl))
  have e8 : v6 8 = (.bool false) := hv 8 (Nat.le_of_ble_eq_true (by kernel_rfl))
  have e9 : v6 9 = (.bool false) := hv 9 (Nat.le_of_ble_eq_true (by kernel_rfl))
  have e10 : v6 10 = (.bool false) := hv 10 (Nat.le_of_ble_eq_true (by kernel_rfl))
  have e12 : v6 12 = (.bool false) := hv 12 (Nat.le_of_ble_eq_true (by kernel_rfl))
  have e13 : v6 13 = (.bool false) := hv 13 (Nat.le_of_ble_eq_true (by kernel_rfl))
  have e14 : v6 14 = (.bool false) := hv 14 (Nat.le_of_ble_eq_true (by kernel_rfl))
  have e17 : v6 17 = (.bool true) := hv 17 (Nat.le_of_ble_eq_true (by kernel_rfl))
  have e18 : v6 18 = (.bool false) := hv 18 (Nat.le_of_ble_eq_true (by kernel_rfl))
  have e19 : v6 19 = (.bool false) := hv 19 (Nat.le_of_ble_eq_true (by kernel_rfl))
  have e20 : v6 20 = (.bool false) := hv 20 (Nat.le_of_ble_eq_true (by kernel_rfl))
  have e24 : v6 24 = (.bool true) := hv 24 (Nat.le_of_ble_eq_true (by kernel_rfl))
  have e25 : v6 25 = (.bool false) := hv 25 (Nat.le_of_ble_eq_true (by kernel_rfl))
  have e26 : v6 26 = (.bool false) := hv 26 (Nat.le_of_ble_eq_true (by kernel_rfl))
  have e27 : v6 27 = (.bool false) := hv 27 (Nat.le_of_ble_eq_true (by kernel_rfl))
  have e30 : v6 30 = (.bool false) := hv 30 (Nat.le_of_ble_eq_true (by kernel_rfl))
  have e31 : v6 31 = (.bool false) := hv 31 (Nat.le_of_ble_eq_true (by kernel_rfl))
  replace H5_14 := Lib.hid (Rel.turned _ _ _ _ H5_14.out ht)
  clear hv
  replace HB := Lib.hid (HB.out.turned ht)
  replace HT := Lib.hid (HT.out.trans ht (fun _ _ hf => hf))
  clear ht
  simp only [putAll, List.size_toArray, List.length_cons, List.length_nil, Nat.zero_add, Nat.reduceAdd, putN, dstOf, List.getElem?_toArray, List.getElem?_cons_zero, List.getElem?_cons_succ, Option.bind_some, Act.put, List.setIfInBounds_toArray, List.set_cons_zero, List.set_cons_succ, e1, e2, e4, e5, e6, e8, e9, e10, e12, e13, e14, e17, e18, e19, e20, e24, e25, e26, e27, e30, e31]
  clear e1 e2 e4 e5 e6 e8 e9 e10 e12 e13 e14 e17 e18 e19 e20 e24 e25 e26 e27 e30 e31
  go_upto_region 8 with fail
  refine wp_region_each (by kernel_rfl) (waits_of (by kernel_rfl)) (apart_of (by kernel_rfl)) (fun i => (([(.tree tX), (.tree tZ), (.val (.int .i64 (-1))), (.val (.bool false)), (.val (.bool false)), (.tree tZ), (.tree tZ), (.trees [tZ]), (.tree (.node 2 1 [tZ])), (.val (.int .i64 (-1))), (.val (.bool false)), (.val (.bool false)), (.val (.bool false)), (.tree tX), (.trees [tX]), (.tree (.node 2 1 [tX])), (.tree tZ), (.trees [tZ]), (.tree (.node 2 1 [tZ])), (.val (.int .i64 (-1))), (.val (.bool false)), (.val (.bool false))] : List Rel)[i]?.getD (.val undef)).holds) (fun i x w1 w2 h t => Rel.turned _ x w1 w2 h t) ?_ ?_
  · intro i o ho v8 w11 ht hdep
    have hB7 := HB.out.turned ht
    obtain ⟨s0, s1, -, -, -⟩ := boxE hB7.k1
    have hi : i < 22 := (Array.getElem?_eq_some_iff.1 ho).1
    obtain rfl | rfl | rfl | rfl | rfl | rfl | rfl | rfl | rfl | rfl | rfl | rfl | rfl | rfl | rfl | rfl | rfl | rfl | rfl | rfl | rfl | rfl := (show i = 0 ∨ i = 1 ∨ i = 2 ∨ i = 3 ∨ i = 4 ∨ i = 5 ∨ i = 6 ∨ i = 7 ∨ i = 8 ∨ i = 9 ∨ i = 10 ∨ i = 11 ∨ i = 12 ∨ i = 13 ∨ i = 14 ∨ i = 15 ∨ i = 16 ∨ i = 17 ∨ i = 18 ∨ i = 19 ∨ i = 20 ∨ i = 21 by omega)
    all_goals
      obtain rfl := Option.some.inj ho
      clear hi
    · show Gives _ _ _ 0 (.tree tX) _ _
      exact gives_leaf ho (wanted_none rfl _) rfl ((eval_other (fresh_of (by kernel_rfl))).trans rfl) hB7.k2
    · show Gives _ _ _ 1 (.tree tZ) _ _
      exact gives_leaf ho (wanted_none rfl _) rfl ((eval_other (fresh_of (by kernel_rfl))).trans rfl) hB7.k4
    · have d0 : TmIn w11 tX (v8 0) := hdep { on := 0, ground := .data } (by simp) rfl
      have d1 : TmIn w11 tZ (v8 1) := hdep { on := 1, ground := .data } (by simp) rfl
      show Gives _ _ _ 2 (.val (.int .i64 (-1))) _ _
      refine gives_fn (vs := #[v8 0, v8 1]) ho (wanted_none rfl _) rfl ?_ (Go.Proofs.enters_of Try.func11 (by kernel_rfl) rfl) ?_
      · simp only [List.map_toArray, List.map_cons, List.map_nil]
        rw [eval_dst (i := 0) (apart_of (by kernel_rfl)) rfl (Nat.le_of_ble_eq_true (by kernel_rfl)), eval_dst (i := 1) (apart_of (by kernel_rfl)) rfl (Nat.le_of_ble_eq_true (by kernel_rfl))]
      · exact (c_cmp tX tZ (-1) (by decide +kernel)) _ _ _ d0 d1
    · have d2 : (v8 2) = (.int .i64 (-1)) := hdep { on := 2, ground := .data } (by simp) rfl
      show Gives _ _ _ 3 (.val (.bool false)) _ _
      exact gives_bin ho (wanted_none rfl _) rfl ((eval_dst (i := 2) (apart_of (by kernel_rfl)) rfl (Nat.le_of_ble_eq_true (by kernel_rfl))).trans d2) rfl (fun _ => by kernel_rfl)
    · have d3 : (v8 3) = (.bool false) := hdep { on := 3, ground := .data } (by simp) rfl
      show Gives _ _ _ 4 (.val (.bool false)) _ _
      exact gives_move ho (wanted_none rfl _) (.inl rfl) ((eval_dst (i := 3) (apart_of (by kernel_rfl)) rfl (Nat.le_of_ble_eq_true (by kernel_rfl))).trans d3)
    · have d4 : (v8 4) = (.bool false) := hdep { on := 4, ground := .guard } (by simp) rfl
      show Gives _ _ _ 5 (.tree tZ) _ _
      refine gives_leaf ho ?_ rfl ((eval_other (fresh_of (by kernel_rfl))).trans rfl) hB7.k4
      exact want_yes (g := 4) (d := 96) (b := false) (apart_of (by kernel_rfl)) rfl rfl (Nat.le_of_ble_eq_true (by kernel_rfl)) d4
    · have d4 : (v8 4) = (.bool false) := hdep { on := 4, ground := .guard } (by simp) rfl
      show Gives _ _ _ 6 (.tree tZ) _ _
      refine gives_leaf ho ?_ rfl ((eval_other (fresh_of (by kernel_rfl))).trans rfl) hB7.k4
      exact want_yes (g := 4) (d := 96) (b := false) (apart_of (by kernel_rfl)) rfl rfl (Nat.le_of_ble_eq_true (by kernel_rfl)) d4
    · have d4 : (v8 4) = (.bool false) := hdep { on := 4, ground := .guard } (by simp) rfl
      have d6 : TmIn w11 tZ (v8 6) := hdep { on := 6, ground := .data } (by simp) rfl
      show Gives _ _ _ 7 (.trees [tZ]) _ _
      refine gives_trees1 ho ?_ rfl (by rw [eval_dst (i := 6) (apart_of (by kernel_rfl)) rfl (Nat.le_of_ble_eq_true (by kernel_rfl))]; exact d6)
      exact want_yes (g := 4) (d := 96) (b := false) (apart_of (by kernel_rfl)) rfl rfl (Nat.le_of_ble_eq_true (by kernel_rfl)) d4
    · have d4 : (v8 4) = (.bool false) := hdep { on := 4, ground := .guard } (by simp) rfl
      have d7 : RowTm w11 (v8 7) [tZ] := hdep { on := 7, ground := .data } (by simp) rfl
      show Gives _ _ _ 8 (.tree (.node 2 1 [tZ])) _ _
      refine gives_node ho ?_ rfl (by rw [eval_dst (i := 7) (apart_of (by kernel_rfl)) rfl (Nat.le_of_ble_eq_true (by kernel_rfl))]; exact d7)
      exact want_yes (g := 4) (d := 96) (b := false) (apart_of (by kernel_rfl)) rfl rfl (Nat.le_of_ble_eq_true (by kernel_rfl)) d4
    · have d4 : (v8 4) = (.bool false) := hdep { on := 4, ground := .guard } (by simp) rfl
      have d5 : TmIn w11 tZ (v8 5) := hdep { on := 5, ground := .data } (by simp) rfl
      have d8 : TmIn w11 (.node 2 1 [tZ]) (v8 8) := hdep { on := 8, ground := .data } (by simp) rfl
      show Gives _ _ _ 9 (.val (.int .i64 (-1))) _ _
      refine gives_fn (vs := #[v8 5, v8 8]) ho ?_ rfl ?_ (Go.Proofs.enters_of Try.func11 (by kernel_rfl) rfl) ?_
      · exact want_yes (g := 4) (d := 96) (b := false) (apart_of (by kernel_rfl)) rfl rfl (Nat.le_of_ble_eq_true (by kernel_rfl)) d4
      · simp only [List.map_toArray, List.map_cons, List.map_nil]
        rw [eval_dst (i := 5) (apart_of (by kernel_rfl)) rfl (Nat.le_of_ble_eq_true (by kernel_rfl)), eval_dst (i := 8) (apart_of (by kernel_rfl)) rfl (Nat.le_of_ble_eq_true (by kernel_rfl))]
      · exact (c_cmp tZ (.node 2 1 [tZ]) (-1) (by decide +kernel)) _ _ _ d5 d8
    · have d4 : (v8 4) = (.bool false) := hdep { on := 4, ground := .guard } (by simp) rfl
      have d9 : (v8 9) = (.int .i64 (-1)) := hdep { on := 9, ground := .data } (by simp) rfl
      show Gives _ _ _ 10 (.val (.bool false)) _ _
      refine gives_bin ho ?_ rfl ((eval_dst (i := 9) (apart_of (by kernel_rfl)) rfl (Nat.le_of_ble_eq_true (by kernel_rfl))).trans d9) rfl (fun _ => by kernel_rfl)
      exact want_yes (g := 4) (d := 96) (b := false) (apart_of (by kernel_rfl)) rfl rfl (Nat.le_of_ble_eq_true (by kernel_rfl)) d4
    · have d4 : (v8 4) = (.bool false) := hdep { on := 4, ground := .data } (by simp) rfl
      have d10 : (v8 10) = (.bool false) := hdep { on := 10, ground := .data } (by simp) rfl
      show Gives _ _ _ 11 (.val (.bool false)) _ _
      exact gives_pick_f ho (wanted_none rfl _) rfl ((eval_dst (i := 4) (apart_of (by kernel_rfl)) rfl (Nat.le_of_ble_eq_true (by kernel_rfl))).trans d4) ((eval_dst (i := 10) (apart_of (by kernel_rfl)) rfl (Nat.le_of_ble_eq_true (by kernel_rfl))).trans d10)
    · have d11 : (v8 11) = (.bool false) := hdep { on := 11, ground := .data } (by simp) rfl
      show Gives _ _ _ 12 (.val (.bool false)) _ _
      exact gives_move ho (wanted_none rfl _) (.inl rfl) ((eval_dst (i := 11) (apart_of (by kernel_rfl)) rfl (Nat.le_of_ble_eq_true (by kernel_rfl))).trans d11)
    · have d12 : (v8 12) = (.bool false) := hdep { on := 12, ground := .guard } (by simp) rfl
      show Gives _ _ _ 13 (.tree tX) _ _
      refine gives_leaf ho ?_ rfl ((eval_other (fresh_of (by kernel_rfl))).trans rfl) hB7.k2
      exact want_yes (g := 12) (d := 104) (b := false) (apart_of (by kernel_rfl)) rfl rfl (Nat.le_of_ble_eq_true (by kernel_rfl)) d12
    · have d12 : (v8 12) = (.bool false) := hdep { on := 12, ground := .guard } (by simp) rfl
      have d13 : TmIn w11 tX (v8 13) := hdep { on := 13, ground := .data } (by simp) rfl
      show Gives _ _ _ 14 (.trees [tX]) _ _
      refine gives_trees1 ho ?_ rfl (by rw [eval_dst (i := 13) (apart_of (by kernel_rfl)) rfl (Nat.le_of_ble_eq_true (by kernel_rfl))]; exact d13)
      exact want_yes (g := 12) (d := 104) (b := false) (apart_of (by kernel_rfl)) rfl rfl (Nat.le_of_ble_eq_true (by kernel_rfl)) d12
    · have d12 : (v8 12) = (.bool false) := hdep { on := 12, ground := .guard } (by simp) rfl
      have d14 : RowTm w11 (v8 14) [tX] := hdep { on := 14, ground := .data } (by simp) rfl
      show Gives _ _ _ 15 (.tree (.node 2 1 [tX])) _ _
      refine gives_node ho ?_ rfl (by rw [eval_dst (i := 14) (apart_of (by kernel_rfl)) rfl (Nat.le_of_ble_eq_true (by kernel_rfl))]; exact d14)
      exact want_yes (g := 12) (d := 104) (b := false) (apart_of (by kernel_rfl)) rfl rfl (Nat.le_of_ble_eq_true (by kernel_rfl)) d12
    · have d12 : (v8 12) = (.bool false) := hdep { on := 12, ground := .guard } (by simp) rfl
      show Gives _ _ _ 16 (.tree tZ) _ _
      refine gives_leaf ho ?_ rfl ((eval_other (fresh_of (by kernel_rfl))).trans rfl) hB7.k4
      exact want_yes (g := 12) (d := 104) (b := false) (apart_of (by kernel_rfl)) rfl rfl (Nat.le_of_ble_eq_true (by kernel_rfl)) d12
    · have d12 : (v8 12) = (.bool false) := hdep { on := 12, ground := .guard } (by simp) rfl
      have d16 : TmIn w11 tZ (v8 16) := hdep { on := 16, ground := .data } (by simp) rfl
      show Gives _ _ _ 17 (.trees [tZ]) _ _
      refine gives_trees1 ho ?_ rfl (by rw [eval_dst (i := 16) (apart_of (by kernel_rfl)) rfl (Nat.le_of_ble_eq_true (by kernel_rfl))]; exact d16)
      exact want_yes (g := 12) (d := 104) (b := false) (apart_of (by kernel_rfl)) rfl rfl (Nat.le_of_ble_eq_true (by kernel_rfl)) d12
    · have d12 : (v8 12) = (.bool false) := hdep { on := 12, ground := .guard } (by simp) rfl
      have d17 : RowTm w11 (v8 17) [tZ] := hdep { on := 17, ground := .data } (by simp) rfl
      show Gives _ _ _ 18 (.tree (.node 2 1 [tZ])) _ _
      refine gives_node ho ?_ rfl (by rw [eval_dst (i := 17) (apart_of (by kernel_rfl)) rfl (Nat.le_of_ble_eq_true (by kernel_rfl))]; exact d17)
      exact want_yes (g := 12) (d := 104) (b := false) (apart_of (by kernel_rfl)) rfl rfl (Nat.le_of_ble_eq_true (by kernel_rfl)) d12
    · have d12 : (v8 12) = (.bool false) := hdep { on := 12, ground := .guard } (by simp) rfl
      have d15 : TmIn w11 (.node 2 1 [tX]) (v8 15) := hdep { on := 15, ground := .data } (by simp) rfl
      have d18 : TmIn w11 (.node 2 1 [tZ]) (v8 18) := hdep { on := 18, ground := .data } (by simp) rfl
      show Gives _ _ _ 19 (.val (.int .i64 (-1))) _ _
      refine gives_fn (vs := #[v8 15, v8 18]) ho ?_ rfl ?_ (Go.Proofs.enters_of Try.func11 (by kernel_rfl) rfl) ?_
      · exact want_yes (g := 12) (d := 104) (b := false) (apart_of (by kernel_rfl)) rfl rfl (Nat.le_of_ble_eq_true (by kernel_rfl)) d12
      · simp only [List.map_toArray, List.map_cons, List.map_nil]
        rw [eval_dst (i := 15) (apart_of (by kernel_rfl)) rfl (Nat.le_of_ble_eq_true (by kernel_rfl)), eval_dst (i := 18) (apart_of (by kernel_rfl)) rfl (Nat.le_of_ble_eq_true (by kernel_rfl))]
      · exact (c_cmp (.node 2 1 [tX]) (.node 2 1 [tZ]) (-1) (by decide +kernel)) _ _ _ d15 d18
    · have d12 : (v8 12) = (.bool false) := hdep { on := 12, ground := .guard } (by simp) rfl
      have d19 : (v8 19) = (.int .i64 (-1)) := hdep { on := 19, ground := .data } (by simp) rfl
      show Gives _ _ _ 20 (.val (.bool false)) _ _
      refine gives_bin ho ?_ rfl ((eval_dst (i := 19) (apart_of (by kernel_rfl)) rfl (Nat.le_of_ble_eq_true (by kernel_rfl))).trans d19) rfl (fun _ => by kernel_rfl)
      exact want_yes (g := 12) (d := 104) (b := false) (apart_of (by kernel_rfl)) rfl rfl (Nat.le_of_ble_eq_true (by kernel_rfl)) d12
    · have d12 : (v8 12) = (.bool false) := hdep { on := 12, ground := .data } (by simp) rfl
      have d20 : (v8 20) = (.bool false) := hdep { on := 20, ground := .data } (by simp) rfl
      show Gives _ _ _ 21 (.val (.bool false)) _ _
      exact gives_pick_f ho (wanted_none rfl _) rfl ((eval_dst (i := 12) (apart_of (by kernel_rfl)) rfl (Nat.le_of_ble_eq_true (by kernel_rfl))).trans d12) ((eval_dst (i := 20) (apart_of (by kernel_rfl)) rfl (Nat.le_of_ble_eq_true (by kernel_rfl))).trans d20)
  intro v8 w11 ht hv
  have e3 : v8 3 = (.bool false) := hv 3 (Nat.le_of_ble_eq_true (by kernel_rfl))
  have e4 : v8 4 = (.bool false) := hv 4 (Nat.le_of_ble_eq_true (by kernel_rfl))
  have e10 : v8 10 = (.bool false) := hv 10 (Nat.le_of_ble_eq_true (by kernel_rfl))
  have e11 : v8 11 = (.bool false) := hv 11 (Nat.le_of_ble_eq_true (by kernel_rfl))
  have e12 : v8 12 = (.bool false) := hv 12 (Nat.le_of_ble_eq_true (by kernel_rfl))
  have e20 : v8 20 = (.bool false) := hv 20 (Nat.le_of_ble_eq_true (by kernel_rfl))
  have e21 : v8 21 = (.bool false) := hv 21 (Nat.le_of_ble_eq_true (by kernel_rfl))
  replace H5_14 := Lib.hid (Rel.turned _ _ _ _ H5_14.out ht)
  clear hv
  replace HB := Lib.hid (HB.out.turned ht)
  replace HT := Lib.hid (HT.out.trans ht (fun _ _ hf => hf))
  clear ht
  simp only [putAll, List.size_toArray, List.length_cons, List.length_nil, Nat.zero_add, Nat.reduceAdd, putN, dstOf, List.getElem?_toArray, List.getElem?_cons_zero, List.getElem?_cons_succ, Option.bind_some, Act.put, List.setIfInBounds_toArray, List.set_cons_zero, List.set_cons_succ, e3, e4, e10, e11, e12, e20, e21]
  clear e3 e4 e10 e11 e12 e20 e21
  go_upto_region 10 with fail
  refine wp_region_each (by kernel_rfl) (waits_of (by kernel_rfl)) (apart_of (by kernel_rfl)) (fun i => (([(.tree tX), (.tree tZ), (.trees [tZ]), (.tree (.node 2 1 [tZ])), (.trees [tX, (.node 2 1 [tZ])]), (.tree (.node 2 2 [tX, (.node 2 1 [tZ])])), (.tup (.rows [[], [0], [1], [1, 0]]) [(.int .i64 0)]), (.tup (.rows [[], [0], [1], [1, 0]]) [(.int .i64 0)]), (.rows [[], [0], [1], [1, 0]]), (.val (.int .i64 0)), (.rows [[], [0], [1], [1, 0]]), (.val (.int .i64 0))] : List Rel)[i]?.getD (.val undef)).holds) (fun i x w1 w2 h t => Rel.turned _ x w1 w2 h t) ?_ ?_
  · intro i o ho v10 w12 ht hdep
    have hB7 := HB.out.turned ht
    obtain ⟨s0, s1, -, -, -⟩ := boxE hB7.k1
    have hi : i < 12 := (Array.getElem?_eq_some_iff.1 ho).1
    obtain rfl | rfl | rfl | rfl | rfl | rfl | rfl | rfl | rfl | rfl | rfl | rfl := (show i = 0 ∨ i = 1 ∨ i = 2 ∨ i = 3 ∨ i = 4 ∨ i = 5 ∨ i = 6 ∨ i = 7 ∨ i = 8 ∨ i = 9 ∨ i = 10 ∨ i = 11 by omega)
    all_goals
      obtain rfl := Option.some.inj ho
      clear hi
    · show Gives _ _ _ 0 (.tree tX) _ _
      exact gives_leaf ho (wanted_none rfl _) rfl ((eval_other (fresh_of (by kernel_rfl))).trans rfl) hB7.k2
    · show Gives _ _ _ 1 (.tree tZ) _ _
      exact gives_leaf ho (wanted_none rfl _) rfl ((eval_other (fresh_of (by kernel_rfl))).trans rfl) hB7.k4
    · have d1 : TmIn w12 tZ (v10 1) := hdep { on := 1, ground := .data } (by simp) rfl
      show Gives _ _ _ 2 (.trees [tZ]) _ _
      exact gives_trees1 ho (wanted_none rfl _) rfl (by rw [eval_dst (i := 1) (apart_of (by kernel_rfl)) rfl (Nat.le_of_ble_eq_true (by kernel_rfl))]; exact d1)
    · have d2 : RowTm w12 (v10 2) [tZ] := hdep { on := 2, ground := .data } (by simp) rfl
      show Gives _ _ _ 3 (.tree (.node 2 1 [tZ])) _ _
      exact gives_node ho (wanted_none rfl _) rfl (by rw [eval_dst (i := 2) (apart_of (by kernel_rfl)) rfl (Nat.le_of_ble_eq_true (by kernel_rfl))]; exact d2)
    · have d0 : TmIn w12 tX (v10 0) := hdep { on := 0, ground := .data } (by simp) rfl
      have d3 : TmIn w12 (.node 2 1 [tZ]) (v10 3) := hdep { on := 3, ground := .data } (by simp) rfl
      show Gives _ _ _ 4 (.trees [tX, (.node 2 1 [tZ])]) _ _
      exact gives_trees2 ho (wanted_none rfl _) rfl (by rw [eval_dst (i := 0) (apart_of (by kernel_rfl)) rfl (Nat.le_of_ble_eq_true (by kernel_rfl))]; exact d0) (by rw [eval_dst (i := 3) (apart_of (by kernel_rfl)) rfl (Nat.le_of_ble_eq_true (by kernel_rfl))]; exact d3)
    · have d4 : RowTm w12 (v10 4) [tX, (.node 2 1 [tZ])] := hdep { on := 4, ground := .data } (by simp) rfl
      show Gives _ _ _ 5 (.tree (.node 2 2 [tX, (.node 2 1 [tZ])])) _ _
      exact gives_node ho (wanted_none rfl _) rfl (by rw [eval_dst (i := 4) (apart_of (by kernel_rfl)) rfl (Nat.le_of_ble_eq_true (by kernel_rfl))]; exact d4)
    · have d5 : TmIn w12 (.node 2 2 [tX, (.node 2 1 [tZ])]) (v10 5) := hdep { on := 5, ground := .data } (by simp) rfl
      show Gives _ _ _ 6 (.tup (.rows [[], [0], [1], [1, 0]]) [(.int .i64 0)]) _ _
      refine gives_fn (vs := #[v10 5]) ho (wanted_none rfl _) rfl ?_ (Go.Proofs.enters_of Try.func14 (by kernel_rfl) rfl) ?_
      · simp only [List.map_toArray, List.map_cons, List.map_nil]
        rw [eval_dst (i := 5) (apart_of (by kernel_rfl)) rfl (Nat.le_of_ble_eq_true (by kernel_rfl))]
      · exact c_paths _ _ d5
    · have d6 : (Rel.holds (.tup (.rows [[], [0], [1], [1, 0]]) [(.int .i64 0)]) (v10 6) w12) := hdep { on := 6, ground := .data } (by simp) rfl
      show Gives _ _ _ 7 (.tup (.rows [[], [0], [1], [1, 0]]) [(.int .i64 0)]) _ _
      exact gives_move ho (wanted_none rfl _) (.inl rfl) (by rw [eval_dst (i := 6) (apart_of (by kernel_rfl)) rfl (Nat.le_of_ble_eq_true (by kernel_rfl))]; exact d6)
    · have d7 : (Rel.holds (.tup (.rows [[], [0], [1], [1, 0]]) [(.int .i64 0)]) (v10 7) w12) := hdep { on := 7, ground := .data } (by simp) rfl
      show Gives _ _ _ 8 (.rows [[], [0], [1], [1, 0]]) _ _
      exact gives_get0 ho (wanted_none rfl _) rfl (by rw [eval_dst (i := 7) (apart_of (by kernel_rfl)) rfl (Nat.le_of_ble_eq_true (by kernel_rfl))]; exact d7)
    · have d7 : (Rel.holds (.tup (.rows [[], [0], [1], [1, 0]]) [(.int .i64 0)]) (v10 7) w12) := hdep { on := 7, ground := .data } (by simp) rfl
      show Gives _ _ _ 9 (.val (.int .i64 0)) _ _
      exact gives_getk ho (wanted_none rfl _) rfl (by rw [eval_dst (i := 7) (apart_of (by kernel_rfl)) rfl (Nat.le_of_ble_eq_true (by kernel_rfl))]; exact d7) rfl
    · have d8 : (Rel.holds (.rows [[], [0], [1], [1, 0]]) (v10 8) w12) := hdep { on := 8, ground := .data } (by simp) rfl
      show Gives _ _ _ 10 (.rows [[], [0], [1], [1, 0]]) _ _
      exact gives_move ho (wanted_none rfl _) (.inr rfl) (by rw [eval_dst (i := 8) (apart_of (by kernel_rfl)) rfl (Nat.le_of_ble_eq_true (by kernel_rfl))]; exact d8)
    · have d9 : (v10 9) = (.int .i64 0) := hdep { on := 9, ground := .data } (by simp) rfl
      show Gives _ _ _ 11 (.val (.int .i64 0)) _ _
      exact gives_move ho (wanted_none rfl _) (.inr rfl) ((eval_dst (i := 9) (apart_of (by kernel_rfl)) rfl (Nat.le_of_ble_eq_true (by kernel_rfl))).trans d9)
  intro v10 w12 ht hv
  have H10_10 := Lib.hid (show Rel.holds (.rows [[], [0], [1], [1, 0]]) (v10 10) w12 from hv 10 (Nat.le_of_ble_eq_true (by kernel_rfl)))
  have e11 : v10 11 = (.int .i64 0) := hv 11 (Nat.le_of_ble_eq_true (by kernel_rfl))
  replace H5_14 := Lib.hid (Rel.turned _ _ _ _ H5_14.out ht)
  clear hv
  replace HB := Lib.hid (HB.out.turned ht)
  replace HT := Lib.hid (HT.out.trans ht (fun _ _ hf => hf))
  clear ht
  simp only [putAll, List.size_toArray, List.length_cons, List.length_nil, Nat.zero_add, Nat.reduceAdd, putN, dstOf, List.getElem?_toArray, List.getElem?_cons_zero, List.getElem?_cons_succ, Option.bind_some, Act.put, List.setIfInBounds_toArray, List.set_cons_zero, List.set_cons_succ, e11]
  clear e11
  go_upto_region 11 with fail
  refine wp_region_eachT (by kernel_rfl) (waits_of (by kernel_rfl)) (apart_of (by kernel_rfl)) (RB (.node 2 2 [(.node 2 1 [tY]), tZ]) w12.heap.size 13 14 ([(.tree tX), (.tree tY), (.trees [tX, tY]), (.tree (.node 2 2 [tX, tY])), (.tree tY), (.trees [tY]), (.tree (.node 2 1 [tY])), (.tree tZ), (.trees [(.node 2 1 [tY]), tZ]), (.tup (.tree (.node 2 2 [(.node 2 1 [tY]), tZ])) [(.int .i64 0)]), (.tup (.tree (.node 2 2 [(.node 2 1 [tY]), tZ])) [(.int .i64 0)]), (.tree (.node 2 2 [(.node 2 1 [tY]), tZ])), (.val (.int .i64 0)), (.val undef), (.val undef), (.val (.int .i64 0))] : List Rel)) (Tz w12.heap.size (.node 2 2 [(.node 2 1 [tY]), tZ])) (fun w1 w2 h1 h2 => Tz.trans h1 h2) ?_ (fun v11 i w1 w2 _ h t => RB.keep (by decide +kernel) h t) ?_ ?_
  · intro i o ho v11 v' w1 h1 h2 h
    refine RB.loc h1 (fun e => ?_) h
    subst e
    obtain rfl := Option.some.inj ho
    exact h2 { on := 13, ground := .data } (by simp) rfl
  · intro i o ho v11 w13 ht hdep
    have hB7 := HB.out.turned ht
    obtain ⟨s0, s1, -, -, -⟩ := boxE hB7.k1
    have hi : i < 16 := (Array.getElem?_eq_some_iff.1 ho).1
    obtain rfl | rfl | rfl | rfl | rfl | rfl | rfl | rfl | rfl | rfl | rfl | rfl | rfl | rfl | rfl | rfl := (show i = 0 ∨ i = 1 ∨ i = 2 ∨ i = 3 ∨ i = 4 ∨ i = 5 ∨ i = 6 ∨ i = 7 ∨ i = 8 ∨ i = 9 ∨ i = 10 ∨ i = 11 ∨ i = 12 ∨ i = 13 ∨ i = 14 ∨ i = 15 by omega)
    all_goals
      obtain rfl := Option.some.inj ho
      clear hi
    · refine givesT (r := (.tree tX)) ?_ (fun x w2 hx => (show RB (.node 2 2 [(.node 2 1 [tY]), tZ]) w12.heap.size 13 14 ([(.tree tX), (.tree tY), (.trees [tX, tY]), (.tree (.node 2 2 [tX, tY])), (.tree tY), (.trees [tY]), (.tree (.node 2 1 [tY])), (.tree tZ), (.trees [(.node 2 1 [tY]), tZ]), (.tup (.tree (.node 2 2 [(.node 2 1 [tY]), tZ])) [(.int .i64 0)]), (.tup (.tree (.node 2 2 [(.node 2 1 [tY]), tZ])) [(.int .i64 0)]), (.tree (.node 2 2 [(.node 2 1 [tY]), tZ])), (.val (.int .i64 0)), (.val undef), (.val undef), (.val (.int .i64 0))] : List Rel) (updV v11 0 x) 0 w2 from hx)) (fun w2 h => Tz.of h)
      show Gives _ _ _ 0 (.tree tX) _ _
      exact gives_leaf ho (wanted_none rfl _) rfl ((eval_other (fresh_of (by kernel_rfl))).trans rfl) hB7.k2
    · refine givesT (r := (.tree tY)) ?_ (fun x w2 hx => (show RB (.node 2 2 [(.node 2 1 [tY]), tZ]) w12.heap.size 13 14 ([(.tree tX), (.tree tY), (.trees [tX, tY]), (.tree (.node 2 2 [tX, tY])), (.tree tY), (.trees [tY]), (.tree (.node 2 1 [tY])), (.tree tZ), (.trees [(.node 2 1 [tY]), tZ]), (.tup (.tree (.node 2 2 [(.node 2 1 [tY]), tZ])) [(.int .i64 0)]), (.tup (.tree (.node 2 2 [(.node 2 1 [tY]), tZ])) [(.int .i64 0)]), (.tree (.node 2 2 [(.node 2 1 [tY]), tZ])), (.val (.int .i64 0)), (.val undef), (.val undef), (.val (.int .i64 0))] : List Rel) (updV v11 1 x) 1 w2 from hx)) (fun w2 h => Tz.of h)
      show Gives _ _ _ 1 (.tree tY) _ _
      exact gives_leaf ho (wanted_none rfl _) rfl ((eval_other (fresh_of (by kernel_rfl))).trans rfl) hB7.k3
    · have d0 : TmIn w13 tX (v11 0) := hdep { on := 0, ground := .data } (by simp) rfl
      have d1 : TmIn w13 tY (v11 1) := hdep { on := 1, ground := .data } (by simp) rfl
      refine givesT (r := (.trees [tX, tY])) ?_ (fun x w2 hx => (show RB (.node 2 2 [(.node 2 1 [tY]), tZ]) w12.heap.size 13 14 ([(.tree tX), (.tree tY), (.trees [tX, tY]), (.tree (.node 2 2 [tX, tY])), (.tree tY), (.trees [tY]), (.tree (.node 2 1 [tY])), (.tree tZ), (.trees [(.node 2 1 [tY]), tZ]), (.tup (.tree (.node 2 2 [(.node 2 1 [tY]), tZ])) [(.int .i64 0)]), (.tup (.tree (.node 2 2 [(.node 2 1 [tY]), tZ])) [(.int .i64 0)]), (.tree (.node 2 2 [(.node 2 1 [tY]), tZ])), (.val (.int .i64 0)), (.val undef), (.val undef), (.val (.int .i64 0))] : List Rel) (updV v11 2 x) 2 w2 from hx)) (fun w2 h => Tz.of h)
      show Gives _ _ _ 2 (.trees [tX, tY]) _ _
      exact gives_trees2 ho (wanted_none rfl _) rfl (by rw [eval_dst (i := 0) (apart_of (by kernel_rfl)) rfl (Nat.le_of_ble_eq_true (by kernel_rfl))]; exact d0) (by rw [eval_dst (i := 1) (apart_of (by kernel_rfl)) rfl (Nat.le_of_ble_eq_true (by kernel_rfl))]; exact d1)
    · have d2 : RowTm w13 (v11 2) [tX, tY] := hdep { on := 2, ground := .data } (by simp) rfl
      refine givesT (r := (.tree (.node 2 2 [tX, tY]))) ?_ (fun x w2 hx => (show RB (.node 2 2 [(.node 2 1 [tY]), tZ]) w12.heap.size 13 14 ([(.tree tX), (.tree tY), (.trees [tX, tY]), (.tree (.node 2 2 [tX, tY])), (.tree tY), (.trees [tY]), (.tree (.node 2 1 [tY])), (.tree tZ), (.trees [(.node 2 1 [tY]), tZ]), (.tup (.tree (.node 2 2 [(.node 2 1 [tY]), tZ])) [(.int .i64 0)]), (.tup (.tree (.node 2 2 [(.node 2 1 [tY]), tZ])) [(.int .i64 0)]), (.tree (.node 2 2 [(.node 2 1 [tY]), tZ])), (.val (.int .i64 0)), (.val undef), (.val undef), (.val (.int .i64 0))] : List Rel) (updV v11 3 x) 3 w2 from hx)) (fun w2 h => Tz.of h)
      show Gives _ _ _ 3 (.tree (.node 2 2 [tX, tY])) _ _
      exact gives_node ho (wanted_none rfl _) rfl (by rw [eval_dst (i := 2) (apart_of (by kernel_rfl)) rfl (Nat.le_of_ble_eq_true (by kernel_rfl))]; exact d2)
    · refine givesT (r := (.tree tY)) ?_ (fun x w2 hx => (show RB (.node 2 2 [(.node 2 1 [tY]), tZ]) w12.heap.size 13 14 ([(.tree tX), (.tree tY), (.trees [tX, tY]), (.tree (.node 2 2 [tX, tY])), (.tree tY), (.trees [tY]), (.tree (.node 2 1 [tY])), (.tree tZ), (.trees [(.node 2 1 [tY]), tZ]), (.tup (.tree (.node 2 2 [(.node 2 1 [tY]), tZ])) [(.int .i64 0)]), (.tup (.tree (.node 2 2 [(.node 2 1 [tY]), tZ])) [(.int .i64 0)]), (.tree (.node 2 2 [(.node 2 1 [tY]), tZ])), (.val (.int .i64 0)), (.val undef), (.val undef), (.val (.int .i64 0))] : List Rel) (updV v11 4 x) 4 w2 from hx)) (fun w2 h => Tz.of h)
      show Gives _ _ _ 4 (.tree tY) _ _
      exact gives_leaf ho (wanted_none rfl _) rfl ((eval_other (fresh_of (by kernel_rfl))).trans rfl) hB7.k3
    · have d4 : TmIn w13 tY (v11 4) := hdep { on := 4, ground := .data } (by simp) rfl
      refine givesT (r := (.trees [tY])) ?_ (fun x w2 hx => (show RB (.node 2 2 [(.node 2 1 [tY]), tZ]) w12.heap.size 13 14 ([(.tree tX), (.tree tY), (.trees [tX, tY]), (.tree (.node 2 2 [tX, tY])), (.tree tY), (.trees [tY]), (.tree (.node 2 1 [tY])), (.tree tZ), (.trees [(.node 2 1 [tY]), tZ]), (.tup (.tree (.node 2 2 [(.node 2 1 [tY]), tZ])) [(.int .i64 0)]), (.tup (.tree (.node 2 2 [(.node 2 1 [tY]), tZ])) [(.int .i64 0)]), (.tree (.node 2 2 [(.node 2 1 [tY]), tZ])), (.val (.int .i64 0)), (.val undef), (.val undef), (.val (.int .i64 0))] : List Rel) (updV v11 5 x) 5 w2 from hx)) (fun w2 h => Tz.of h)
      show Gives _ _ _ 5 (.trees [tY]) _ _
      exact gives_trees1 ho (wanted_none rfl _) rfl (by rw [eval_dst (i := 4) (apart_of (by kernel_rfl)) rfl (Nat.le_of_ble_eq_true (by kernel_rfl))]; exact d4)
    · have d5 : RowTm w13 (v11 5) [tY] := hdep { on := 5, ground := .data } (by simp) rfl
      refine givesT (r := (.tree (.node 2 1 [tY]))) ?_ (fun x w2 hx => (show RB (.node 2 2 [(.node 2 1 [tY]), tZ]) w12.heap.size 13 14 ([(.tree tX), (.tree tY), (.trees [tX, tY]), (.tree (.node 2 2 [tX, tY])), (.tree tY), (.trees [tY]), (.tree (.node 2 1 [tY])), (.tree tZ), (.trees [(.node 2 1 [tY]), tZ]), (.tup (.tree (.node 2 2 [(.node 2 1 [tY]), tZ])) [(.int .i64 0)]), (.tup (.tree (.node 2 2 [(.node 2 1 [tY]), tZ])) [(.int .i64 0)]), (.tree (.node 2 2 [(.node 2 1 [tY]), tZ])), (.val (.int .i64 0)), (.val undef), (.val undef), (.val (.int .i64 0))] : List Rel) (updV v11 6 x) 6 w2 from hx)) (fun w2 h => Tz.of h)
      show Gives _ _ _ 6 (.tree (.node 2 1 [tY])) _ _
      exact gives_node ho (wanted_none rfl _) rfl (by rw [eval_dst (i := 5) (apart_of (by kernel_rfl)) rfl (Nat.le_of_ble_eq_true (by kernel_rfl))]; exact d5)
    · refine givesT (r := (.tree tZ)) ?_ (fun x w2 hx => (show RB (.node 2 2 [(.node 2 1 [tY]), tZ]) w12.heap.size 13 14 ([(.tree tX), (.tree tY), (.trees [tX, tY]), (.tree (.node 2 2 [tX, tY])), (.tree tY), (.trees [tY]), (.tree (.node 2 1 [tY])), (.tree tZ), (.trees [(.node 2 1 [tY]), tZ]), (.tup (.tree (.node 2 2 [(.node 2 1 [tY]), tZ])) [(.int .i64 0)]), (.tup (.tree (.node 2 2 [(.node 2 1 [tY]), tZ])) [(.int .i64 0)]), (.tree (.node 2 2 [(.node 2 1 [tY]), tZ])), (.val (.int .i64 0)), (.val undef), (.val undef), (.val (.int .i64 0))] : List Rel) (updV v11 7 x) 7 w2 from hx)) (fun w2 h => Tz.of h)
      show Gives _ _ _ 7 (.tree tZ) _ _
      exact gives_leaf ho (wanted_none rfl _) rfl ((eval_other (fresh_of (by kernel_rfl))).trans rfl) hB7.k4
    · have d6 : TmIn w13 (.node 2 1 [tY]) (v11 6) := hdep { on := 6, ground := .data } (by simp) rfl
      have d7 : TmIn w13 tZ (v11 7) := hdep { on := 7, ground := .data } (by simp) rfl
      refine givesT (r := (.trees [(.node 2 1 [tY]), tZ])) ?_ (fun x w2 hx => (show RB (.node 2 2 [(.node 2 1 [tY]), tZ]) w12.heap.size 13 14 ([(.tree tX), (.tree tY), (.trees [tX, tY]), (.tree (.node 2 2 [tX, tY])), (.tree tY), (.trees [tY]), (.tree (.node 2 1 [tY])), (.tree tZ), (.trees [(.node 2 1 [tY]), tZ]), (.tup (.tree (.node 2 2 [(.node 2 1 [tY]), tZ])) [(.int .i64 0)]), (.tup (.tree (.node 2 2 [(.node 2 1 [tY]), tZ])) [(.int .i64 0)]), (.tree (.node 2 2 [(.node 2 1 [tY]), tZ])), (.val (.int .i64 0)), (.val undef), (.val undef), (.val (.int .i64 0))] : List Rel) (updV v11 8 x) 8 w2 from hx)) (fun w2 h => Tz.of h)
      show Gives _ _ _ 8 (.trees [(.node 2 1 [tY]), tZ]) _ _
      exact gives_trees2 ho (wanted_none rfl _) rfl (by rw [eval_dst (i := 6) (apart_of (by kernel_rfl)) rfl (Nat.le_of_ble_eq_true (by kernel_rfl))]; exact d6) (by rw [eval_dst (i := 7) (apart_of (by kernel_rfl)) rfl (Nat.le_of_ble_eq_true (by kernel_rfl))]; exact d7)
    · have d3 : TmIn w13 (.node 2 2 [tX, tY]) (v11 3) := hdep { on := 3, ground := .data } (by simp) rfl
      have d8 : RowTm w13 (v11 8) [(.node 2 1 [tY]), tZ] := hdep { on := 8, ground := .data } (by simp) rfl
      refine givesT (r := (.tup (.tree (.node 2 2 [(.node 2 1 [tY]), tZ])) [(.int .i64 0)])) ?_ (fun x w2 hx => (show RB (.node 2 2 [(.node 2 1 [tY]), tZ]) w12.heap.size 13 14 ([(.tree tX), (.tree tY), (.trees [tX, tY]), (.tree (.node 2 2 [tX, tY])), (.tree tY), (.trees [tY]), (.tree (.node 2 1 [tY])), (.tree tZ), (.trees [(.node 2 1 [tY]), tZ]), (.tup (.tree (.node 2 2 [(.node 2 1 [tY]), tZ])) [(.int .i64 0)]), (.tup (.tree (.node 2 2 [(.node 2 1 [tY]), tZ])) [(.int .i64 0)]), (.tree (.node 2 2 [(.node 2 1 [tY]), tZ])), (.val (.int .i64 0)), (.val undef), (.val undef), (.val (.int .i64 0))] : List Rel) (updV v11 9 x) 9 w2 from hx)) (fun w2 h => Tz.of h)
      show Gives _ _ _ 9 (.tup (.tree (.node 2 2 [(.node 2 1 [tY]), tZ])) [(.int .i64 0)]) _ _
      refine gives_fn (vs := #[v11 3, v11 8]) ho (wanted_none rfl _) rfl ?_ (Go.Proofs.enters_of Try.func21 (by kernel_rfl) rfl) ?_
      · simp only [List.map_toArray, List.map_cons, List.map_nil]
        rw [eval_dst (i := 3) (apart_of (by kernel_rfl)) rfl (Nat.le_of_ble_eq_true (by kernel_rfl)), eval_dst (i := 8) (apart_of (by kernel_rfl)) rfl (Nat.le_of_ble_eq_true (by kernel_rfl))]
      · exact c_subst1 _ _ _ d3 d8
    · have d9 : (Rel.holds (.tup (.tree (.node 2 2 [(.node 2 1 [tY]), tZ])) [(.int .i64 0)]) (v11 9) w13) := hdep { on := 9, ground := .data } (by simp) rfl
      refine givesT (r := (.tup (.tree (.node 2 2 [(.node 2 1 [tY]), tZ])) [(.int .i64 0)])) ?_ (fun x w2 hx => (show RB (.node 2 2 [(.node 2 1 [tY]), tZ]) w12.heap.size 13 14 ([(.tree tX), (.tree tY), (.trees [tX, tY]), (.tree (.node 2 2 [tX, tY])), (.tree tY), (.trees [tY]), (.tree (.node 2 1 [tY])), (.tree tZ), (.trees [(.node 2 1 [tY]), tZ]), (.tup (.tree (.node 2 2 [(.node 2 1 [tY]), tZ])) [(.int .i64 0)]), (.tup (.tree (.node 2 2 [(.node 2 1 [tY]), tZ])) [(.int .i64 0)]), (.tree (.node 2 2 [(.node 2 1 [tY]), tZ])), (.val (.int .i64 0)), (.val undef), (.val undef), (.val (.int .i64 0))] : List Rel) (updV v11 10 x) 10 w2 from hx)) (fun w2 h => Tz.of h)
      show Gives _ _ _ 10 (.tup (.tree (.node 2 2 [(.node 2 1 [tY]), tZ])) [(.int .i64 0)]) _ _
      exact gives_move ho (wanted_none rfl _) (.inl rfl) (by rw [eval_dst (i := 9) (apart_of (by kernel_rfl)) rfl (Nat.le_of_ble_eq_true (by kernel_rfl))]; exact d9)
    · have d10 : (Rel.holds (.tup (.tree (.node 2 2 [(.node 2 1 [tY]), tZ])) [(.int .i64 0)]) (v11 10) w13) := hdep { on := 10, ground := .data } (by simp) rfl
      refine givesT (r := (.tree (.node 2 2 [(.node 2 1 [tY]), tZ]))) ?_ (fun x w2 hx => (show RB (.node 2 2 [(.node 2 1 [tY]), tZ]) w12.heap.size 13 14 ([(.tree tX), (.tree tY), (.trees [tX, tY]), (.tree (.node 2 2 [tX, tY])), (.tree tY), (.trees [tY]), (.tree (.node 2 1 [tY])), (.tree tZ), (.trees [(.node 2 1 [tY]), tZ]), (.tup (.tree (.node 2 2 [(.node 2 1 [tY]), tZ])) [(.int .i64 0)]), (.tup (.tree (.node 2 2 [(.node 2 1 [tY]), tZ])) [(.int .i64 0)]), (.tree (.node 2 2 [(.node 2 1 [tY]), tZ])), (.val (.int .i64 0)), (.val undef), (.val undef), (.val (.int .i64 0))] : List Rel) (updV v11 11 x) 11 w2 from hx)) (fun w2 h => Tz.of h)
      show Gives _ _ _ 11 (.tree (.node 2 2 [(.node 2 1 [tY]), tZ])) _ _
      exact gives_get0 ho (wanted_none rfl _) rfl (by rw [eval_dst (i := 10) (apart_of (by kernel_rfl)) rfl (Nat.le_of_ble_eq_true (by kernel_rfl))]; exact d10)
    · have d10 : (Rel.holds (.tup (.tree (.node 2 2 [(.node 2 1 [tY]), tZ])) [(.int .i64 0)]) (v11 10) w13) := hdep { on := 10, ground := .data } (by simp) rfl
      refine givesT (r := (.val (.int .i64 0))) ?_ (fun x w2 hx => (show RB (.node 2 2 [(.node 2 1 [tY]), tZ]) w12.heap.size 13 14 ([(.tree tX), (.tree tY), (.trees [tX, tY]), (.tree (.node 2 2 [tX, tY])), (.tree tY), (.trees [tY]), (.tree (.node 2 1 [tY])), (.tree tZ), (.trees [(.node 2 1 [tY]), tZ]), (.tup (.tree (.node 2 2 [(.node 2 1 [tY]), tZ])) [(.int .i64 0)]), (.tup (.tree (.node 2 2 [(.node 2 1 [tY]), tZ])) [(.int .i64 0)]), (.tree (.node 2 2 [(.node 2 1 [tY]), tZ])), (.val (.int .i64 0)), (.val undef), (.val undef), (.val (.int .i64 0))] : List Rel) (updV v11 12 x) 12 w2 from hx)) (fun w2 h => Tz.of h)
      show Gives _ _ _ 12 (.val (.int .i64 0)) _ _
      exact gives_getk ho (wanted_none rfl _) rfl (by rw [eval_dst (i := 10) (apart_of (by kernel_rfl)) rfl (Nat.le_of_ble_eq_true (by kernel_rfl))]; exact d10) rfl
    · refine step_alloc ho (wanted_none rfl _) rfl (fun w2 t h => ?_) (fun w2 h => Tz.of h)
      exact ⟨_, rfl, ht.size, .inl h⟩
    · obtain ⟨Z, hz, hBZ, hbx⟩ : ∃ Z, v11 13 = .pointer (some ⟨Z, 0, none⟩) ∧ w12.heap.size ≤ Z ∧ Bx (.node 2 2 [(.node 2 1 [tY]), tZ]) w13 Z := hdep { on := 13, ground := .data } (by simp) rfl
      have d11 : TmIn w13 (.node 2 2 [(.node 2 1 [tY]), tZ]) (v11 11) := hdep { on := 11, ground := .data } (by simp) rfl
      refine step_store ho (wanted_none rfl _) rfl rfl hBZ (by rfl) ((eval_dst (i := 13) (apart_of (by kernel_rfl)) rfl (Nat.le_of_ble_eq_true (by kernel_rfl))).trans hz) (by rw [eval_dst (i := 11) (apart_of (by kernel_rfl)) rfl (Nat.le_of_ble_eq_true (by kernel_rfl))]; exact d11) hbx (fun y w2 t b => ?_) (fun w2 t => t)
      exact ⟨Z, hz, hBZ, b⟩
    · have d12 : (v11 12) = (.int .i64 0) := hdep { on := 12, ground := .data } (by simp) rfl
      refine givesT (r := (.val (.int .i64 0))) ?_ (fun x w2 hx => (show RB (.node 2 2 [(.node 2 1 [tY]), tZ]) w12.heap.size 13 14 ([(.tree tX), (.tree tY), (.trees [tX, tY]), (.tree (.node 2 2 [tX, tY])), (.tree tY), (.trees [tY]), (.tree (.node 2 1 [tY])), (.tree tZ), (.trees [(.node 2 1 [tY]), tZ]), (.tup (.tree (.node 2 2 [(.node 2 1 [tY]), tZ])) [(.int .i64 0)]), (.tup (.tree (.node 2 2 [(.node 2 1 [tY]), tZ])) [(.int .i64 0)]), (.tree (.node 2 2 [(.node 2 1 [tY]), tZ])), (.val (.int .i64 0)), (.val undef), (.val undef), (.val (.int .i64 0))] : List Rel) (updV v11 15 x) 15 w2 from hx)) (fun w2 h => Tz.of h)
      show Gives _ _ _ 15 (.val (.int .i64 0)) _ _
      exact gives_move ho (wanted_none rfl _) (.inr rfl) ((eval_dst (i := 12) (apart_of (by kernel_rfl)) rfl (Nat.le_of_ble_eq_true (by kernel_rfl))).trans d12)
  intro v11 w13 ht hv
  have e15 : v11 15 = (.int .i64 0) := hv 15 (Nat.le_of_ble_eq_true (by kernel_rfl))
  obtain ⟨Z, e13, hBZ, hX⟩ : ∃ Z, v11 13 = .pointer (some ⟨Z, 0, none⟩) ∧ w12.heap.size ≤ Z ∧ Box (.node 2 2 [(.node 2 1 [tY]), tZ]) w13 Z := hv 14 (Nat.le_of_ble_eq_true (by kernel_rfl))
  have hlt := lt_of_block HB.out.k4
  have hZb : bx + 1 + 1 < Z := by omega
  clear hBZ hlt
  replace H5_14 := Lib.hid (Rel.turned _ _ _ _ H5_14.out ht)
  replace H10_10 := Lib.hid (Rel.turned _ _ _ _ H10_10.out ht)
  clear hv
  replace HB := Lib.hid (HB.out.turned ht)
  replace HT := Lib.hid (HT.out.trans ht (fun _ _ hf => hf))
  clear ht
  have HX := Lib.hid hX
  clear hX
  simp only [putAll, List.size_toArray, List.length_cons, List.length_nil, Nat.zero_add, Nat.reduceAdd, putN, dstOf, List.getElem?_toArray, List.getElem?_cons_zero, List.getElem?_cons_succ, Option.bind_some, Act.put, List.setIfInBounds_toArray, List.set_cons_zero, List.set_cons_succ, e15, e13]
  clear e15 e13
  go_upto_region 12 with fail
  refine wp_region_each (by kernel_rfl) (waits_of (by kernel_rfl)) (apart_of (by kernel_rfl)) (fun i => (([(.tree tX), (.tree tY), (.trees [tX, tY]), (.tree (.node 2 2 [tX, tY])), (.tree tY), (.trees [tY]), (.tree (.node 2 1 [tY])), (.trees [(.node 2 1 [tY])]), (.tup (.tree Tm.zero) [(.int .i64 1)]), (.tup (.tree Tm.zero) [(.int .i64 1)]), (.tree Tm.zero), (.val (.int .i64 1)), (.val (.int .i64 1))] : List Rel)[i]?.getD (.val undef)).holds) (fun i x w1 w2 h t => Rel.turned _ x w1 w2 h t) ?_ ?_
  · intro i o ho v12 w14 ht hdep
    have hB7 := HB.out.turned ht
    obtain ⟨s0, s1, -, -, -⟩ := boxE hB7.k1
    have hX7 := HX.out.turned ht
    have hi : i < 13 := (Array.getElem?_eq_some_iff.1 ho).1
    obtain rfl | rfl | rfl | rfl | rfl | rfl | rfl | rfl | rfl | rfl | rfl | rfl | rfl := (show i = 0 ∨ i = 1 ∨ i = 2 ∨ i = 3 ∨ i = 4 ∨ i = 5 ∨ i = 6 ∨ i = 7 ∨ i = 8 ∨ i = 9 ∨ i = 10 ∨ i = 11 ∨ i = 12 by omega)
    all_goals
      obtain rfl := Option.some.inj ho
      clear hi
    · show Gives _ _ _ 0 (.tree tX) _ _
      exact gives_leaf ho (wanted_none rfl _) rfl ((eval_other (fresh_of (by kernel_rfl))).trans rfl) hB7.k2
    · show Gives _ _ _ 1 (.tree tY) _ _
      exact gives_leaf ho (wanted_none rfl _) rfl ((eval_other (fresh_of (by kernel_rfl))).trans rfl) hB7.k3
    · have d0 : TmIn w14 tX (v12 0) := hdep { on := 0, ground := .data } (by simp) rfl
      have d1 : TmIn w14 tY (v12 1) := hdep { on := 1, ground := .data } (by simp) rfl
      show Gives _ _ _ 2 (.trees [tX, tY]) _ _
      exact gives_trees2 ho (wanted_none rfl _) rfl (by rw [eval_dst (i := 0) (apart_of (by kernel_rfl)) rfl (Nat.le_of_ble_eq_true (by kernel_rfl))]; exact d0) (by rw [eval_dst (i := 1) (apart_of (by kernel_rfl)) rfl (Nat.le_of_ble_eq_true (by kernel_rfl))]; exact d1)
    · have d2 : RowTm w14 (v12 2) [tX, tY] := hdep { on := 2, ground := .data } (by simp) rfl
      show Gives _ _ _ 3 (.tree (.node 2 2 [tX, tY])) _ _
      exact gives_node ho (wanted_none rfl _) rfl (by rw [eval_dst (i := 2) (apart_of (by kernel_rfl)) rfl (Nat.le_of_ble_eq_true (by kernel_rfl))]; exact d2)
    · show Gives _ _ _ 4 (.tree tY) _ _
      exact gives_leaf ho (wanted_none rfl _) rfl ((eval_other (fresh_of (by kernel_rfl))).trans rfl) hB7.k3
    · have d4 : TmIn w14 tY (v12 4) := hdep { on := 4, ground := .data } (by simp) rfl
      show Gives _ _ _ 5 (.trees [tY]) _ _
      exact gives_trees1 ho (wanted_none rfl _) rfl (by rw [eval_dst (i := 4) (apart_of (by kernel_rfl)) rfl (Nat.le_of_ble_eq_true (by kernel_rfl))]; exact d4)
    · have d5 : RowTm w14 (v12 5) [tY] := hdep { on := 5, ground := .data } (by simp) rfl
      show Gives _ _ _ 6 (.tree (.node 2 1 [tY])) _ _
      exact gives_node ho (wanted_none rfl _) rfl (by rw [eval_dst (i := 5) (apart_of (by kernel_rfl)) rfl (Nat.le_of_ble_eq_true (by kernel_rfl))]; exact d5)
    · have d6 : TmIn w14 (.node 2 1 [tY]) (v12 6) := hdep { on := 6, ground := .data } (by simp) rfl
      show Gives _ _ _ 7 (.trees [(.node 2 1 [tY])]) _ _
      exact gives_trees1 ho (wanted_none rfl _) rfl (by rw [eval_dst (i := 6) (apart_of (by kernel_rfl)) rfl (Nat.le_of_ble_eq_true (by kernel_rfl))]; exact d6)
    · have d3 : TmIn w14 (.node 2 2 [tX, tY]) (v12 3) := hdep { on := 3, ground := .data } (by simp) rfl
      have d7 : RowTm w14 (v12 7) [(.node 2 1 [tY])] := hdep { on := 7, ground := .data } (by simp) rfl
      show Gives _ _ _ 8 (.tup (.tree Tm.zero) [(.int .i64 1)]) _ _
      refine gives_fn (vs := #[v12 3, v12 7]) ho (wanted_none rfl _) rfl ?_ (Go.Proofs.enters_of Try.func21 (by kernel_rfl) rfl) ?_
      · simp only [List.map_toArray, List.map_cons, List.map_nil]
        rw [eval_dst (i := 3) (apart_of (by kernel_rfl)) rfl (Nat.le_of_ble_eq_true (by kernel_rfl)), eval_dst (i := 7) (apart_of (by kernel_rfl)) rfl (Nat.le_of_ble_eq_true (by kernel_rfl))]
      · exact c_subst2 _ _ _ d3 d7
    · have d8 : (Rel.holds (.tup (.tree Tm.zero) [(.int .i64 1)]) (v12 8) w14) := hdep { on := 8, ground := .data } (by simp) rfl
      show Gives _ _ _ 9 (.tup (.tree Tm.zero) [(.int .i64 1)]) _ _
      exact gives_move ho (wanted_none rfl _) (.inl rfl) (by rw [eval_dst (i := 8) (apart_of (by kernel_rfl)) rfl (Nat.le_of_ble_eq_true (by kernel_rfl))]; exact d8)
    · have d9 : (Rel.holds (.tup (.tree Tm.zero) [(.int .i64 1)]) (v12 9) w14) := hdep { on := 9, ground := .data } (by simp) rfl
      show Gives _ _ _ 10 (.tree Tm.zero) _ _
      exact gives_get0 ho (wanted_none rfl _) rfl (by rw [eval_dst (i := 9) (apart_of (by kernel_rfl)) rfl (Nat.le_of_ble_eq_true (by kernel_rfl))]; exact d9)
    · have d9 : (Rel.holds (.tup (.tree Tm.zero) [(.int .i64 1)]) (v12 9) w14) := hdep { on := 9, ground := .data } (by simp) rfl
      show Gives _ _ _ 11 (.val (.int .i64 1)) _ _
      exact gives_getk ho (wanted_none rfl _) rfl (by rw [eval_dst (i := 9) (apart_of (by kernel_rfl)) rfl (Nat.le_of_ble_eq_true (by kernel_rfl))]; exact d9) rfl
    · have d11 : (v12 11) = (.int .i64 1) := hdep { on := 11, ground := .data } (by simp) rfl
      show Gives _ _ _ 12 (.val (.int .i64 1)) _ _
      exact gives_move ho (wanted_none rfl _) (.inr rfl) ((eval_dst (i := 11) (apart_of (by kernel_rfl)) rfl (Nat.le_of_ble_eq_true (by kernel_rfl))).trans d11)
  intro v12 w14 ht hv
  have e12 : v12 12 = (.int .i64 1) := hv 12 (Nat.le_of_ble_eq_true (by kernel_rfl))
  replace H5_14 := Lib.hid (Rel.turned _ _ _ _ H5_14.out ht)
  replace H10_10 := Lib.hid (Rel.turned _ _ _ _ H10_10.out ht)
  clear hv
  replace HB := Lib.hid (HB.out.turned ht)
  replace HT := Lib.hid (HT.out.trans ht (fun _ _ hf => hf))
  replace HX := Lib.hid (HX.out.turned ht)
  clear ht
  simp only [putAll, List.size_toArray, List.length_cons, List.length_nil, Nat.zero_add, Nat.reduceAdd, putN, dstOf, List.getElem?_toArray, List.getElem?_cons_zero, List.getElem?_cons_succ, Option.bind_some, Act.put, List.setIfInBounds_toArray, List.set_cons_zero, List.set_cons_succ, e12]
  clear e12
  go_upto_region 13 with fail
  refine wp_region_each (by kernel_rfl) (waits_of (by kernel_rfl)) (apart_of (by kernel_rfl)) (fun i => (([(.val (.int .i64 0)), (.val (.bool false)), (.val (.bool false)), (.rows [[], [0], [1], [1, 0]]), (.val (.int .i64 4)), (.val (.bool false)), (.val (.bool false)), (.val (.bool false)), (.rows [[], [0], [1], [1, 0]]), (.more (AtI [1, 0])), (.ints [1, 0]), (.ints [1, 0]), (.val (.bool true)), (.val (.bool false)), (.val (.bool false)), (.val (.bool false)), (.val (.int .i64 0)), (.val (.bool false)), (.val (.bool false)), (.val (.bool false)), (.tree (.node 2 2 [(.node 2 1 [tY]), tZ])), (.tree tY), (.trees [tY]), (.tree (.node 2 1 [tY])), (.tree tZ), (.trees [(.node 2 1 [tY]), tZ]), (.tree (.node 2 2 [(.node 2 1 [tY]), tZ])), (.val (.bool true)), (.val (.bool false)), (.val (.bool false)), (.val (.bool false)), (.val (.int .i64 1)), (.val (.bool false)), (.val (.bool false))] : List Rel)[i]?.getD (.val undef)).holds) (fun i x w1 w2 h t => Rel.turned _ x w1 w2 h t) ?_ ?_
  · intro i o ho v13 w15 ht hdep
    have hB7 := HB.out.turned ht
    obtain ⟨s0, s1, -, -, -⟩ := boxE hB7.k1
    have hX7 := HX.out.turned ht
    have hi : i < 34 := (Array.getElem?_eq_some_iff.1 ho).1
    obtain rfl | rfl | rfl | rfl | rfl | rfl | rfl | rfl | rfl | rfl | rfl | rfl | rfl | rfl | rfl | rfl | rfl | rfl | rfl | rfl | rfl | rfl | rfl | rfl | rfl | rfl | rfl | rfl | rfl | rfl | rfl | rfl | rfl | rfl := (show i = 0 ∨ i = 1 ∨ i = 2 ∨ i = 3 ∨ i = 4 ∨ i = 5 ∨ i = 6 ∨ i = 7 ∨ i = 8 ∨ i = 9 ∨ i = 10 ∨ i = 11 ∨ i = 12 ∨ i = 13 ∨ i = 14 ∨ i = 15 ∨ i = 16 ∨ i = 17 ∨ i = 18 ∨ i = 19 ∨ i = 20 ∨ i = 21 ∨ i = 22 ∨ i = 23 ∨ i = 24 ∨ i = 25 ∨ i = 26 ∨ i = 27 ∨ i = 28 ∨ i = 29 ∨ i = 30 ∨ i = 31 ∨ i = 32 ∨ i = 33 by omega)
    all_goals
      obtain rfl := Option.some.inj ho
      clear hi
    · show Gives _ _ _ 0 (.val (.int .i64 0)) _ _
      exact gives_move ho (wanted_none rfl _) (.inl rfl) ((eval_other (fresh_of (by kernel_rfl))).trans rfl)
    · have d0 : (v13 0) = (.int .i64 0) := hdep { on := 0, ground := .data } (by simp) rfl
      show Gives _ _ _ 1 (.val (.bool false)) _ _
      exact gives_bin ho (wanted_none rfl _) rfl ((eval_dst (i := 0) (apart_of (by kernel_rfl)) rfl (Nat.le_of_ble_eq_true (by kernel_rfl))).trans d0) rfl (fun _ => by kernel_rfl)
    · have d1 : (v13 1) = (.bool false) := hdep { on := 1, ground := .data } (by simp) rfl
      show Gives _ _ _ 2 (.val (.bool false)) _ _
      exact gives_move ho (wanted_none rfl _) (.inl rfl) ((eval_dst (i := 1) (apart_of (by kernel_rfl)) rfl (Nat.le_of_ble_eq_true (by kernel_rfl))).trans d1)
    · have d2 : (v13 2) = (.bool false) := hdep { on := 2, ground := .guard } (by simp) rfl
      show Gives _ _ _ 3 (.rows [[], [0], [1], [1, 0]]) _ _
      refine gives_move ho ?_ (.inl rfl) (by rw [eval_other (fresh_of (by kernel_rfl))]; exact Rel.turned _ _ _ _ H10_10.out ht)
      exact want_yes (g := 2) (d := 151) (b := false) (apart_of (by kernel_rfl)) rfl rfl (Nat.le_of_ble_eq_true (by kernel_rfl)) d2
    · have d2 : (v13 2) = (.bool false) := hdep { on := 2, ground := .guard } (by simp) rfl
      have d3 : (Rel.holds (.rows [[], [0], [1], [1, 0]]) (v13 3) w15) := hdep { on := 3, ground := .data } (by simp) rfl
      show Gives _ _ _ 4 (.val (.int .i64 4)) _ _
      refine gives_len (l := [[], [0], [1], [1, 0]]) ho ?_ rfl (by rw [eval_dst (i := 3) (apart_of (by kernel_rfl)) rfl (Nat.le_of_ble_eq_true (by kernel_rfl))]; exact d3)
      exact want_yes (g := 2) (d := 151) (b := false) (apart_of (by kernel_rfl)) rfl rfl (Nat.le_of_ble_eq_true (by kernel_rfl)) d2
    · have d2 : (v13 2) = (.bool false) := hdep { on := 2, ground := .guard } (by simp) rfl
      have d4 : (v13 4) = (.int .i64 4) := hdep { on := 4, ground := .data } (by simp) rfl
      show Gives _ _ _ 5 (.val (.bool false)) _ _
      refine gives_bin ho ?_ rfl ((eval_dst (i := 4) (apart_of (by kernel_rfl)) rfl (Nat.le_of_ble_eq_true (by kernel_rfl))).trans d4) rfl (fun _ => by kernel_rfl)
      exact want_yes (g := 2) (d := 151) (b := false) (apart_of (by kernel_rfl)) rfl rfl (Nat.le_of_ble_eq_true (by kernel_rfl)) d2
    · have d2 : (v13 2) = (.bool false) := hdep { on := 2, ground := .data } (by simp) rfl
      have d5 : (v13 5) = (.bool false) := hdep { on := 5, ground := .data } (by simp) rfl
      show Gives _ _ _ 6 (.val (.bool false)) _ _
      exact gives_pick_f ho (wanted_none rfl _) rfl ((eval_dst (i := 2) (apart_of (by kernel_rfl)) rfl (Nat.le_of_ble_eq_true (by kernel_rfl))).trans d2) ((eval_dst (i := 5) (apart_of (by kernel_rfl)) rfl (Nat.le_of_ble_eq_true (by kernel_rfl))).trans d5)
    · have d6 : (v13 6) = (.bool false) := hdep { on := 6, ground := .data } (by simp) rfl
      show Gives _ _ _ 7 (.val (.bool false)) _ _
      exact gives_move ho (wanted_none rfl _) (.inl rfl) ((eval_dst (i := 6) (apart_of (by kernel_rfl)) rfl (Nat.le_of_ble_eq_true (by kernel_rfl))).trans d6)
    · have d7 : (v13 7) = (.bool false) := hdep { on := 7, ground := .guard } (by simp) rfl
      show Gives _ _ _ 8 (.rows [[], [0], [1], [1, 0]]) _ _
      refine gives_move ho ?_ (.inl rfl) (by rw [eval_other (fresh_of (by kernel_rfl))]; exact Rel.turned _ _ _ _ H10_10.out ht)
      exact want_yes (g := 7) (d := 156) (b := false) (apart_of (by kernel_rfl)) rfl rfl (Nat.le_of_ble_eq_true (by kernel_rfl)) d7
    · have d7 : (v13 7) = (.bool false) := hdep { on := 7, ground := .guard } (by simp) rfl
      have d8 : (Rel.holds (.rows [[], [0], [1], [1, 0]]) (v13 8) w15) := hdep { on := 8, ground := .data } (by simp) rfl
      show Gives _ _ _ 9 (.more (AtI [1, 0])) _ _
      refine gives_at (n := 3) (l := [[], [0], [1], [1, 0]]) ho ?_ rfl (by rw [eval_dst (i := 8) (apart_of (by kernel_rfl)) rfl (Nat.le_of_ble_eq_true (by kernel_rfl))]; exact d8) rfl
      exact want_yes (g := 7) (d := 156) (b := false) (apart_of (by kernel_rfl)) rfl rfl (Nat.le_of_ble_eq_true (by kernel_rfl)) d7
    · have d7 : (v13 7) = (.bool false) := hdep { on := 7, ground := .guard } (by simp) rfl
      have d9 : (Rel.holds (.more (AtI [1, 0])) (v13 9) w15) := hdep { on := 9, ground := .data } (by simp) rfl
      show Gives _ _ _ 10 (.ints [1, 0]) _ _
      refine gives_ints_at ho ?_ rfl (by rw [eval_dst (i := 9) (apart_of (by kernel_rfl)) rfl (Nat.le_of_ble_eq_true (by kernel_rfl))]; exact d9)
      exact want_yes (g := 7) (d := 156) (b := false) (apart_of (by kernel_rfl)) rfl rfl (Nat.le_of_ble_eq_true (by kernel_rfl)) d7
    · have d7 : (v13 7) = (.bool false) := hdep { on := 7, ground := .guard } (by simp) rfl
      show Gives _ _ _ 11 (.ints [1, 0]) _ _
      refine gives_ints2 ho ?_ rfl
      exact want_yes (g := 7) (d := 156) (b := false) (apart_of (by kernel_rfl)) rfl rfl (Nat.le_of_ble_eq_true (by kernel_rfl)) d7
    · have d7 : (v13 7) = (.bool false) := hdep { on := 7, ground := .guard } (by simp) rfl
      have d10 : RowI w15 (v13 10) [1, 0] := hdep { on := 10, ground := .data } (by simp) rfl
      have d11 : RowI w15 (v13 11) [1, 0] := hdep { on := 11, ground := .data } (by simp) rfl
      show Gives _ _ _ 12 (.val (.bool true)) _ _
      refine gives_fn (vs := #[v13 10, v13 11]) ho ?_ rfl ?_ (Go.Proofs.enters_of Try.func32 (by kernel_rfl) rfl) ?_
      · exact want_yes (g := 7) (d := 156) (b := false) (apart_of (by kernel_rfl)) rfl rfl (Nat.le_of_ble_eq_true (by kernel_rfl)) d7
      · simp only [List.map_toArray, List.map_cons, List.map_nil]
        rw [eval_dst (i := 10) (apart_of (by kernel_rfl)) rfl (Nat.le_of_ble_eq_true (by kernel_rfl)), eval_dst (i := 11) (apart_of (by kernel_rfl)) rfl (Nat.le_of_ble_eq_true (by kernel_rfl))]
      · exact (c_ints [1, 0] [1, 0] true (by decide +kernel)) _ _ _ d10 d11
    · have d7 : (v13 7) = (.bool false) := hdep { on := 7, ground := .guard } (by simp) rfl
      have d12 : (v13 12) = (.bool true) := hdep { on := 12, ground := .data } (by simp) rfl
      show Gives _ _ _ 13 (.val (.bool false)) _ _
      refine gives_un ho ?_ rfl ((eval_dst (i := 12) (apart_of (by kernel_rfl)) rfl (Nat.le_of_ble_eq_true (by kernel_rfl))).trans d12) (fun _ => by kernel_rfl)
      exact want_yes (g := 7) (d := 156) (b := false) (apart_of (by kernel_rfl)) rfl rfl (Nat.le_of_ble_eq_true (by kernel_rfl)) d7
    · have d7 : (v13 7) = (.bool false) := hdep { on := 7, ground := .data } (by simp) rfl
      have d13 : (v13 13) = (.bool false) := hdep { on := 13, ground := .data } (by simp) rfl
      show Gives _ _ _ 14 (.val (.bool false)) _ _
      exact gives_pick_f ho (wanted_none rfl _) rfl ((eval_dst (i := 7) (apart_of (by kernel_rfl)) rfl (Nat.le_of_ble_eq_true (by kernel_rfl))).trans d7) ((eval_dst (i := 13) (apart_of (by kernel_rfl)) rfl (Nat.le_of_ble_eq_true (by kernel_rfl))).trans d13)
    · have d14 : (v13 14) = (.bool false) := hdep { on := 14, ground := .data } (by simp) rfl
      show Gives _ _ _ 15 (.val (.bool false)) _ _
      exact gives_move ho (wanted_none rfl _) (.inl rfl) ((eval_dst (i := 14) (apart_of (by kernel_rfl)) rfl (Nat.le_of_ble_eq_true (by kernel_rfl))).trans d14)
    · have d15 : (v13 15) = (.bool false) := hdep { on := 15, ground := .guard } (by simp) rfl
      show Gives _ _ _ 16 (.val (.int .i64 0)) _ _
      refine gives_move ho ?_ (.inl rfl) ((eval_other (fresh_of (by kernel_rfl))).trans rfl)
      exact want_yes (g := 15) (d := 164) (b := false) (apart_of (by kernel_rfl)) rfl rfl (Nat.le_of_ble_eq_true (by kernel_rfl)) d15
    · have d15 : (v13 15) = (.bool false) := hdep { on := 15, ground := .guard } (by simp) rfl
      have d16 : (v13 16) = (.int .i64 0) := hdep { on := 16, ground := .data } (by simp) rfl
      show Gives _ _ _ 17 (.val (.bool false)) _ _
      refine gives_bin ho ?_ rfl ((eval_dst (i := 16) (apart_of (by kernel_rfl)) rfl (Nat.le_of_ble_eq_true (by kernel_rfl))).trans d16) rfl (fun _ => by kernel_rfl)
      exact want_yes (g := 15) (d := 164) (b := false) (apart_of (by kernel_rfl)) rfl rfl (Nat.le_of_ble_eq_true (by kernel_rfl)) d15
    · have d15 : (v13 15) = (.bool false) := hdep { on := 15, ground := .data } (by simp) rfl
      have d17 : (v13 17) = (.bool false) := hdep { on := 17, ground := .data } (by simp) rfl
      show Gives _ _ _ 18 (.val (.bool false)) _ _
      exact gives_pick_f ho (wanted_none rfl _) rfl ((eval_dst (i := 15) (apart_of (by kernel_rfl)) rfl (Nat.le_of_ble_eq_true (by kernel_rfl))).trans d15) ((eval_dst (i := 17) (apart_of (by kernel_rfl)) rfl (Nat.le_of_ble_eq_true (by kernel_rfl))).trans d17)
    · have d18 : (v13 18) = (.bool false) := hdep { on := 18, ground := .data } (by simp) rfl
      show Gives _ _ _ 19 (.val (.bool false)) _ _
      exact gives_move ho (wanted_none rfl _) (.inl rfl) ((eval_dst (i := 18) (apart_of (by kernel_rfl)) rfl (Nat.le_of_ble_eq_true (by kernel_rfl))).trans d18)
    · have d19 : (v13 19) = (.bool false) := hdep { on := 19, ground := .guard } (by simp) rfl
      show Gives _ _ _ 20 (.tree (.node 2 2 [(.node 2 1 [tY]), tZ])) _ _
      refine gives_box ho ?_ rfl ((eval_other (fresh_of (by kernel_rfl))).trans rfl) hX7
      exact want_yes (g := 19) (d := 168) (b := false) (apart_of (by kernel_rfl)) rfl rfl (Nat.le_of_ble_eq_true (by kernel_rfl)) d19
    · have d19 : (v13 19) = (.bool false) := hdep { on := 19, ground := .guard } (by simp) rfl
      show Gives _ _ _ 21 (.tree tY) _ _
      refine gives_leaf ho ?_ rfl ((eval_other (fresh_of (by kernel_rfl))).trans rfl) hB7.k3
      exact want_yes (g := 19) (d := 168) (b := false) (apart_of (by kernel_rfl)) rfl rfl (Nat.le_of_ble_eq_true (by kernel_rfl)) d19
    · have d19 : (v13 19) = (.bool false) := hdep { on := 19, ground := .guard } (by simp) rfl
      have d21 : TmIn w15 tY (v13 21) := hdep { on := 21, ground := .data } (by simp) rfl
      show Gives _ _ _ 22 (.trees [tY]) _ _
      refine gives_trees1 ho ?_ rfl (by rw [eval_dst (i := 21) (apart_of (by kernel_rfl)) rfl (Nat.le_of_ble_eq_true (by kernel_rfl))]; exact d21)
      exact want_yes (g := 19) (d := 168) (b := false) (apart_of (by kernel_rfl)) rfl rfl (Nat.le_of_ble_eq_true (by kernel_rfl)) d19
    · have d19 : (v13 19) = (.bool false) := hdep { on := 19, ground := .guard } (by simp) rfl
      have d22 : RowTm w15 (v13 22) [tY] := hdep { on := 22, ground := .data } (by simp) rfl
      show Gives _ _ _ 23 (.tree (.node 2 1 [tY])) _ _
      refine gives_node ho ?_ rfl (by rw [eval_dst (i := 22) (apart_of (by kernel_rfl)) rfl (Nat.le_of_ble_eq_true (by kernel_rfl))]; exact d22)
      exact want_yes (g := 19) (d := 168) (b := false) (apart_of (by kernel_rfl)) rfl rfl (Nat.le_of_ble_eq_true (by kernel_rfl)) d19
    · have d19 : (v13 19) = (.bool false) := hdep { on := 19, ground := .guard } (by simp) rfl
      show Gives _ _ _ 24 (.tree tZ) _ _
      refine gives_leaf ho ?_ rfl ((eval_other (fresh_of (by kernel_rfl))).trans rfl) hB7.k4
      exact want_yes (g := 19) (d := 168) (b := false) (apart_of (by kernel_rfl)) rfl rfl (Nat.le_of_ble_eq_true (by kernel_rfl)) d19
    · have d19 : (v13 19) = (.bool false) := hdep { on := 19, ground := .guard } (by simp) rfl
      have d23 : TmIn w15 (.node 2 1 [tY]) (v13 23) := hdep { on := 23, ground := .data } (by simp) rfl
      have d24 : TmIn w15 tZ (v13 24) := hdep { on := 24, ground := .data } (by simp) rfl
      show Gives _ _ _ 25 (.trees [(.node 2 1 [tY]), tZ]) _ _
      refine gives_trees2 ho ?_ rfl (by rw [eval_dst (i := 23) (apart_of (by kernel_rfl)) rfl (Nat.le_of_ble_eq_true (by kernel_rfl))]; exact d23) (by rw [eval_dst (i := 24) (apart_of (by kernel_rfl)) rfl (Nat.le_of_ble_eq_true (by kernel_rfl))]; exact d24)
      exact want_yes (g := 19) (d := 168) (b := false) (apart_of (by kernel_rfl)) rfl rfl (Nat.le_of_ble_eq_true (by kernel_rfl)) d19
    · have d19 : (v13 19) = (.bool false) := hdep { on := 19, ground := .guard } (by simp) rfl
      have d25 : RowTm w15 (v13 25) [(.node 2 1 [tY]), tZ] := hdep { on := 25, ground := .data } (by simp) rfl
      show Gives _ _ _ 26 (.tree (.node 2 2 [(.node 2 1 [tY]), tZ])) _ _
      refine gives_node ho ?_ rfl (by rw [eval_dst (i := 25) (apart_of (by kernel_rfl)) rfl (Nat.le_of_ble_eq_true (by kernel_rfl))]; exact d25)
      exact want_yes (g := 19) (d := 168) (b := false) (apart_of (by kernel_rfl)) rfl rfl (Nat.le_of_ble_eq_true (by kernel_rfl)) d19
    · have d19 : (v13 19) = (.bool false) := hdep { on := 19, ground := .guard } (by simp) rfl
      have d20 : TmIn w15 (.node 2 2 [(.node 2 1 [tY]), tZ]) (v13 20) := hdep { on := 20, ground := .data } (by simp) rfl
      have d26 : TmIn w15 (.node 2 2 [(.node 2 1 [tY]), tZ]) (v13 26) := hdep { on := 26, ground := .data } (by simp) rfl
      show Gives _ _ _ 27 (.val (.bool true)) _ _
      refine gives_fn (vs := #[v13 20, v13 26]) ho ?_ rfl ?_ (Go.Proofs.enters_of Try.func18 (by kernel_rfl) rfl) ?_
      · exact want_yes (g := 19) (d := 168) (b := false) (apart_of (by kernel_rfl)) rfl rfl (Nat.le_of_ble_eq_true (by kernel_rfl)) d19
      · simp only [List.map_toArray, List.map_cons, List.map_nil]
        rw [eval_dst (i := 20) (apart_of (by kernel_rfl)) rfl (Nat.le_of_ble_eq_true (by kernel_rfl)), eval_dst (i := 26) (apart_of (by kernel_rfl)) rfl (Nat.le_of_ble_eq_true (by kernel_rfl))]
      · exact (c_same (.node 2 2 [(.node 2 1 [tY]), tZ]) (.node 2 2 [(.node 2 1 [tY]), tZ]) true (by decide +kernel)) _ _ _ d20 d26
    · have d19 : (v13 19) = (.bool false) := hdep { on := 19, ground := .guard } (by simp) rfl
      have d27 : (v13 27) = (.bool true) := hdep { on := 27, ground := .data } (by simp) rfl
      show Gives _ _ _ 28 (.val (.bool false)) _ _
      refine gives_un ho ?_ rfl ((eval_dst (i := 27) (apart_of (by kernel_rfl)) rfl (Nat.le_of_ble_eq_true (by kernel_rfl))).trans d27) (fun _ => by kernel_rfl)
      exact want_yes (g := 19) (d := 168) (b := false) (apart_of (by kernel_rfl)) rfl rfl (Nat.le_of_ble_eq_true (by kernel_rfl)) d19
    · have d19 : (v13 19) = (.bool false) := hdep { on := 19, ground := .data } (by simp) rfl
      have d28 : (v13 28) = (.bool false) := hdep { on := 28, ground := .data } (by simp) rfl
      show Gives _ _ _ 29 (.val (.bool false)) _ _
      exact gives_pick_f ho (wanted_none rfl _) rfl ((eval_dst (i := 19) (apart_of (by kernel_rfl)) rfl (Nat.le_of_ble_eq_true (by kernel_rfl))).trans d19) ((eval_dst (i := 28) (apart_of (by kernel_rfl)) rfl (Nat.le_of_ble_eq_true (by kernel_rfl))).trans d28)
    · have d29 : (v13 29) = (.bool false) := hdep { on := 29, ground := .data } (by simp) rfl
      show Gives _ _ _ 30 (.val (.bool false)) _ _
      exact gives_move ho (wanted_none rfl _) (.inl rfl) ((eval_dst (i := 29) (apart_of (by kernel_rfl)) rfl (Nat.le_of_ble_eq_true (by kernel_rfl))).trans d29)
    · have d30 : (v13 30) = (.bool false) := hdep { on := 30, ground := .guard } (by simp) rfl
      show Gives _ _ _ 31 (.val (.int .i64 1)) _ _
      refine gives_move ho ?_ (.inl rfl) ((eval_other (fresh_of (by kernel_rfl))).trans rfl)
      exact want_yes (g := 30) (d := 179) (b := false) (apart_of (by kernel_rfl)) rfl rfl (Nat.le_of_ble_eq_true (by kernel_rfl)) d30
    · have d30 : (v13 30) = (.bool false) := hdep { on := 30, ground := .guard } (by simp) rfl
      have d31 : (v13 31) = (.int .i64 1) := hdep { on := 31, ground := .data } (by simp) rfl
      show Gives _ _ _ 32 (.val (.bool false)) _ _
      refine gives_bin ho ?_ rfl ((eval_dst (i := 31) (apart_of (by kernel_rfl)) rfl (Nat.le_of_ble_eq_true (by kernel_rfl))).trans d31) rfl (fun _ => by kernel_rfl)
      exact want_yes (g := 30) (d := 179) (b := false) (apart_of (by kernel_rfl)) rfl rfl (Nat.le_of_ble_eq_true (by kernel_rfl)) d30
    · have d30 : (v13 30) = (.bool false) := hdep { on := 30, ground := .data } (by simp) rfl
      have d32 : (v13 32) = (.bool false) := hdep { on := 32, ground := .data } (by simp) rfl
      show Gives _ _ _ 33 (.val (.bool false)) _ _
      exact gives_pick_f ho (wanted_none rfl _) rfl ((eval_dst (i := 30) (apart_of (by kernel_rfl)) rfl (Nat.le_of_ble_eq_true (by kernel_rfl))).trans d30) ((eval_dst (i := 32) (apart_of (by kernel_rfl)) rfl (Nat.le_of_ble_eq_true (by kernel_rfl))).trans d32)
  intro v13 w15 ht hv
  have e1 : v13 1 = (.bool false) := hv 1 (Nat.le_of_ble_eq_true (by kernel_rfl))
  have e2 : v13 2 = (.bool false) := hv 2 (Nat.le_of_ble_eq_true (by kernel_rfl))
  have e5 : v13 5 = (.bool false) := hv 5 (Nat.le_of_ble_eq_true (by kernel_rfl))
  have e6 : v13 6 = (.bool false) := hv 6 (Nat.le_of_ble_eq_true (by kernel_rfl))
  have e7 : v13 7 = (.bool false) := hv 7 (Nat.le_of_ble_eq_true (by kernel_rfl))
  have e12 : v13 12 = (.bool true) := hv 12 (Nat.le_of_ble_eq_true (by kernel_rfl))
  have e13 : v13 13 = (.bool false) := hv 13 (Nat.le_of_ble_eq_true (by kernel_rfl))
  have e14 : v13 14 = (.bool false) := hv 14 (Nat.le_of_ble_eq_true (by kernel_rfl))
  have e15 : v13 15 = (.bool false) := hv 15 (Nat.le_of_ble_eq_true (by kernel_rfl))
  have e17 : v13 17 = (.bool false) := hv 17 (Nat.le_of_ble_eq_true (by kernel_rfl))
  have e18 : v13 18 = (.bool false) := hv 18 (Nat.le_of_ble_eq_true (by kernel_rfl))
  have e19 : v13 19 = (.bool false) := hv 19 (Nat.le_of_ble_eq_true (by kernel_rfl))
  have e27 : v13 27 = (.bool true) := hv 27 (Nat.le_of_ble_eq_true (by kernel_rfl))
  have e28 : v13 28 = (.bool false) := hv 28 (Nat.le_of_ble_eq_true (by kernel_rfl))
  have e29 : v13 29 = (.bool false) := hv 29 (Nat.le_of_ble_eq_true (by kernel_rfl))
  have e30 : v13 30 = (.bool false) := hv 30 (Nat.le_of_ble_eq_true (by kernel_rfl))
  have e32 : v13 32 = (.bool false) := hv 32 (Nat.le_of_ble_eq_true (by kernel_rfl))
  have e33 : v13 33 = (.bool false) := hv 33 (Nat.le_of_ble_eq_true (by kernel_rfl))
  replace H5_14 := Lib.hid (Rel.turned _ _ _ _ H5_14.out ht)
  replace H10_10 := Lib.hid (Rel.turned _ _ _ _ H10_10.out ht)
  clear hv
  replace HB := Lib.hid (HB.out.turned ht)
  replace HT := Lib.hid (HT.out.trans ht (fun _ _ hf => hf))
  replace HX := Lib.hid (HX.out.turned ht)
  clear ht
  simp only [putAll, List.size_toArray, List.length_cons, List.length_nil, Nat.zero_add, Nat.reduceAdd, putN, dstOf, List.getElem?_toArray, List.getElem?_cons_zero, List.getElem?_cons_succ, Option.bind_some, Act.put, List.setIfInBounds_toArray, List.set_cons_zero, List.set_cons_succ, e1, e2, e5, e6, e7, e12, e13, e14, e15, e17, e18, e19, e27, e28, e29, e30, e32, e33]
  clear e1 e2 e5 e6 e7 e12 e13 e14 e15 e17 e18 e19 e27 e28 e29 e30 e32 e33
  go_upto_region 15 with fail
  clear H5_14 H10_10
  have HB2 := Lib.hid (Base2.mk HB.out.k2 HB.out.k3 HB.out.k4)
  clear HB
  obtain ⟨x0, x1, x2, -, -, -, lx⟩ := box3 HB2.out.k2
  obtain ⟨y0, y1, y2, -, -, -, ly⟩ := box3 HB2.out.k3
  go_wp2_with fail
  refine (op_rel 2 [tX, tY] _ _ (rowTm_op2 (heap_alloc_new _ _) ⟨none, 0, rfl, Nat.zero_le _, trivial⟩ ⟨none, 0, rfl, Nat.zero_le _, trivial⟩)).mono ?_
  rintro e wa ⟨x, rfl, hx, ta⟩
  have hx2 : TmIn wa (.node 2 2 [tX, tY]) x := hx
  obtain ⟨qa, ca, rfl, -⟩ := hx2.form
  have TA := Lib.hid ((Turned.alloc (Turned.refl w15 (fun _ => False)) _).trans ta (fun _ _ hf => hf))
  have HX2 := Lib.hid hx2
  clear hx hx2 ta x0 x1 x2 lx y0 y1 y2 ly
  simp only [Tm.kind, Tm.num, Tm.kids, List.length_cons, List.length_nil] at *
  go_wp2_with fail
  refine (c_shiftS _ _ HX2.out).mono ?_
  rintro e wb ⟨z, rfl, hz, tb⟩
  obtain ⟨qb, cb, rfl⟩ := hz.form
  have TB := Lib.hid (TA.out.trans tb (fun _ _ hf => hf))
  obtain ⟨qz, cz, hbz, -⟩ := HX.out.turned TB.out
  obtain ⟨z0, z1, z2, z3, z4, z5, z6⟩ := box3 hbz
  have hlZ := Nat.lt_of_lt_of_le (lt_of_block (show w15.heap[Z]? = _ from HX.out.choose_spec.choose_spec.1)) TA.out.size
  obtain ⟨n1, n2, n3⟩ := box_put (HT.out.trans TB.out (fun _ _ hf => hf)) hbx hZb (HB2.out.turned TB.out) hbz (TmS.mono (fun j _ hj => by omega) _ hz) rfl rfl
  have NT := Lib.hid n1
  have NB := Lib.hid n2
  have NX := Lib.hid n3
  clear hz tb HX HT HB2 TA TB HX2 hbz n1 n2 n3 hlZ
  simp only [Tm.kind, Tm.num, Tm.kids, List.length_cons, List.length_nil] at *
  go_upto_region 16 with fail
  have HT := Lib.hid NT.out
  have HB := Lib.hid NB.out
  have HX := Lib.hid NX.out
  clear NT NB NX z0 z1 z2 z3 z4 z5 z6
  generalize ((wb.setCell ⟨Z, 0, none⟩ (.int .i64 2)).setCell ⟨Z, 1, none⟩ (.int .i64 2)).setCell ⟨Z, 2, none⟩ (.slice qb (0 + 1 + 1) cb) = w16 at *
  refine wp_region_each (by kernel_rfl) (waits_of (by kernel_rfl)) (apart_of (by kernel_rfl)) (fun i => (([(.tree tY), (.tree tX), (.trees [tY, tX]), (.tree (.node 2 2 [tY, tX])), (.tree tY), (.trees [(.node 2 2 [tY, tX]), tY]), (.tup2 (.trees [(.node 2 2 [tX, tY]), tX]) (.ints [1, 0]) [(.int .i64 0)]), (.tup2 (.trees [(.node 2 2 [tX, tY]), tX]) (.ints [1, 0]) [(.int .i64 0)]), (.trees [(.node 2 2 [tX, tY]), tX]), (.ints [1, 0]), (.val (.int .i64 0)), (.trees [(.node 2 2 [tX, tY]), tX]), (.ints [1, 0]), (.val (.int .i64 0))] : List Rel)[i]?.getD (.val undef)).holds) (fun i x w1 w2 h t => Rel.turned _ x w1 w2 h t) ?_ ?_
  · intro i o ho v16 w17 ht hdep
    have hB7 := HB.out.turned ht
    have hX7 := HX.out.turned ht
    have hi : i < 14 := (Array.getElem?_eq_some_iff.1 ho).1
    obtain rfl | rfl | rfl | rfl | rfl | rfl | rfl | rfl | rfl | rfl | rfl | rfl | rfl | rfl := (show i = 0 ∨ i = 1 ∨ i = 2 ∨ i = 3 ∨ i = 4 ∨ i = 5 ∨ i = 6 ∨ i = 7 ∨ i = 8 ∨ i = 9 ∨ i = 10 ∨ i = 11 ∨ i = 12 ∨ i = 13 by omega)
    all_goals
      obtain rfl := Option.some.inj ho
      clear hi
    · show Gives _ _ _ 0 (.tree tY) _ _
      exact gives_leaf ho (wanted_none rfl _) rfl ((eval_other (fresh_of (by kernel_rfl))).trans rfl) hB7.k3
    · show Gives _ _ _ 1 (.tree tX) _ _
      exact gives_leaf ho (wanted_none rfl _) rfl ((eval_other (fresh_of (by kernel_rfl))).trans rfl) hB7.k2
    · have d0 : TmIn w17 tY (v16 0) := hdep { on := 0, ground := .data } (by simp) rfl
      have d1 : TmIn w17 tX (v16 1) := hdep { on := 1, ground := .data } (by simp) rfl
      show Gives _ _ _ 2 (.trees [tY, tX]) _ _
      exact gives_trees2 ho (wanted_none rfl _) rfl (by rw [eval_dst (i := 0) (apart_of (by kernel_rfl)) rfl (Nat.le_of_ble_eq_true (by kernel_rfl))]; exact d0) (by rw [eval_dst (i := 1) (apart_of (by kernel_rfl)) rfl (Nat.le_of_ble_eq_true (by kernel_rfl))]; exact d1)
    · have d2 : RowTm w17 (v16 2) [tY, tX] := hdep { on := 2, ground := .data } (by simp) rfl
      show Gives _ _ _ 3 (.tree (.node 2 2 [tY, tX])) _ _
      exact gives_node ho (wanted_none rfl _) rfl (by rw [eval_dst (i := 2) (apart_of (by kernel_rfl)) rfl (Nat.le_of_ble_eq_true (by kernel_rfl))]; exact d2)
    · show Gives _ _ _ 4 (.tree tY) _ _
      exact gives_leaf ho (wanted_none rfl _) rfl ((eval_other (fresh_of (by kernel_rfl))).trans rfl) hB7.k3
    · have d3 : TmIn w17 (.node 2 2 [tY, tX]) (v16 3) := hdep { on := 3, ground := .data } (by simp) rfl
      have d4 : TmIn w17 tY (v16 4) := hdep { on := 4, ground := .data } (by simp) rfl
      show Gives _ _ _ 5 (.trees [(.node 2 2 [tY, tX]), tY]) _ _
      exact gives_trees2 ho (wanted_none rfl _) rfl (by rw [eval_dst (i := 3) (apart_of (by kernel_rfl)) rfl (Nat.le_of_ble_eq_true (by kernel_rfl))]; exact d3) (by rw [eval_dst (i := 4) (apart_of (by kernel_rfl)) rfl (Nat.le_of_ble_eq_true (by kernel_rfl))]; exact d4)
    · have d5 : RowTm w17 (v16 5) [(.node 2 2 [tY, tX]), tY] := hdep { on := 5, ground := .data } (by simp) rfl
      show Gives _ _ _ 6 (.tup2 (.trees [(.node 2 2 [tX, tY]), tX]) (.ints [1, 0]) [(.int .i64 0)]) _ _
      refine gives_fn (vs := #[v16 5]) ho (wanted_none rfl _) rfl ?_ (Go.Proofs.enters_of Try.func22 (by kernel_rfl) rfl) ?_
      · simp only [List.map_toArray, List.map_cons, List.map_nil]
        rw [eval_dst (i := 5) (apart_of (by kernel_rfl)) rfl (Nat.le_of_ble_eq_true (by kernel_rfl))]
      · exact c_normal _ _ d5
    · have d6 : (Rel.holds (.tup2 (.trees [(.node 2 2 [tX, tY]), tX]) (.ints [1, 0]) [(.int .i64 0)]) (v16 6) w17) := hdep { on := 6, ground := .data } (by simp) rfl
      show Gives _ _ _ 7 (.tup2 (.trees [(.node 2 2 [tX, tY]), tX]) (.ints [1, 0]) [(.int .i64 0)]) _ _
      exact gives_move ho (wanted_none rfl _) (.inl rfl) (by rw [eval_dst (i := 6) (apart_of (by kernel_rfl)) rfl (Nat.le_of_ble_eq_true (by kernel_rfl))]; exact d6)
    · have d7 : (Rel.holds (.tup2 (.trees [(.node 2 2 [tX, tY]), tX]) (.ints [1, 0]) [(.int .i64 0)]) (v16 7) w17) := hdep { on := 7, ground := .data } (by simp) rfl
      show Gives _ _ _ 8 (.trees [(.node 2 2 [tX, tY]), tX]) _ _
      exact gives_get20 ho (wanted_none rfl _) rfl (by rw [eval_dst (i := 7) (apart_of (by kernel_rfl)) rfl (Nat.le_of_ble_eq_true (by kernel_rfl))]; exact d7)
    · have d7 : (Rel.holds (.tup2 (.trees [(.node 2 2 [tX, tY]), tX]) (.ints [1, 0]) [(.int .i64 0)]) (v16 7) w17) := hdep { on := 7, ground := .data } (by simp) rfl
      show Gives _ _ _ 9 (.ints [1, 0]) _ _
      exact gives_get21 ho (wanted_none rfl _) rfl (by rw [eval_dst (i := 7) (apart_of (by kernel_rfl)) rfl (Nat.le_of_ble_eq_true (by kernel_rfl))]; exact d7)
    · have d7 : (Rel.holds (.tup2 (.trees [(.node 2 2 [tX, tY]), tX]) (.ints [1, 0]) [(.int .i64 0)]) (v16 7) w17) := hdep { on := 7, ground := .data } (by simp) rfl
      show Gives _ _ _ 10 (.val (.int .i64 0)) _ _
      exact gives_get2k ho (wanted_none rfl _) rfl (by rw [eval_dst (i := 7) (apart_of (by kernel_rfl)) rfl (Nat.le_of_ble_eq_true (by kernel_rfl))]; exact d7) rfl
    · have d8 : RowTm w17 (v16 8) [(.node 2 2 [tX, tY]), tX] := hdep { on := 8, ground := .data } (by simp) rfl
      show Gives _ _ _ 11 (.trees [(.node 2 2 [tX, tY]), tX]) _ _
      exact gives_move ho (wanted_none rfl _) (.inr rfl) (by rw [eval_dst (i := 8) (apart_of (by kernel_rfl)) rfl (Nat.le_of_ble_eq_true (by kernel_rfl))]; exact d8)
    · have d9 : RowI w17 (v16 9) [1, 0] := hdep { on := 9, ground := .data } (by simp) rfl
      show Gives _ _ _ 12 (.ints [1, 0]) _ _
      exact gives_move ho (wanted_none rfl _) (.inr rfl) (by rw [eval_dst (i := 9) (apart_of (by kernel_rfl)) rfl (Nat.le_of_ble_eq_true (by kernel_rfl))]; exact d9)
    · have d10 : (v16 10) = (.int .i64 0) := hdep { on := 10, ground := .data } (by simp) rfl
      show Gives _ _ _ 13 (.val (.int .i64 0)) _ _
      exact gives_move ho (wanted_none rfl _) (.inr rfl) ((eval_dst (i := 10) (apart_of (by kernel_rfl)) rfl (Nat.le_of_ble_eq_true (by kernel_rfl))).trans d10)
  intro v16 w17 ht hv
  have H16_11 := Lib.hid (show Rel.holds (.trees [(.node 2 2 [tX, tY]), tX]) (v16 11) w17 from hv 11 (Nat.le_of_ble_eq_true (by kernel_rfl)))
  have H16_12 := Lib.hid (show Rel.holds (.ints [1, 0]) (v16 12) w17 from hv 12 (Nat.le_of_ble_eq_true (by kernel_rfl)))
  have e13 : v16 13 = (.int .i64 0) := hv 13 (Nat.le_of_ble_eq_true (by kernel_rfl))
  clear hv
  replace HB := Lib.hid (HB.out.turned ht)
  replace HT := Lib.hid (HT.out.trans ht (fun _ _ hf => hf))
  replace HX := Lib.hid (HX.out.turned ht)
  clear ht
  simp only [putAll, List.size_toArray, List.length_cons, List.length_nil, Nat.zero_add, Nat.reduceAdd, putN, dstOf, List.getElem?_toArray, List.getElem?_cons_zero, List.getElem?_cons_succ, Option.bind_some, Act.put, List.setIfInBounds_toArray, List.set_cons_zero, List.set_cons_succ, e13]
  clear e13
  go_upto_region 17 with fail
  refine wp_region_each (by kernel_rfl) (waits_of (by kernel_rfl)) (apart_of (by kernel_rfl)) (fun i => (([(.val (.int .i64 0)), (.val (.bool false)), (.val (.bool false)), (.tree (.node 2 2 [tX, (.node 1 3 [])])), (.tree tX), (.tree (.node 1 3 [])), (.trees [tX, (.node 1 3 [])]), (.tree (.node 2 2 [tX, (.node 1 3 [])])), (.val (.bool true)), (.val (.bool false)), (.val (.bool false)), (.val (.bool false)), (.val (.int .i64 0)), (.val (.bool false)), (.val (.bool false)), (.val (.bool false)), (.trees [(.node 2 2 [tX, tY]), tX]), (.tree tX), (.tree tY), (.trees [tX, tY]), (.tree (.node 2 2 [tX, tY])), (.tree tX), (.trees [(.node 2 2 [tX, tY]), tX]), (.val (.bool true)), (.val (.bool false)), (.val (.bool false)), (.val (.bool false)), (.ints [1, 0]), (.ints [1, 0]), (.val (.bool true)), (.val (.bool false)), (.val (.bool false))] : List Rel)[i]?.getD (.val undef)).holds) (fun i x w1 w2 h t => Rel.turned _ x w1 w2 h t) ?_ ?_
  · intro i o ho v17 w18 ht hdep
    have hB7 := HB.out.turned ht
    have hX7 := HX.out.turned ht
    have hi : i < 32 := (Array.getElem?_eq_some_iff.1 ho).1
    obtain rfl | rfl | rfl | rfl | rfl | rfl | rfl | rfl | rfl | rfl | rfl | rfl | rfl | rfl | rfl | rfl | rfl | rfl | rfl | rfl | rfl | rfl | rfl | rfl | rfl | rfl | rfl | rfl | rfl | rfl | rfl | rfl := (show i = 0 ∨ i = 1 ∨ i = 2 ∨ i = 3 ∨ i = 4 ∨ i = 5 ∨ i = 6 ∨ i = 7 ∨ i = 8 ∨ i = 9 ∨ i = 10 ∨ i = 11 ∨ i = 12 ∨ i = 13 ∨ i = 14 ∨ i = 15 ∨ i = 16 ∨ i = 17 ∨ i = 18 ∨ i = 19 ∨ i = 20 ∨ i = 21 ∨ i = 22 ∨ i = 23 ∨ i = 24 ∨ i = 25 ∨ i = 26 ∨ i = 27 ∨ i = 28 ∨ i = 29 ∨ i = 30 ∨ i = 31 by omega)
    all_goals
      obtain rfl := Option.some.inj ho
      clear hi
    · show Gives _ _ _ 0 (.val (.int .i64 0)) _ _
      exact gives_move ho (wanted_none rfl _) (.inl rfl) ((eval_other (fresh_of (by kernel_rfl))).trans rfl)
    · have d0 : (v17 0) = (.int .i64 0) := hdep { on := 0, ground := .data } (by simp) rfl
      show Gives _ _ _ 1 (.val (.bool false)) _ _
      exact gives_bin ho (wanted_none rfl _) rfl ((eval_dst (i := 0) (apart_of (by kernel_rfl)) rfl (Nat.le_of_ble_eq_true (by kernel_rfl))).trans d0) rfl (fun _ => by kernel_rfl)
    · have d1 : (v17 1) = (.bool false) := hdep { on := 1, ground := .data } (by simp) rfl
      show Gives _ _ _ 2 (.val (.bool false)) _ _
      exact gives_move ho (wanted_none rfl _) (.inl rfl) ((eval_dst (i := 1) (apart_of (by kernel_rfl)) rfl (Nat.le_of_ble_eq_true (by kernel_rfl))).trans d1)
    · have d2 : (v17 2) = (.bool false) := hdep { on := 2, ground := .guard } (by simp) rfl
      show Gives _ _ _ 3 (.tree (.node 2 2 [tX, (.node 1 3 [])])) _ _
      refine gives_box ho ?_ rfl ((eval_other (fresh_of (by kernel_rfl))).trans rfl) hX7
      exact want_yes (g := 2) (d := 204) (b := false) (apart_of (by kernel_rfl)) rfl rfl (Nat.le_of_ble_eq_true (by kernel_rfl)) d2
    · have d2 : (v17 2) = (.bool false) := hdep { on := 2, ground := .guard } (by simp) rfl
      show Gives _ _ _ 4 (.tree tX) _ _
      refine gives_leaf ho ?_ rfl ((eval_other (fresh_of (by kernel_rfl))).trans rfl) hB7.k2
      exact want_yes (g := 2) (d := 204) (b := false) (apart_of (by kernel_rfl)) rfl rfl (Nat.le_of_ble_eq_true (by kernel_rfl)) d2
    · have d2 : (v17 2) = (.bool false) := hdep { on := 2, ground := .guard } (by simp) rfl
      show Gives _ _ _ 5 (.tree (.node 1 3 [])) _ _
      refine gives_fn (vs := #[(.int .i64 3)]) ho ?_ rfl ?_ (Go.Proofs.enters_of Try.func24 (by kernel_rfl) rfl) ?_
      · exact want_yes (g := 2) (d := 204) (b := false) (apart_of (by kernel_rfl)) rfl rfl (Nat.le_of_ble_eq_true (by kernel_rfl)) d2
      · simp only [List.map_toArray, List.map_cons, List.map_nil]
        rfl
      · exact c_var 3 _
    · have d2 : (v17 2) = (.bool false) := hdep { on := 2, ground := .guard } (by simp) rfl
      have d4 : TmIn w18 tX (v17 4) := hdep { on := 4, ground := .data } (by simp) rfl
      have d5 : TmIn w18 (.node 1 3 []) (v17 5) := hdep { on := 5, ground := .data } (by simp) rfl
      show Gives _ _ _ 6 (.trees [tX, (.node 1 3 [])]) _ _
      refine gives_trees2 ho ?_ rfl (by rw [eval_dst (i := 4) (apart_of (by kernel_rfl)) rfl (Nat.le_of_ble_eq_true (by kernel_rfl))]; exact d4) (by rw [eval_dst (i := 5) (apart_of (by kernel_rfl)) rfl (Nat.le_of_ble_eq_true (by kernel_rfl))]; exact d5)
      exact want_yes (g := 2) (d := 204) (b := false) (apart_of (by kernel_rfl)) rfl rfl (Nat.le_of_ble_eq_true (by kernel_rfl)) d2
    · have d2 : (v17 2) = (.bool false) := hdep { on := 2, ground := .guard } (by simp) rfl
      have d6 : RowTm w18 (v17 6) [tX, (.node 1 3 [])] := hdep { on := 6, ground := .data } (by simp) rfl
      show Gives _ _ _ 7 (.tree (.node 2 2 [tX, (.node 1 3 [])])) _ _
      refine gives_node ho ?_ rfl (by rw [eval_dst (i := 6) (apart_of (by kernel_rfl)) rfl (Nat.le_of_ble_eq_true (by kernel_rfl))]; exact d6)
      exact want_yes (g := 2) (d := 204) (b := false) (apart_of (by kernel_rfl)) rfl rfl (Nat.le_of_ble_eq_true (by kernel_rfl)) d2
    · have d2 : (v17 2) = (.bool false) := hdep { on := 2, ground := .guard } (by simp) rfl
      have d3 : TmIn w18 (.node 2 2 [tX, (.node 1 3 [])]) (v17 3) := hdep { on := 3, ground := .data } (by simp) rfl
      have d7 : TmIn w18 (.node 2 2 [tX, (.node 1 3 [])]) (v17 7) := hdep { on := 7, ground := .data } (by simp) rfl
      show Gives _ _ _ 8 (.val (.bool true)) _ _
      refine gives_fn (vs := #[v17 3, v17 7]) ho ?_ rfl ?_ (Go.Proofs.enters_of Try.func18 (by kernel_rfl) rfl) ?_
      · exact want_yes (g := 2) (d := 204) (b := false) (apart_of (by kernel_rfl)) rfl rfl (Nat.le_of_ble_eq_true (by kernel_rfl)) d2
      · simp only [List.map_toArray, List.map_cons, List.map_nil]
        rw [eval_dst (i := 3) (apart_of (by kernel_rfl)) rfl (Nat.le_of_ble_eq_true (by kernel_rfl)), eval_dst (i := 7) (apart_of (by kernel_rfl)) rfl (Nat.le_of_ble_eq_true (by kernel_rfl))]
      · exact (c_same (.node 2 2 [tX, (.node 1 3 [])]) (.node 2 2 [tX, (.node 1 3 [])]) true (by decide +kernel)) _ _ _ d3 d7
    · have d2 : (v17 2) = (.bool false) := hdep { on := 2, ground := .guard } (by simp) rfl
      have d8 : (v17 8) = (.bool true) := hdep { on := 8, ground := .data } (by simp) rfl
      show Gives _ _ _ 9 (.val (.bool false)) _ _
      refine gives_un ho ?_ rfl ((eval_dst (i := 8) (apart_of (by kernel_rfl)) rfl (Nat.le_of_ble_eq_true (by kernel_rfl))).trans d8) (fun _ => by kernel_rfl)
      exact want_yes (g := 2) (d := 204) (b := false) (apart_of (by kernel_rfl)) rfl rfl (Nat.le_of_ble_eq_true (by kernel_rfl)) d2
    · have d2 : (v17 2) = (.bool false) := hdep { on := 2, ground := .data } (by simp) rfl
      have d9 : (v17 9) = (.bool false) := hdep { on := 9, ground := .data } (by simp) rfl
      show Gives _ _ _ 10 (.val (.bool false)) _ _
      exact gives_pick_f ho (wanted_none rfl _) rfl ((eval_dst (i := 2) (apart_of (by kernel_rfl)) rfl (Nat.le_of_ble_eq_true (by kernel_rfl))).trans d2) ((eval_dst (i := 9) (apart_of (by kernel_rfl)) rfl (Nat.le_of_ble_eq_true (by kernel_rfl))).trans d9)
    · have d10 : (v17 10) = (.bool false) := hdep { on := 10, ground := .data } (by simp) rfl
      show Gives _ _ _ 11 (.val (.bool false)) _ _
      exact gives_move ho (wanted_none rfl _) (.inl rfl) ((eval_dst (i := 10) (apart_of (by kernel_rfl)) rfl (Nat.le_of_ble_eq_true (by kernel_rfl))).trans d10)
    · have d11 : (v17 11) = (.bool false) := hdep { on := 11, ground := .guard } (by simp) rfl
      show Gives _ _ _ 12 (.val (.int .i64 0)) _ _
      refine gives_move ho ?_ (.inl rfl) ((eval_other (fresh_of (by kernel_rfl))).trans rfl)
      exact want_yes (g := 11) (d := 213) (b := false) (apart_of (by kernel_rfl)) rfl rfl (Nat.le_of_ble_eq_true (by kernel_rfl)) d11
    · have d11 : (v17 11) = (.bool false) := hdep { on := 11, ground := .guard } (by simp) rfl
      have d12 : (v17 12) = (.int .i64 0) := hdep { on := 12, ground := .data } (by simp) rfl
      show Gives _ _ _ 13 (.val (.bool false)) _ _
      refine gives_bin ho ?_ rfl ((eval_dst (i := 12) (apart_of (by kernel_rfl)) rfl (Nat.le_of_ble_eq_true (by kernel_rfl))).trans d12) rfl (fun _ => by kernel_rfl)
      exact want_yes (g := 11) (d := 213) (b := false) (apart_of (by kernel_rfl)) rfl rfl (Nat.le_of_ble_eq_true (by kernel_rfl)) d11
    · have d11 : (v17 11) = (.bool false) := hdep { on := 11, ground := .data } (by simp) rfl
      have d13 : (v17 13) = (.bool false) := hdep { on := 13, ground := .data } (by simp) rfl
      show Gives _ _ _ 14 (.val (.bool false)) _ _
      exact gives_pick_f ho (wanted_none rfl _) rfl ((eval_dst (i := 11) (apart_of (by kernel_rfl)) rfl (Nat.le_of_ble_eq_true (by kernel_rfl))).trans d11) ((eval_dst (i := 13) (apart_of (by kernel_rfl)) rfl (Nat.le_of_ble_eq_true (by kernel_rfl))).trans d13)
    · have d14 : (v17 14) = (.bool false) := hdep { on := 14, ground := .data } (by simp) rfl
      show Gives _ _ _ 15 (.val (.bool false)) _ _
      exact gives_move ho (wanted_none rfl _) (.inl rfl) ((eval_dst (i := 14) (apart_of (by kernel_rfl)) rfl (Nat.le_of_ble_eq_true (by kernel_rfl))).trans d14)
    · have d15 : (v17 15) = (.bool false) := hdep { on := 15, ground := .guard } (by simp) rfl
      show Gives _ _ _ 16 (.trees [(.node 2 2 [tX, tY]), tX]) _ _
      refine gives_move ho ?_ (.inl rfl) (by rw [eval_other (fresh_of (by kernel_rfl))]; exact Rel.turned _ _ _ _ H16_11.out ht)
      exact want_yes (g := 15) (d := 217) (b := false) (apart_of (by kernel_rfl)) rfl rfl (Nat.le_of_ble_eq_true (by kernel_rfl)) d15
    · have d15 : (v17 15) = (.bool false) := hdep { on := 15, ground := .guard } (by simp) rfl
      show Gives _ _ _ 17 (.tree tX) _ _
      refine gives_leaf ho ?_ rfl ((eval_other (fresh_of (by kernel_rfl))).trans rfl) hB7.k2
      exact want_yes (g := 15) (d := 217) (b := false) (apart_of (by kernel_rfl)) rfl rfl (Nat.le_of_ble_eq_true (by kernel_rfl)) d15
    · have d15 : (v17 15) = (.bool false) := hdep { on := 15, ground := .guard } (by simp) rfl
      show Gives _ _ _ 18 (.tree tY) _ _
      refine gives_leaf ho ?_ rfl ((eval_other (fresh_of (by kernel_rfl))).trans rfl) hB7.k3
      exact want_yes (g := 15) (d := 217) (b := false) (apart_of (by kernel_rfl)) rfl rfl (Nat.le_of_ble_eq_true (by kernel_rfl)) d15
    · have d15 : (v17 15) = (.bool false) := hdep { on := 15, ground := .guard } (by simp) rfl
      have d17 : TmIn w18 tX (v17 17) := hdep { on := 17, ground := .data } (by simp) rfl
      have d18 : TmIn w18 tY (v17 18) := hdep { on := 18, ground := .data } (by simp) rfl
      show Gives _ _ _ 19 (.trees [tX, tY]) _ _
      refine gives_trees2 ho ?_ rfl (by rw [eval_dst (i := 17) (apart_of (by kernel_rfl)) rfl (Nat.le_of_ble_eq_true (by kernel_rfl))]; exact d17) (by rw [eval_dst (i := 18) (apart_of (by kernel_rfl)) rfl (Nat.le_of_ble_eq_true (by kernel_rfl))]; exact d18)
      exact want_yes (g := 15) (d := 217) (b := false) (apart_of (by kernel_rfl)) rfl rfl (Nat.le_of_ble_eq_true (by kernel_rfl)) d15
    · have d15 : (v17 15) = (.bool false) := hdep { on := 15, ground := .guard } (by simp) rfl
      have d19 : RowTm w18 (v17 19) [tX, tY] := hdep { on := 19, ground := .data } (by simp) rfl
      show Gives _ _ _ 20 (.tree (.node 2 2 [tX, tY])) _ _
      refine gives_node ho ?_ rfl (by rw [eval_dst (i := 19) (apart_of (by kernel_rfl)) rfl (Nat.le_of_ble_eq_true (by kernel_rfl))]; exact d19)
      exact want_yes (g := 15) (d := 217) (b := false) (apart_of (by kernel_rfl)) rfl rfl (Nat.le_of_ble_eq_true (by kernel_rfl)) d15
    · have d15 : (v17 15) = (.bool false) := hdep { on := 15, ground := .guard } (by simp) rfl
      show Gives _ _ _ 21 (.tree tX) _ _
      refine gives_leaf ho ?_ rfl ((eval_other (fresh_of (by kernel_rfl))).trans rfl) hB7.k2
      exact want_yes (g := 15) (d := 217) (b := false) (apart_of (by kernel_rfl)) rfl rfl (Nat.le_of_ble_eq_true (by kernel_rfl)) d15
    · have d15 : (v17 15) = (.bool false) := hdep { on := 15, ground := .guard } (by simp) rfl
      have d20 : TmIn w18 (.node 2 2 [tX, tY]) (v17 20) := hdep { on := 20, ground := .data } (by simp) rfl
      have d21 : TmIn w18 tX (v17 21) := hdep { on := 21, ground := .data } (by simp) rfl
      show Gives _ _ _ 22 (.trees [(.node 2 2 [tX, tY]), tX]) _ _
      refine gives_trees2 ho ?_ rfl (by rw [eval_dst (i := 20) (apart_of (by kernel_rfl)) rfl (Nat.le_of_ble_eq_true (by kernel_rfl))]; exact d20) (by rw [eval_dst (i := 21) (apart_of (by kernel_rfl)) rfl (Nat.le_of_ble_eq_true (by kernel_rfl))]; exact d21)
      exact want_yes (g := 15) (d := 217) (b := false) (apart_of (by kernel_rfl)) rfl rfl (Nat.le_of_ble_eq_true (by kernel_rfl)) d15
    · have d15 : (v17 15) = (.bool false) := hdep { on := 15, ground := .guard } (by simp) rfl
      have d16 : RowTm w18 (v17 16) [(.node 2 2 [tX, tY]), tX] := hdep { on := 16, ground := .data } (by simp) rfl
      have d22 : RowTm w18 (v17 22) [(.node 2 2 [tX, tY]), tX] := hdep { on := 22, ground := .data } (by simp) rfl
      show Gives _ _ _ 23 (.val (.bool true)) _ _
      refine gives_fn (vs := #[v17 16, v17 22]) ho ?_ rfl ?_ (Go.Proofs.enters_of Try.func23 (by kernel_rfl) rfl) ?_
      · exact want_yes (g := 15) (d := 217) (b := false) (apart_of (by kernel_rfl)) rfl rfl (Nat.le_of_ble_eq_true (by kernel_rfl)) d15
      · simp only [List.map_toArray, List.map_cons, List.map_nil]
        rw [eval_dst (i := 16) (apart_of (by kernel_rfl)) rfl (Nat.le_of_ble_eq_true (by kernel_rfl)), eval_dst (i := 22) (apart_of (by kernel_rfl)) rfl (Nat.le_of_ble_eq_true (by kernel_rfl))]
      · exact (c_sameAll [(.node 2 2 [tX, tY]), tX] [(.node 2 2 [tX, tY]), tX] true (by decide +kernel)) _ _ _ d16 d22
    · have d15 : (v17 15) = (.bool false) := hdep { on := 15, ground := .guard } (by simp) rfl
      have d23 : (v17 23) = (.bool true) := hdep { on := 23, ground := .data } (by simp) rfl
      show Gives _ _ _ 24 (.val (.bool false)) _ _
      refine gives_un ho ?_ rfl ((eval_dst (i := 23) (apart_of (by kernel_rfl)) rfl (Nat.le_of_ble_eq_true (by kernel_rfl))).trans d23) (fun _ => by kernel_rfl)
      exact want_yes (g := 15) (d := 217) (b := false) (apart_of (by kernel_rfl)) rfl rfl (Nat.le_of_ble_eq_true (by kernel_rfl)) d15
    · have d15 : (v17 15) = (.bool false) := hdep { on := 15, ground := .data } (by simp) rfl
      have d24 : (v17 24) = (.bool false) := hdep { on := 24, ground := .data } (by simp) rfl
      show Gives _ _ _ 25 (.val (.bool false)) _ _
      exact gives_pick_f ho (wanted_none rfl _) rfl ((eval_dst (i := 15) (apart_of (by kernel_rfl)) rfl (Nat.le_of_ble_eq_true (by kernel_rfl))).trans d15) ((eval_dst (i := 24) (apart_of (by kernel_rfl)) rfl (Nat.le_of_ble_eq_true (by kernel_rfl))).trans d24)
    · have d25 : (v17 25) = (.bool false) := hdep { on := 25, ground := .data } (by simp) rfl
      show Gives _ _ _ 26 (.val (.bool false)) _ _
      exact gives_move ho (wanted_none rfl _) (.inl rfl) ((eval_dst (i := 25) (apart_of (by kernel_rfl)) rfl (Nat.le_of_ble_eq_true (by kernel_rfl))).trans d25)
    · have d26 : (v17 26) = (.bool false) := hdep { on := 26, ground := .guard } (by simp) rfl
      show Gives _ _ _ 27 (.ints [1, 0]) _ _
      refine gives_move ho ?_ (.inl rfl) (by rw [eval_other (fresh_of (by kernel_rfl))]; exact Rel.turned _ _ _ _ H16_12.out ht)
      exact want_yes (g := 26) (d := 228) (b := false) (apart_of (by kernel_rfl)) rfl rfl (Nat.le_of_ble_eq_true (by kernel_rfl)) d26
    · have d26 : (v17 26) = (.bool false) := hdep { on := 26, ground := .guard } (by simp) rfl
      show Gives _ _ _ 28 (.ints [1, 0]) _ _
      refine gives_ints2 ho ?_ rfl
      exact want_yes (g := 26) (d := 228) (b := false) (apart_of (by kernel_rfl)) rfl rfl (Nat.le_of_ble_eq_true (by kernel_rfl)) d26
    · have d26 : (v17 26) = (.bool false) := hdep { on := 26, ground := .guard } (by simp) rfl
      have d27 : RowI w18 (v17 27) [1, 0] := hdep { on := 27, ground := .data } (by simp) rfl
      have d28 : RowI w18 (v17 28) [1, 0] := hdep { on := 28, ground := .data } (by simp) rfl
      show Gives _ _ _ 29 (.val (.bool true)) _ _
      refine gives_fn (vs := #[v17 27, v17 28]) ho ?_ rfl ?_ (Go.Proofs.enters_of Try.func32 (by kernel_rfl) rfl) ?_
      · exact want_yes (g := 26) (d := 228) (b := false) (apart_of (by kernel_rfl)) rfl rfl (Nat.le_of_ble_eq_true (by kernel_rfl)) d26
      · simp only [List.map_toArray, List.map_cons, List.map_nil]
        rw [eval_dst (i := 27) (apart_of (by kernel_rfl)) rfl (Nat.le_of_ble_eq_true (by kernel_rfl)), eval_dst (i := 28) (apart_of (by kernel_rfl)) rfl (Nat.le_of_ble_eq_true (by kernel_rfl))]
      · exact (c_ints [1, 0] [1, 0] true (by decide +kernel)) _ _ _ d27 d28
    · have d26 : (v17 26) = (.bool false) := hdep { on := 26, ground := .guard } (by simp) rfl
      have d29 : (v17 29) = (.bool true) := hdep { on := 29, ground := .data } (by simp) rfl
      show Gives _ _ _ 30 (.val (.bool false)) _ _
      refine gives_un ho ?_ rfl ((eval_dst (i := 29) (apart_of (by kernel_rfl)) rfl (Nat.le_of_ble_eq_true (by kernel_rfl))).trans d29) (fun _ => by kernel_rfl)
      exact want_yes (g := 26) (d := 228) (b := false) (apart_of (by kernel_rfl)) rfl rfl (Nat.le_of_ble_eq_true (by kernel_rfl)) d26
    · have d26 : (v17 26) = (.bool false) := hdep { on := 26, ground := .data } (by simp) rfl
      have d30 : (v17 30) = (.bool false) := hdep { on := 30, ground := .data } (by simp) rfl
      show Gives _ _ _ 31 (.val (.bool false)) _ _
      exact gives_pick_f ho (wanted_none rfl _) rfl ((eval_dst (i := 26) (apart_of (by kernel_rfl)) rfl (Nat.le_of_ble_eq_true (by kernel_rfl))).trans d26) ((eval_dst (i := 30) (apart_of (by kernel_rfl)) rfl (Nat.le_of_ble_eq_true (by kernel_rfl))).trans d30)
  intro v17 w18 ht hv
  have e1 : v17 1 = (.bool false) := hv 1 (Nat.le_of_ble_eq_true (by kernel_rfl))
  have e2 : v17 2 = (.bool false) := hv 2 (Nat.le_of_ble_eq_true (by kernel_rfl))
  have e8 : v17 8 = (.bool true) := hv 8 (Nat.le_of_ble_eq_true (by kernel_rfl))
  have e9 : v17 9 = (.bool false) := hv 9 (Nat.le_of_ble_eq_true (by kernel_rfl))
  have e10 : v17 10 = (.bool false) := hv 10 (Nat.le_of_ble_eq_true (by kernel_rfl))
  have e11 : v17 11 = (.bool false) := hv 11 (Nat.le_of_ble_eq_true (by kernel_rfl))
  have e13 : v17 13 = (.bool false) := hv 13 (Nat.le_of_ble_eq_true (by kernel_rfl))
  have e14 : v17 14 = (.bool false) := hv 14 (Nat.le_of_ble_eq_true (by kernel_rfl))
  have e15 : v17 15 = (.bool false) := hv 15 (Nat.le_of_ble_eq_true (by kernel_rfl))
  have e23 : v17 23 = (.bool true) := hv 23 (Nat.le_of_ble_eq_true (by kernel_rfl))
  have e24 : v17 24 = (.bool false) := hv 24 (Nat.le_of_ble_eq_true (by kernel_rfl))
  have e25 : v17 25 = (.bool false) := hv 25 (Nat.le_of_ble_eq_true (by kernel_rfl))
  have e26 : v17 26 = (.bool false) := hv 26 (Nat.le_of_ble_eq_true (by kernel_rfl))
  have e29 : v17 29 = (.bool true) := hv 29 (Nat.le_of_ble_eq_true (by kernel_rfl))
  have e30 : v17 30 = (.bool false) := hv 30 (Nat.le_of_ble_eq_true (by kernel_rfl))
  have e31 : v17 31 = (.bool false) := hv 31 (Nat.le_of_ble_eq_true (by kernel_rfl))
  replace H16_11 := Lib.hid (Rel.turned _ _ _ _ H16_11.out ht)
  replace H16_12 := Lib.hid (Rel.turned _ _ _ _ H16_12.out ht)
  clear hv
  replace HB := Lib.hid (HB.out.turned ht)
  replace HT := Lib.hid (HT.out.trans ht (fun _ _ hf => hf))
  replace HX := Lib.hid (HX.out.turned ht)
  clear ht
  simp only [putAll, List.size_toArray, List.length_cons, List.length_nil, Nat.zero_add, Nat.reduceAdd, putN, dstOf, List.getElem?_toArray, List.getElem?_cons_zero, List.getElem?_cons_succ, Option.bind_some, Act.put, List.setIfInBounds_toArray, List.set_cons_zero, List.set_cons_succ, e1, e2, e8, e9, e10, e11, e13, e14, e15, e23, e24, e25, e26, e29, e30, e31]
  clear e1 e2 e8 e9 e10 e11 e13 e14 e15 e23 e24 e25 e26 e29 e30 e31
  go_upto_region 19 with fail
  refine wp_region_each (by kernel_rfl) (waits_of (by kernel_rfl)) (apart_of (by kernel_rfl)) (fun i => (([(.tree tX), (.tree tX), (.trees [tX, tX]), (.tree (.node 2 2 [tX, tX])), (.tree tY), (.trees [tY]), (.tree (.node 2 1 [tY])), (.tree tY), (.trees [tY]), (.tree (.node 2 1 [tY])), (.trees [(.node 2 1 [tY]), (.node 2 1 [tY])]), (.tree (.node 2 2 [(.node 2 1 [tY]), (.node 2 1 [tY])])), (.tup (.trees [(.node 2 1 [tY])]) [(.bool true), (.int .i64 0)]), (.tup (.trees [(.node 2 1 [tY])]) [(.bool true), (.int .i64 0)]), (.trees [(.node 2 1 [tY])]), (.val (.bool true)), (.val (.int .i64 0)), (.trees [(.node 2 1 [tY])]), (.val (.bool true)), (.val (.int .i64 0))] : List Rel)[i]?.getD (.val undef)).holds) (fun i x w1 w2 h t => Rel.turned _ x w1 w2 h t) ?_ ?_
  · intro i o ho v19 w19 ht hdep
    have hB7 := HB.out.turned ht
    have hX7 := HX.out.turned ht
    have hi : i < 20 := (Array.getElem?_eq_some_iff.1 ho).1
    obtain rfl | rfl | rfl | rfl | rfl | rfl | rfl | rfl | rfl | rfl | rfl | rfl | rfl | rfl | rfl | rfl | rfl | rfl | rfl | rfl := (show i = 0 ∨ i = 1 ∨ i = 2 ∨ i = 3 ∨ i = 4 ∨ i = 5 ∨ i = 6 ∨ i = 7 ∨ i = 8 ∨ i = 9 ∨ i = 10 ∨ i = 11 ∨ i = 12 ∨ i = 13 ∨ i = 14 ∨ i = 15 ∨ i = 16 ∨ i = 17 ∨ i = 18 ∨ i = 19 by omega)
    all_goals
      obtain rfl := Option.some.inj ho
      clear hi
    · show Gives _ _ _ 0 (.tree tX) _ _
      exact gives_leaf ho (wanted_none rfl _) rfl ((eval_other (fresh_of (by kernel_rfl))).trans rfl) hB7.k2
    · show Gives _ _ _ 1 (.tree tX) _ _
      exact gives_leaf ho (wanted_none rfl _) rfl ((eval_other (fresh_of (by kernel_rfl))).trans rfl) hB7.k2
    · have d0 : TmIn w19 tX (v19 0) := hdep { on := 0, ground := .data } (by simp) rfl
      have d1 : TmIn w19 tX (v19 1) := hdep { on := 1, ground := .data } (by simp) rfl
      show Gives _ _ _ 2 (.trees [tX, tX]) _ _
      exact gives_trees2 ho (wanted_none rfl _) rfl (by rw [eval_dst (i := 0) (apart_of (by kernel_rfl)) rfl (Nat.le_of_ble_eq_true (by kernel_rfl))]; exact d0) (by rw [eval_dst (i := 1) (apart_of (by kernel_rfl)) rfl (Nat.le_of_ble_eq_true (by kernel_rfl))]; exact d1)
    · have d2 : RowTm w19 (v19 2) [tX, tX] := hdep { on := 2, ground := .data } (by simp) rfl
      show Gives _ _ _ 3 (.tree (.node 2 2 [tX, tX])) _ _
      exact gives_node ho (wanted_none rfl _) rfl (by rw [eval_dst (i := 2) (apart_of (by kernel_rfl)) rfl (Nat.le_of_ble_eq_true (by kernel_rfl))]; exact d2)
    · show Gives _ _ _ 4 (.tree tY) _ _
      exact gives_leaf ho (wanted_none rfl _) rfl ((eval_other (fresh_of (by kernel_rfl))).trans rfl) hB7.k3
    · have d4 : TmIn w19 tY (v19 4) := hdep { on := 4, ground := .data } (by simp) rfl
      show Gives _ _ _ 5 (.trees [tY]) _ _
      exact gives_trees1 ho (wanted_none rfl _) rfl (by rw [eval_dst (i := 4) (apart_of (by kernel_rfl)) rfl (Nat.le_of_ble_eq_true (by kernel_rfl))]; exact d4)
    · have d5 : RowTm w19 (v19 5) [tY] := hdep { on := 5, ground := .data } (by simp) rfl
      show Gives _ _ _ 6 (.tree (.node 2 1 [tY])) _ _
      exact gives_node ho (wanted_none rfl _) rfl (by rw [eval_dst (i := 5) (apart_of (by kernel_rfl)) rfl (Nat.le_of_ble_eq_true (by kernel_rfl))]; exact d5)
    · show Gives _ _ _ 7 (.tree tY) _ _
      exact gives_leaf ho (wanted_none rfl _) rfl ((eval_other (fresh_of (by kernel_rfl))).trans rfl) hB7.k3
    · have d7 : TmIn w19 tY (v19 7) := hdep { on := 7, ground := .data } (by simp) rfl
      show Gives _ _ _ 8 (.trees [tY]) _ _
      exact gives_trees1 ho (wanted_none rfl _) rfl (by rw [eval_dst (i := 7) (apart_of (by kernel_rfl)) rfl (Nat.le_of_ble_eq_true (by kernel_rfl))]; exact d7)
    · have d8 : RowTm w19 (v19 8) [tY] := hdep { on := 8, ground := .data } (by simp) rfl
      show Gives _ _ _ 9 (.tree (.node 2 1 [tY])) _ _
      exact gives_node ho (wanted_none rfl _) rfl (by rw [eval_dst (i := 8) (apart_of (by kernel_rfl)) rfl (Nat.le_of_ble_eq_true (by kernel_rfl))]; exact d8)
    · have d6 : TmIn w19 (.node 2 1 [tY]) (v19 6) := hdep { on := 6, ground := .data } (by simp) rfl
      have d9 : TmIn w19 (.node 2 1 [tY]) (v19 9) := hdep { on := 9, ground := .data } (by simp) rfl
      show Gives _ _ _ 10 (.trees [(.node 2 1 [tY]), (.node 2 1 [tY])]) _ _
      exact gives_trees2 ho (wanted_none rfl _) rfl (by rw [eval_dst (i := 6) (apart_of (by kernel_rfl)) rfl (Nat.le_of_ble_eq_true (by kernel_rfl))]; exact d6) (by rw [eval_dst (i := 9) (apart_of (by kernel_rfl)) rfl (Nat.le_of_ble_eq_true (by kernel_rfl))]; exact d9)
    · have d10 : RowTm w19 (v19 10) [(.node 2 1 [tY]), (.node 2 1 [tY])] := hdep { on := 10, ground := .data } (by simp) rfl
      show Gives _ _ _ 11 (.tree (.node 2 2 [(.node 2 1 [tY]), (.node 2 1 [tY])])) _ _
      exact gives_node ho (wanted_none rfl _) rfl (by rw [eval_dst (i := 10) (apart_of (by kernel_rfl)) rfl (Nat.le_of_ble_eq_true (by kernel_rfl))]; exact d10)
    · have d3 : TmIn w19 (.node 2 2 [tX, tX]) (v19 3) := hdep { on := 3, ground := .data } (by simp) rfl
      have d11 : TmIn w19 (.node 2 2 [(.node 2 1 [tY]), (.node 2 1 [tY])]) (v19 11) := hdep { on := 11, ground := .data } (by simp) rfl
      show Gives _ _ _ 12 (.tup (.trees [(.node 2 1 [tY])]) [(.bool true), (.int .i64 0)]) _ _
      refine gives_fn (vs := #[v19 3, v19 11]) ho (wanted_none rfl _) rfl ?_ (Go.Proofs.enters_of Try.func35 (by kernel_rfl) rfl) ?_
      · simp only [List.map_toArray, List.map_cons, List.map_nil]
        rw [eval_dst (i := 3) (apart_of (by kernel_rfl)) rfl (Nat.le_of_ble_eq_true (by kernel_rfl)), eval_dst (i := 11) (apart_of (by kernel_rfl)) rfl (Nat.le_of_ble_eq_true (by kernel_rfl))]
      · exact c_match1 _ _ _ d3 d11
    · have d12 : (Rel.holds (.tup (.trees [(.node 2 1 [tY])]) [(.bool true), (.int .i64 0)]) (v19 12) w19) := hdep { on := 12, ground := .data } (by simp) rfl
      show Gives _ _ _ 13 (.tup (.trees [(.node 2 1 [tY])]) [(.bool true), (.int .i64 0)]) _ _
      exact gives_move ho (wanted_none rfl _) (.inl rfl) (by rw [eval_dst (i := 12) (apart_of (by kernel_rfl)) rfl (Nat.le_of_ble_eq_true (by kernel_rfl))]; exact d12)
    · have d13 : (Rel.holds (.tup (.trees [(.node 2 1 [tY])]) [(.bool true), (.int .i64 0)]) (v19 13) w19) := hdep { on := 13, ground := .data } (by simp) rfl
      show Gives _ _ _ 14 (.trees [(.node 2 1 [tY])]) _ _
      exact gives_get0 ho (wanted_none rfl _) rfl (by rw [eval_dst (i := 13) (apart_of (by kernel_rfl)) rfl (Nat.le_of_ble_eq_true (by kernel_rfl))]; exact d13)
    · have d13 : (Rel.holds (.tup (.trees [(.node 2 1 [tY])]) [(.bool true), (.int .i64 0)]) (v19 13) w19) := hdep { on := 13, ground := .data } (by simp) rfl
      show Gives _ _ _ 15 (.val (.bool true)) _ _
      exact gives_getk ho (wanted_none rfl _) rfl (by rw [eval_dst (i := 13) (apart_of (by kernel_rfl)) rfl (Nat.le_of_ble_eq_true (by kernel_rfl))]; exact d13) rfl
    · have d13 : (Rel.holds (.tup (.trees [(.node 2 1 [tY])]) [(.bool true), (.int .i64 0)]) (v19 13) w19) := hdep { on := 13, ground := .data } (by simp) rfl
      show Gives _ _ _ 16 (.val (.int .i64 0)) _ _
      exact gives_getk ho (wanted_none rfl _) rfl (by rw [eval_dst (i := 13) (apart_of (by kernel_rfl)) rfl (Nat.le_of_ble_eq_true (by kernel_rfl))]; exact d13) rfl
    · have d14 : RowTm w19 (v19 14) [(.node 2 1 [tY])] := hdep { on := 14, ground := .data } (by simp) rfl
      show Gives _ _ _ 17 (.trees [(.node 2 1 [tY])]) _ _
      exact gives_move ho (wanted_none rfl _) (.inr rfl) (by rw [eval_dst (i := 14) (apart_of (by kernel_rfl)) rfl (Nat.le_of_ble_eq_true (by kernel_rfl))]; exact d14)
    · have d15 : (v19 15) = (.bool true) := hdep { on := 15, ground := .data } (by simp) rfl
      show Gives _ _ _ 18 (.val (.bool true)) _ _
      exact gives_move ho (wanted_none rfl _) (.inr rfl) ((eval_dst (i := 15) (apart_of (by kernel_rfl)) rfl (Nat.le_of_ble_eq_true (by kernel_rfl))).trans d15)
    · have d16 : (v19 16) = (.int .i64 0) := hdep { on := 16, ground := .data } (by simp) rfl
      show Gives _ _ _ 19 (.val (.int .i64 0)) _ _
      exact gives_move ho (wanted_none rfl _) (.inr rfl) ((eval_dst (i := 16) (apart_of (by kernel_rfl)) rfl (Nat.le_of_ble_eq_true (by kernel_rfl))).trans d16)
  intro v19 w19 ht hv
  have e15 : v19 15 = (.bool true) := hv 15 (Nat.le_of_ble_eq_true (by kernel_rfl))
  have H19_17 := Lib.hid (show Rel.holds (.trees [(.node 2 1 [tY])]) (v19 17) w19 from hv 17 (Nat.le_of_ble_eq_true (by kernel_rfl)))
  have e18 : v19 18 = (.bool true) := hv 18 (Nat.le_of_ble_eq_true (by kernel_rfl))
  have e19 : v19 19 = (.int .i64 0) := hv 19 (Nat.le_of_ble_eq_true (by kernel_rfl))
  replace H16_11 := Lib.hid (Rel.turned _ _ _ _ H16_11.out ht)
  replace H16_12 := Lib.hid (Rel.turned _ _ _ _ H16_12.out ht)
  clear hv
  replace HB := Lib.hid (HB.out.turned ht)
  replace HT := Lib.hid (HT.out.trans ht (fun _ _ hf => hf))
  replace HX := Lib.hid (HX.out.turned ht)
  clear ht
  simp only [putAll, List.size_toArray, List.length_cons, List.length_nil, Nat.zero_add, Nat.reduceAdd, putN, dstOf, List.getElem?_toArray, List.getElem?_cons_zero, List.getElem?_cons_succ, Option.bind_some, Act.put, List.setIfInBounds_toArray, List.set_cons_zero, List.set_cons_succ, e15, e18, e19]
  clear e15 e18 e19
  go_upto_region 20 with fail
  refine wp_region_each (by kernel_rfl) (waits_of (by kernel_rfl)) (apart_of (by kernel_rfl)) (fun i => (([(.tree tX), (.tree tX), (.trees [tX, tX]), (.tree (.node 2 2 [tX, tX])), (.tree tZ), (.tree tZ), (.trees [tZ]), (.tree (.node 2 1 [tZ])), (.trees [tZ, (.node 2 1 [tZ])]), (.tree (.node 2 2 [tZ, (.node 2 1 [tZ])])), (.tup (.trees []) [(.bool false), (.int .i64 0)]), (.tup (.trees []) [(.bool false), (.int .i64 0)]), (.trees []), (.val (.bool false)), (.val (.int .i64 0)), (.trees []), (.val (.bool false)), (.val (.int .i64 0))] : List Rel)[i]?.getD (.val undef)).holds) (fun i x w1 w2 h t => Rel.turned _ x w1 w2 h t) ?_ ?_
  · intro i o ho v20 w20 ht hdep
    have hB7 := HB.out.turned ht
    have hX7 := HX.out.turned ht
    have hi : i < 18 := (Array.getElem?_eq_some_iff.1 ho).1
    obtain rfl | rfl | rfl | rfl | rfl | rfl | rfl | rfl | rfl | rfl | rfl | rfl | rfl | rfl | rfl | rfl | rfl | rfl := (show i = 0 ∨ i = 1 ∨ i = 2 ∨ i = 3 ∨ i = 4 ∨ i = 5 ∨ i = 6 ∨ i = 7 ∨ i = 8 ∨ i = 9 ∨ i = 10 ∨ i = 11 ∨ i = 12 ∨ i = 13 ∨ i = 14 ∨ i = 15 ∨ i = 16 ∨ i = 17 by omega)
    all_goals
      obtain rfl := Option.some.inj ho
      clear hi
    · show Gives _ _ _ 0 (.tree tX) _ _
      exact gives_leaf ho (wanted_none rfl _) rfl ((eval_other (fresh_of (by kernel_rfl))).trans rfl) hB7.k2
    · show Gives _ _ _ 1 (.tree tX) _ _
      exact gives_leaf ho (wanted_none rfl _) rfl ((eval_other (fresh_of (by kernel_rfl))).trans rfl) hB7.k2
    · have d0 : TmIn w20 tX (v20 0) := hdep { on := 0, ground := .data } (by simp) rfl
      have d1 : TmIn w20 tX (v20 1) := hdep { on := 1, ground := .data } (by simp) rfl
      show Gives _ _ _ 2 (.trees [tX, tX]) _ _
      exact gives_trees2 ho (wanted_none rfl _) rfl (by rw [eval_dst (i := 0) (apart_of (by kernel_rfl)) rfl (Nat.le_of_ble_eq_true (by kernel_rfl))]; exact d0) (by rw [eval_dst (i := 1) (apart_of (by kernel_rfl)) rfl (Nat.le_of_ble_eq_true (by kernel_rfl))]; exact d1)
    · have d2 : RowTm w20 (v20 2) [tX, tX] := hdep { on := 2, ground := .data } (by simp) rfl
      show Gives _ _ _ 3 (.tree (.node 2 2 [tX, tX])) _ _
      exact gives_node ho (wanted_none rfl _) rfl (by rw [eval_dst (i := 2) (apart_of (by kernel_rfl)) rfl (Nat.le_of_ble_eq_true (by kernel_rfl))]; exact d2)
    · show Gives _ _ _ 4 (.tree tZ) _ _
      exact gives_leaf ho (wanted_none rfl _) rfl ((eval_other (fresh_of (by kernel_rfl))).trans rfl) hB7.k4
    · show Gives _ _ _ 5 (.tree tZ) _ _
      exact gives_leaf ho (wanted_none rfl _) rfl ((eval_other (fresh_of (by kernel_rfl))).trans rfl) hB7.k4
    · have d5 : TmIn w20 tZ (v20 5) := hdep { on := 5, ground := .data } (by simp) rfl
      show Gives _ _ _ 6 (.trees [tZ]) _ _
      exact gives_trees1 ho (wanted_none rfl _) rfl (by rw [eval_dst (i := 5) (apart_of (by kernel_rfl)) rfl (Nat.le_of_ble_eq_true (by kernel_rfl))]; exact d5)
    · have d6 : RowTm w20 (v20 6) [tZ] := hdep { on := 6, ground := .data } (by simp) rfl
      show Gives _ _ _ 7 (.tree (.node 2 1 [tZ])) _ _
      exact gives_node ho (wanted_none rfl _) rfl (by rw [eval_dst (i := 6) (apart_of (by kernel_rfl)) rfl (Nat.le_of_ble_eq_true (by kernel_rfl))]; exact d6)
    · have d4 : TmIn w20 tZ (v20 4) := hdep { on := 4, ground := .data } (by simp) rfl
      have d7 : TmIn w20 (.node 2 1 [tZ]) (v20 7) := hdep { on := 7, ground := .data } (by simp) rfl
      show Gives _ _ _ 8 (.trees [tZ, (.node 2 1 [tZ])]) _ _
      exact gives_trees2 ho (wanted_none rfl _) rfl (by rw [eval_dst (i := 4) (apart_of (by kernel_rfl)) rfl (Nat.le_of_ble_eq_true (by kernel_rfl))]; exact d4) (by rw [eval_dst (i := 7) (apart_of (by kernel_rfl)) rfl (Nat.le_of_ble_eq_true (by kernel_rfl))]; exact d7)
    · have d8 : RowTm w20 (v20 8) [tZ, (.node 2 1 [tZ])] := hdep { on := 8, ground := .data } (by simp) rfl
      show Gives _ _ _ 9 (.tree (.node 2 2 [tZ, (.node 2 1 [tZ])])) _ _
      exact gives_node ho (wanted_none rfl _) rfl (by rw [eval_dst (i := 8) (apart_of (by kernel_rfl)) rfl (Nat.le_of_ble_eq_true (by kernel_rfl))]; exact d8)
    · have d3 : TmIn w20 (.node 2 2 [tX, tX]) (v20 3) := hdep { on := 3, ground := .data } (by simp) rfl
      have d9 : TmIn w20 (.node 2 2 [tZ, (.node 2 1 [tZ])]) (v20 9) := hdep { on := 9, ground := .data } (by simp) rfl
      show Gives _ _ _ 10 (.tup (.trees []) [(.bool false), (.int .i64 0)]) _ _
      refine gives_fn (vs := #[v20 3, v20 9]) ho (wanted_none rfl _) rfl ?_ (Go.Proofs.enters_of Try.func35 (by kernel_rfl) rfl) ?_
      · simp only [List.map_toArray, List.map_cons, List.map_nil]
        rw [eval_dst (i := 3) (apart_of (by kernel_rfl)) rfl (Nat.le_of_ble_eq_true (by kernel_rfl)), eval_dst (i := 9) (apart_of (by kernel_rfl)) rfl (Nat.le_of_ble_eq_true (by kernel_rfl))]
      · exact c_match2 _ _ _ d3 d9
    · have d10 : (Rel.holds (.tup (.trees []) [(.bool false), (.int .i64 0)]) (v20 10) w20) := hdep { on := 10, ground := .data } (by simp) rfl
      show Gives _ _ _ 11 (.tup (.trees []) [(.bool false), (.int .i64 0)]) _ _
      exact gives_move ho (wanted_none rfl _) (.inl rfl) (by rw [eval_dst (i := 10) (apart_of (by kernel_rfl)) rfl (Nat.le_of_ble_eq_true (by kernel_rfl))]; exact d10)
    · have d11 : (Rel.holds (.tup (.trees []) [(.bool false), (.int .i64 0)]) (v20 11) w20) := hdep { on := 11, ground := .data } (by simp) rfl
      show Gives _ _ _ 12 (.trees []) _ _
      exact gives_get0 ho (wanted_none rfl _) rfl (by rw [eval_dst (i := 11) (apart_of (by kernel_rfl)) rfl (Nat.le_of_ble_eq_true (by kernel_rfl))]; exact d11)
    · have d11 : (Rel.holds (.tup (.trees []) [(.bool false), (.int .i64 0)]) (v20 11) w20) := hdep { on := 11, ground := .data } (by simp) rfl
      show Gives _ _ _ 13 (.val (.bool false)) _ _
      exact gives_getk ho (wanted_none rfl _) rfl (by rw [eval_dst (i := 11) (apart_of (by kernel_rfl)) rfl (Nat.le_of_ble_eq_true (by kernel_rfl))]; exact d11) rfl
    · have d11 : (Rel.holds (.tup (.trees []) [(.bool false), (.int .i64 0)]) (v20 11) w20) := hdep { on := 11, ground := .data } (by simp) rfl
      show Gives _ _ _ 14 (.val (.int .i64 0)) _ _
      exact gives_getk ho (wanted_none rfl _) rfl (by rw [eval_dst (i := 11) (apart_of (by kernel_rfl)) rfl (Nat.le_of_ble_eq_true (by kernel_rfl))]; exact d11) rfl
    · have d12 : RowTm w20 (v20 12) [] := hdep { on := 12, ground := .data } (by simp) rfl
      show Gives _ _ _ 15 (.trees []) _ _
      exact gives_move ho (wanted_none rfl _) (.inr rfl) (by rw [eval_dst (i := 12) (apart_of (by kernel_rfl)) rfl (Nat.le_of_ble_eq_true (by kernel_rfl))]; exact d12)
    · have d13 : (v20 13) = (.bool false) := hdep { on := 13, ground := .data } (by simp) rfl
      show Gives _ _ _ 16 (.val (.bool false)) _ _
      exact gives_move ho (wanted_none rfl _) (.inr rfl) ((eval_dst (i := 13) (apart_of (by kernel_rfl)) rfl (Nat.le_of_ble_eq_true (by kernel_rfl))).trans d13)
    · have d14 : (v20 14) = (.int .i64 0) := hdep { on := 14, ground := .data } (by simp) rfl
      show Gives _ _ _ 17 (.val (.int .i64 0)) _ _
      exact gives_move ho (wanted_none rfl _) (.inr rfl) ((eval_dst (i := 14) (apart_of (by kernel_rfl)) rfl (Nat.le_of_ble_eq_true (by kernel_rfl))).trans d14)
  intro v20 w20 ht hv
  have e13 : v20 13 = (.bool false) := hv 13 (Nat.le_of_ble_eq_true (by kernel_rfl))
  have H20_15 := Lib.hid (show Rel.holds (.trees []) (v20 15) w20 from hv 15 (Nat.le_of_ble_eq_true (by kernel_rfl)))
  have e16 : v20 16 = (.bool false) := hv 16 (Nat.le_of_ble_eq_true (by kernel_rfl))
  have e17 : v20 17 = (.int .i64 0) := hv 17 (Nat.le_of_ble_eq_true (by kernel_rfl))
  replace H16_11 := Lib.hid (Rel.turned _ _ _ _ H16_11.out ht)
  replace H16_12 := Lib.hid (Rel.turned _ _ _ _ H16_12.out ht)
  replace H19_17 := Lib.hid (Rel.turned _ _ _ _ H19_17.out ht)
  clear hv
  replace HB := Lib.hid (HB.out.turned ht)
  replace HT := Lib.hid (HT.out.trans ht (fun _ _ hf => hf))
  replace HX := Lib.hid (HX.out.turned ht)
  clear ht
  simp only [putAll, List.size_toArray, List.length_cons, List.length_nil, Nat.zero_add, Nat.reduceAdd, putN, dstOf, List.getElem?_toArray, List.getElem?_cons_zero, List.getElem?_cons_succ, Option.bind_some, Act.put, List.setIfInBounds_toArray, List.set_cons_zero, List.set_cons_succ, e13, e16, e17]
  clear e13 e16 e17
  go_upto_region 21 with fail
  refine wp_region_seq (waits_of (by kernel_rfl)) (apart_of (by kernel_rfl)) (fun i => (([(.val (.int .i64 0)), (.val (.bool false)), (.val (.bool false)), (.val (.bool true)), (.val (.bool false)), (.val (.bool false)), (.val (.bool false)), (.trees [(.node 2 1 [tY])]), (.tree tY), (.trees [tY]), (.tree (.node 2 1 [tY])), (.trees [(.node 2 1 [tY])]), (.val (.bool true)), (.val (.bool false)), (.val (.bool false)), (.val (.bool false)), (.val (.int .i64 0)), (.val (.bool false)), (.val (.bool false)), (.val (.bool false)), (.val (.bool false)), (.val (.bool false))] : List Rel)[i]?.getD (.val undef)).holds) (fun i x w1 w2 h t => Rel.turned _ x w1 w2 h t) ?_ ?_
  · intro i o ho v21 w21 ht hdep
    have hB7 := HB.out.turned ht
    have hX7 := HX.out.turned ht
    have hi : i < 22 := (Array.getElem?_eq_some_iff.1 ho).1
    obtain rfl | rfl | rfl | rfl | rfl | rfl | rfl | rfl | rfl | rfl | rfl | rfl | rfl | rfl | rfl | rfl | rfl | rfl | rfl | rfl | rfl | rfl := (show i = 0 ∨ i = 1 ∨ i = 2 ∨ i = 3 ∨ i = 4 ∨ i = 5 ∨ i = 6 ∨ i = 7 ∨ i = 8 ∨ i = 9 ∨ i = 10 ∨ i = 11 ∨ i = 12 ∨ i = 13 ∨ i = 14 ∨ i = 15 ∨ i = 16 ∨ i = 17 ∨ i = 18 ∨ i = 19 ∨ i = 20 ∨ i = 21 by omega)
    all_goals
      obtain rfl := Option.some.inj ho
      clear hi
    · show Gives _ _ _ 0 (.val (.int .i64 0)) _ _
      exact gives_move ho (wanted_none rfl _) (.inl rfl) ((eval_other (fresh_of (by kernel_rfl))).trans rfl)
    · have d0 : (v21 0) = (.int .i64 0) := hdep { on := 0, ground := .data } (by simp) rfl
      show Gives _ _ _ 1 (.val (.bool false)) _ _
      exact gives_bin ho (wanted_none rfl _) rfl ((eval_dst (i := 0) (apart_of (by kernel_rfl)) rfl (Nat.le_of_ble_eq_true (by kernel_rfl))).trans d0) rfl (fun _ => by kernel_rfl)
    · have d1 : (v21 1) = (.bool false) := hdep { on := 1, ground := .data } (by simp) rfl
      show Gives _ _ _ 2 (.val (.bool false)) _ _
      exact gives_move ho (wanted_none rfl _) (.inl rfl) ((eval_dst (i := 1) (apart_of (by kernel_rfl)) rfl (Nat.le_of_ble_eq_true (by kernel_rfl))).trans d1)
    · have d2 : (v21 2) = (.bool false) := hdep { on := 2, ground := .guard } (by simp) rfl
      show Gives _ _ _ 3 (.val (.bool true)) _ _
      refine gives_move ho ?_ (.inl rfl) ((eval_other (fresh_of (by kernel_rfl))).trans rfl)
      exact want_yes (g := 2) (d := 268) (b := false) (apart_of (by kernel_rfl)) rfl rfl (Nat.le_of_ble_eq_true (by kernel_rfl)) d2
    · have d2 : (v21 2) = (.bool false) := hdep { on := 2, ground := .guard } (by simp) rfl
      have d3 : (v21 3) = (.bool true) := hdep { on := 3, ground := .data } (by simp) rfl
      show Gives _ _ _ 4 (.val (.bool false)) _ _
      refine gives_un ho ?_ rfl ((eval_dst (i := 3) (apart_of (by kernel_rfl)) rfl (Nat.le_of_ble_eq_true (by kernel_rfl))).trans d3) (fun _ => by kernel_rfl)
      exact want_yes (g := 2) (d := 268) (b := false) (apart_of (by kernel_rfl)) rfl rfl (Nat.le_of_ble_eq_true (by kernel_rfl)) d2
    · have d2 : (v21 2) = (.bool false) := hdep { on := 2, ground := .data } (by simp) rfl
      have d4 : (v21 4) = (.bool false) := hdep { on := 4, ground := .data } (by simp) rfl
      show Gives _ _ _ 5 (.val (.bool false)) _ _
      exact gives_pick_f ho (wanted_none rfl _) rfl ((eval_dst (i := 2) (apart_of (by kernel_rfl)) rfl (Nat.le_of_ble_eq_true (by kernel_rfl))).trans d2) ((eval_dst (i := 4) (apart_of (by kernel_rfl)) rfl (Nat.le_of_ble_eq_true (by kernel_rfl))).trans d4)
    · have d5 : (v21 5) = (.bool false) := hdep { on := 5, ground := .data } (by simp) rfl
      show Gives _ _ _ 6 (.val (.bool false)) _ _
      exact gives_move ho (wanted_none rfl _) (.inl rfl) ((eval_dst (i := 5) (apart_of (by kernel_rfl)) rfl (Nat.le_of_ble_eq_true (by kernel_rfl))).trans d5)
    · have d6 : (v21 6) = (.bool false) := hdep { on := 6, ground := .guard } (by simp) rfl
      show Gives _ _ _ 7 (.trees [(.node 2 1 [tY])]) _ _
      refine gives_move ho ?_ (.inl rfl) (by rw [eval_other (fresh_of (by kernel_rfl))]; exact Rel.turned _ _ _ _ H19_17.out ht)
      exact want_yes (g := 6) (d := 272) (b := false) (apart_of (by kernel_rfl)) rfl rfl (Nat.le_of_ble_eq_true (by kernel_rfl)) d6
    · have d6 : (v21 6) = (.bool false) := hdep { on := 6, ground := .guard } (by simp) rfl
      show Gives _ _ _ 8 (.tree tY) _ _
      refine gives_leaf ho ?_ rfl ((eval_other (fresh_of (by kernel_rfl))).trans rfl) hB7.k3
      exact want_yes (g := 6) (d := 272) (b := false) (apart_of (by kernel_rfl)) rfl rfl (Nat.le_of_ble_eq_true (by kernel_rfl)) d6
    · have d6 : (v21 6) = (.bool false) := hdep { on := 6, ground := .guard } (by simp) rfl
      have d8 : TmIn w21 tY (v21 8) := hdep { on := 8, ground := .data } (by simp) rfl
      show Gives _ _ _ 9 (.trees [tY]) _ _
      refine gives_trees1 ho ?_ rfl (by rw [eval_dst (i := 8) (apart_of (by kernel_rfl)) rfl (Nat.le_of_ble_eq_true (by kernel_rfl))]; exact d8)
      exact want_yes (g := 6) (d := 272) (b := false) (apart_of (by kernel_rfl)) rfl rfl (Nat.le_of_ble_eq_true (by kernel_rfl)) d6
    · have d6 : (v21 6) = (.bool false) := hdep { on := 6, ground := .guard } (by simp) rfl
      have d9 : RowTm w21 (v21 9) [tY] := hdep { on := 9, ground := .data } (by simp) rfl
      show Gives _ _ _ 10 (.tree (.node 2 1 [tY])) _ _
      refine gives_node ho ?_ rfl (by rw [eval_dst (i := 9) (apart_of (by kernel_rfl)) rfl (Nat.le_of_ble_eq_true (by kernel_rfl))]; exact d9)
      exact want_yes (g := 6) (d := 272) (b := false) (apart_of (by kernel_rfl)) rfl rfl (Nat.le_of_ble_eq_true (by kernel_rfl)) d6
    · have d6 : (v21 6) = (.bool false) := hdep { on := 6, ground := .guard } (by simp) rfl
      have d10 : TmIn w21 (.node 2 1 [tY]) (v21 10) := hdep { on := 10, ground := .data } (by simp) rfl
      show Gives _ _ _ 11 (.trees [(.node 2 1 [tY])]) _ _
      refine gives_trees1 ho ?_ rfl (by rw [eval_dst (i := 10) (apart_of (by kernel_rfl)) rfl (Nat.le_of_ble_eq_true (by kernel_rfl))]; exact d10)
      exact want_yes (g := 6) (d := 272) (b := false) (apart_of (by kernel_rfl)) rfl rfl (Nat.le_of_ble_eq_true (by kernel_rfl)) d6
    · have d6 : (v21 6) = (.bool false) := hdep { on := 6, ground := .guard } (by simp) rfl
      have d7 : RowTm w21 (v21 7) [(.node 2 1 [tY])] := hdep { on := 7, ground := .data } (by simp) rfl
      have d11 : RowTm w21 (v21 11) [(.node 2 1 [tY])] := hdep { on := 11, ground := .data } (by simp) rfl
      show Gives _ _ _ 12 (.val (.bool true)) _ _
      refine gives_fn (vs := #[v21 7, v21 11]) ho ?_ rfl ?_ (Go.Proofs.enters_of Try.func23 (by kernel_rfl) rfl) ?_
      · exact want_yes (g := 6) (d := 272) (b := false) (apart_of (by kernel_rfl)) rfl rfl (Nat.le_of_ble_eq_true (by kernel_rfl)) d6
      · simp only [List.map_toArray, List.map_cons, List.map_nil]
        rw [eval_dst (i := 7) (apart_of (by kernel_rfl)) rfl (Nat.le_of_ble_eq_true (by kernel_rfl)), eval_dst (i := 11) (apart_of (by kernel_rfl)) rfl (Nat.le_of_ble_eq_true (by kernel_rfl))]
      · exact (c_sameAll [(.node 2 1 [tY])] [(.node 2 1 [tY])] true (by decide +kernel)) _ _ _ d7 d11
    · have d6 : (v21 6) = (.bool false) := hdep { on := 6, ground := .guard } (by simp) rfl
      have d12 : (v21 12) = (.bool true) := hdep { on := 12, ground := .data } (by simp) rfl
      show Gives _ _ _ 13 (.val (.bool false)) _ _
      refine gives_un ho ?_ rfl ((eval_dst (i := 12) (apart_of (by kernel_rfl)) rfl (Nat.le_of_ble_eq_true (by kernel_rfl))).trans d12) (fun _ => by kernel_rfl)
      exact want_yes (g := 6) (d := 272) (b := false) (apart_of (by kernel_rfl)) rfl rfl (Nat.le_of_ble_eq_true (by kernel_rfl)) d6
    · have d6 : (v21 6) = (.bool false) := hdep { on := 6, ground := .data } (by simp) rfl
      have d13 : (v21 13) = (.bool false) := hdep { on := 13, ground := .data } (by simp) rfl
      show Gives _ _ _ 14 (.val (.bool false)) _ _
      exact gives_pick_f ho (wanted_none rfl _) rfl ((eval_dst (i := 6) (apart_of (by kernel_rfl)) rfl (Nat.le_of_ble_eq_true (by kernel_rfl))).trans d6) ((eval_dst (i := 13) (apart_of (by kernel_rfl)) rfl (Nat.le_of_ble_eq_true (by kernel_rfl))).trans d13)
    · have d14 : (v21 14) = (.bool false) := hdep { on := 14, ground := .data } (by simp) rfl
      show Gives _ _ _ 15 (.val (.bool false)) _ _
      exact gives_move ho (wanted_none rfl _) (.inl rfl) ((eval_dst (i := 14) (apart_of (by kernel_rfl)) rfl (Nat.le_of_ble_eq_true (by kernel_rfl))).trans d14)
    · have d15 : (v21 15) = (.bool false) := hdep { on := 15, ground := .guard } (by simp) rfl
      show Gives _ _ _ 16 (.val (.int .i64 0)) _ _
      refine gives_move ho ?_ (.inl rfl) ((eval_other (fresh_of (by kernel_rfl))).trans rfl)
      exact want_yes (g := 15) (d := 281) (b := false) (apart_of (by kernel_rfl)) rfl rfl (Nat.le_of_ble_eq_true (by kernel_rfl)) d15
    · have d15 : (v21 15) = (.bool false) := hdep { on := 15, ground := .guard } (by simp) rfl
      have d16 : (v21 16) = (.int .i64 0) := hdep { on := 16, ground := .data } (by simp) rfl
      show Gives _ _ _ 17 (.val (.bool false)) _ _
      refine gives_bin ho ?_ rfl ((eval_dst (i := 16) (apart_of (by kernel_rfl)) rfl (Nat.le_of_ble_eq_true (by kernel_rfl))).trans d16) rfl (fun _ => by kernel_rfl)
      exact want_yes (g := 15) (d := 281) (b := false) (apart_of (by kernel_rfl)) rfl rfl (Nat.le_of_ble_eq_true (by kernel_rfl)) d15
    · have d15 : (v21 15) = (.bool false) := hdep { on := 15, ground := .data } (by simp) rfl
      have d17 : (v21 17) = (.bool false) := hdep { on := 17, ground := .data } (by simp) rfl
      show Gives _ _ _ 18 (.val (.bool false)) _ _
      exact gives_pick_f ho (wanted_none rfl _) rfl ((eval_dst (i := 15) (apart_of (by kernel_rfl)) rfl (Nat.le_of_ble_eq_true (by kernel_rfl))).trans d15) ((eval_dst (i := 17) (apart_of (by kernel_rfl)) rfl (Nat.le_of_ble_eq_true (by kernel_rfl))).trans d17)
    · have d18 : (v21 18) = (.bool false) := hdep { on := 18, ground := .data } (by simp) rfl
      show Gives _ _ _ 19 (.val (.bool false)) _ _
      exact gives_move ho (wanted_none rfl _) (.inl rfl) ((eval_dst (i := 18) (apart_of (by kernel_rfl)) rfl (Nat.le_of_ble_eq_true (by kernel_rfl))).trans d18)
    · have d19 : (v21 19) = (.bool false) := hdep { on := 19, ground := .guard } (by simp) rfl
      show Gives _ _ _ 20 (.val (.bool false)) _ _
      refine gives_move ho ?_ (.inl rfl) ((eval_other (fresh_of (by kernel_rfl))).trans rfl)
      exact want_yes (g := 19) (d := 285) (b := false) (apart_of (by kernel_rfl)) rfl rfl (Nat.le_of_ble_eq_true (by kernel_rfl)) d19
    · have d19 : (v21 19) = (.bool false) := hdep { on := 19, ground := .data } (by simp) rfl
      have d20 : (v21 20) = (.bool false) := hdep { on := 20, ground := .data } (by simp) rfl
      show Gives _ _ _ 21 (.val (.bool false)) _ _
      exact gives_pick_f ho (wanted_none rfl _) rfl ((eval_dst (i := 19) (apart_of (by kernel_rfl)) rfl (Nat.le_of_ble_eq_true (by kernel_rfl))).trans d19) ((eval_dst (i := 20) (apart_of (by kernel_rfl)) rfl (Nat.le_of_ble_eq_true (by kernel_rfl))).trans d20)
  intro v21 w21 ht hv
  have e1 : v21 1 = (.bool false) := hv 1 (Nat.le_of_ble_eq_true (by kernel_rfl))
  have e2 : v21 2 = (.bool false) := hv 2 (Nat.le_of_ble_eq_true (by kernel_rfl))
  have e3 : v21 3 = (.bool true) := hv 3 (Nat.le_of_ble_eq_true (by kernel_rfl))
  have e4 : v21 4 = (.bool false) := hv 4 (Nat.le_of_ble_eq_true (by kernel_rfl))
  have e5 : v21 5 = (.bool false) := hv 5 (Nat.le_of_ble_eq_true (by kernel_rfl))
  have e6 : v21 6 = (.bool false) := hv 6 (Nat.le_of_ble_eq_true (by kernel_rfl))
  have e12 : v21 12 = (.bool true) := hv 12 (Nat.le_of_ble_eq_true (by kernel_rfl))
  have e13 : v21 13 = (.bool false) := hv 13 (Nat.le_of_ble_eq_true (by kernel_rfl))
  have e14 : v21 14 = (.bool false) := hv 14 (Nat.le_of_ble_eq_true (by kernel_rfl))
  have e15 : v21 15 = (.bool false) := hv 15 (Nat.le_of_ble_eq_true (by kernel_rfl))
  have e17 : v21 17 = (.bool false) := hv 17 (Nat.le_of_ble_eq_true (by kernel_rfl))
  have e18 : v21 18 = (.bool false) := hv 18 (Nat.le_of_ble_eq_true (by kernel_rfl))
  have e19 : v21 19 = (.bool false) := hv 19 (Nat.le_of_ble_eq_true (by kernel_rfl))
  have e20 : v21 20 = (.bool false) := hv 20 (Nat.le_of_ble_eq_true (by kernel_rfl))
  have e21 : v21 21 = (.bool false) := hv 21 (Nat.le_of_ble_eq_true (by kernel_rfl))
  replace H16_11 := Lib.hid (Rel.turned _ _ _ _ H16_11.out ht)
  replace H16_12 := Lib.hid (Rel.turned _ _ _ _ H16_12.out ht)
  replace H19_17 := Lib.hid (Rel.turned _ _ _ _ H19_17.out ht)
  replace H20_15 := Lib.hid (Rel.turned _ _ _ _ H20_15.out ht)
  clear hv
  replace HB := Lib.hid (HB.out.turned ht)
  replace HT := Lib.hid (HT.out.trans ht (fun _ _ hf => hf))
  replace HX := Lib.hid (HX.out.turned ht)
  clear ht
  simp only [putAll, List.size_toArray, List.length_cons, List.length_nil, Nat.zero_add, Nat.reduceAdd, putN, dstOf, List.getElem?_toArray, List.getElem?_cons_zero, List.getElem?_cons_succ, Option.bind_some, Act.put, List.setIfInBounds_toArray, List.set_cons_zero, List.set_cons_succ, e1, e2, e3, e4, e5, e6, e12, e13, e14, e15, e17, e18, e19, e20, e21]
  clear e1 e2 e3 e4 e5 e6 e12 e13 e14 e15 e17 e18 e19 e20 e21
  go_upto_region 23 with fail
  refine wp_region_each (by kernel_rfl) (waits_of (by kernel_rfl)) (apart_of (by kernel_rfl)) (fun i => (([(.tree tX), (.tree tX), (.trees [tX]), (.tree (.node 2 1 [tX])), (.trees [tX, (.node 2 1 [tX])]), (.tree (.node 2 2 [tX, (.node 2 1 [tX])])), (.tree tY), (.trees [tY]), (.tree (.node 2 1 [tY])), (.tree (.node 1 2 [])), (.trees [(.node 2 1 [tY]), (.node 1 2 [])]), (.tree (.node 2 2 [(.node 2 1 [tY]), (.node 1 2 [])])), (.tup (.trees [(.node 2 1 [tY]), tY, (.node 2 1 [(.node 2 1 [tY])])]) [(.bool true), (.int .i64 0)]), (.tup (.trees [(.node 2 1 [tY]), tY, (.node 2 1 [(.node 2 1 [tY])])]) [(.bool true), (.int .i64 0)]), (.trees [(.node 2 1 [tY]), tY, (.node 2 1 [(.node 2 1 [tY])])]), (.val (.bool true)), (.val (.int .i64 0)), (.trees [(.node 2 1 [tY]), tY, (.node 2 1 [(.node 2 1 [tY])])]), (.val (.bool true)), (.val (.int .i64 0))] : List Rel)[i]?.getD (.val undef)).holds) (fun i x w1 w2 h t => Rel.turned _ x w1 w2 h t) ?_ ?_
  · intro i o ho v23 w22 ht hdep
    have hB7 := HB.out.turned ht
    have hX7 := HX.out.turned ht
    have hi : i < 20 := (Array.getElem?_eq_some_iff.1 ho).1
    obtain rfl | rfl | rfl | rfl | rfl | rfl | rfl | rfl | rfl | rfl | rfl | rfl | rfl | rfl | rfl | rfl | rfl | rfl | rfl | rfl := (show i = 0 ∨ i = 1 ∨ i = 2 ∨ i = 3 ∨ i = 4 ∨ i = 5 ∨ i = 6 ∨ i = 7 ∨ i = 8 ∨ i = 9 ∨ i = 10 ∨ i = 11 ∨ i = 12 ∨ i = 13 ∨ i = 14 ∨ i = 15 ∨ i = 16 ∨ i = 17 ∨ i = 18 ∨ i = 19 by omega)
    all_goals
      obtain rfl := Option.some.inj ho
      clear hi
    · show Gives _ _ _ 0 (.tree tX) _ _
      exact gives_leaf ho (wanted_none rfl _) rfl ((eval_other (fresh_of (by kernel_rfl))).trans rfl) hB7.k2
    · show Gives _ _ _ 1 (.tree tX) _ _
      exact gives_leaf ho (wanted_none rfl _) rfl ((eval_other (fresh_of (by kernel_rfl))).trans rfl) hB7.k2
    · have d1 : TmIn w22 tX (v23 1) := hdep { on := 1, ground := .data } (by simp) rfl
      show Gives _ _ _ 2 (.trees [tX]) _ _
      exact gives_trees1 ho (wanted_none rfl _) rfl (by rw [eval_dst (i := 1) (apart_of (by kernel_rfl)) rfl (Nat.le_of_ble_eq_true (by kernel_rfl))]; exact d1)
    · have d2 : RowTm w22 (v23 2) [tX] := hdep { on := 2, ground := .data } (by simp) rfl
      show Gives _ _ _ 3 (.tree (.node 2 1 [tX])) _ _
      exact gives_node ho (wanted_none rfl _) rfl (by rw [eval_dst (i := 2) (apart_of (by kernel_rfl)) rfl (Nat.le_of_ble_eq_true (by kernel_rfl))]; exact d2)
    · have d0 : TmIn w22 tX (v23 0) := hdep { on := 0, ground := .data } (by simp) rfl
      have d3 : TmIn w22 (.node 2 1 [tX]) (v23 3) := hdep { on := 3, ground := .data } (by simp) rfl
      show Gives _ _ _ 4 (.trees [tX, (.node 2 1 [tX])]) _ _
      exact gives_trees2 ho (wanted_none rfl _) rfl (by rw [eval_dst (i := 0) (apart_of (by kernel_rfl)) rfl (Nat.le_of_ble_eq_true (by kernel_rfl))]; exact d0) (by rw [eval_dst (i := 3) (apart_of (by kernel_rfl)) rfl (Nat.le_of_ble_eq_true (by kernel_rfl))]; exact d3)
    · have d4 : RowTm w22 (v23 4) [tX, (.node 2 1 [tX])] := hdep { on := 4, ground := .data } (by simp) rfl
      show Gives _ _ _ 5 (.tree (.node 2 2 [tX, (.node 2 1 [tX])])) _ _
      exact gives_node ho (wanted_none rfl _) rfl (by rw [eval_dst (i := 4) (apart_of (by kernel_rfl)) rfl (Nat.le_of_ble_eq_true (by kernel_rfl))]; exact d4)
    · show Gives _ _ _ 6 (.tree tY) _ _
      exact gives_leaf ho (wanted_none rfl _) rfl ((eval_other (fresh_of (by kernel_rfl))).trans rfl) hB7.k3
    · have d6 : TmIn w22 tY (v23 6) := hdep { on := 6, ground := .data } (by simp) rfl
      show Gives _ _ _ 7 (.trees [tY]) _ _
      exact gives_trees1 ho (wanted_none rfl _) rfl (by rw [eval_dst (i := 6) (apart_of (by kernel_rfl)) rfl (Nat.le_of_ble_eq_true (by kernel_rfl))]; exact d6)
    · have d7 : RowTm w22 (v23 7) [tY] := hdep { on := 7, ground := .data } (by simp) rfl
      show Gives _ _ _ 8 (.tree (.node 2 1 [tY])) _ _
      exact gives_node ho (wanted_none rfl _) rfl (by rw [eval_dst (i := 7) (apart_of (by kernel_rfl)) rfl (Nat.le_of_ble_eq_true (by kernel_rfl))]; exact d7)
    · show Gives _ _ _ 9 (.tree (.node 1 2 [])) _ _
      refine gives_fn (vs := #[(.int .i64 2)]) ho (wanted_none rfl _) rfl ?_ (Go.Proofs.enters_of Try.func24 (by kernel_rfl) rfl) ?_
      · simp only [List.map_toArray, List.map_cons, List.map_nil]
        rfl
      · exact c_var 2 _
    · have d8 : TmIn w22 (.node 2 1 [tY]) (v23 8) := hdep { on := 8, ground := .data } (by simp) rfl
      have d9 : TmIn w22 (.node 1 2 []) (v23 9) := hdep { on := 9, ground := .data } (by simp) rfl
      show Gives _ _ _ 10 (.trees [(.node 2 1 [tY]), (.node 1 2 [])]) _ _
      exact gives_trees2 ho (wanted_none rfl _) rfl (by rw [eval_dst (i := 8) (apart_of (by kernel_rfl)) rfl (Nat.le_of_ble_eq_true (by kernel_rfl))]; exact d8) (by rw [eval_dst (i := 9) (apart_of (by kernel_rfl)) rfl (Nat.le_of_ble_eq_true (by kernel_rfl))]; exact d9)
    · have d10 : RowTm w22 (v23 10) [(.node 2 1 [tY]), (.node 1 2 [])] := hdep { on := 10, ground := .data } (by simp) rfl
      show Gives _ _ _ 11 (.tree (.node 2 2 [(.node 2 1 [tY]), (.node 1 2 [])])) _ _
      exact gives_node ho (wanted_none rfl _) rfl (by rw [eval_dst (i := 10) (apart_of (by kernel_rfl)) rfl (Nat.le_of_ble_eq_true (by kernel_rfl))]; exact d10)
    · have d5 : TmIn w22 (.node 2 2 [tX, (.node 2 1 [tX])]) (v23 5) := hdep { on := 5, ground := .data } (by simp) rfl
      have d11 : TmIn w22 (.node 2 2 [(.node 2 1 [tY]), (.node 1 2 [])]) (v23 11) := hdep { on := 11, ground := .data } (by simp) rfl
      show Gives _ _ _ 12 (.tup (.trees [(.node 2 1 [tY]), tY, (.node 2 1 [(.node 2 1 [tY])])]) [(.bool true), (.int .i64 0)]) _ _
      refine gives_fn (vs := #[v23 5, v23 11]) ho (wanted_none rfl _) rfl ?_ (Go.Proofs.enters_of Try.func27 (by kernel_rfl) rfl) ?_
      · simp only [List.map_toArray, List.map_cons, List.map_nil]
        rw [eval_dst (i := 5) (apart_of (by kernel_rfl)) rfl (Nat.le_of_ble_eq_true (by kernel_rfl)), eval_dst (i := 11) (apart_of (by kernel_rfl)) rfl (Nat.le_of_ble_eq_true (by kernel_rfl))]
      · exact HU1.out _ _ _ d5 d11
    · have d12 : (Rel.holds (.tup (.trees [(.node 2 1 [tY]), tY, (.node 2 1 [(.node 2 1 [tY])])]) [(.bool true), (.int .i64 0)]) (v23 12) w22) := hdep { on := 12, ground := .data } (by simp) rfl
      show Gives _ _ _ 13 (.tup (.trees [(.node 2 1 [tY]), tY, (.node 2 1 [(.node 2 1 [tY])])]) [(.bool true), (.int .i64 0)]) _ _
      exact gives_move ho (wanted_none rfl _) (.inl rfl) (by rw [eval_dst (i := 12) (apart_of (by kernel_rfl)) rfl (Nat.le_of_ble_eq_true (by kernel_rfl))]; exact d12)
    · have d13 : (Rel.holds (.tup (.trees [(.node 2 1 [tY]), tY, (.node 2 1 [(.node 2 1 [tY])])]) [(.bool true), (.int .i64 0)]) (v23 13) w22) := hdep { on := 13, ground := .data } (by simp) rfl
      show Gives _ _ _ 14 (.trees [(.node 2 1 [tY]), tY, (.node 2 1 [(.node 2 1 [tY])])]) _ _
      exact gives_get0 ho (wanted_none rfl _) rfl (by rw [eval_dst (i := 13) (apart_of (by kernel_rfl)) rfl (Nat.le_of_ble_eq_true (by kernel_rfl))]; exact d13)
    · have d13 : (Rel.holds (.tup (.trees [(.node 2 1 [tY]), tY, (.node 2 1 [(.node 2 1 [tY])])]) [(.bool true), (.int .i64 0)]) (v23 13) w22) := hdep { on := 13, ground := .data } (by simp) rfl
      show Gives _ _ _ 15 (.val (.bool true)) _ _
      exact gives_getk ho (wanted_none rfl _) rfl (by rw [eval_dst (i := 13) (apart_of (by kernel_rfl)) rfl (Nat.le_of_ble_eq_true (by kernel_rfl))]; exact d13) rfl
    · have d13 : (Rel.holds (.tup (.trees [(.node 2 1 [tY]), tY, (.node 2 1 [(.node 2 1 [tY])])]) [(.bool true), (.int .i64 0)]) (v23 13) w22) := hdep { on := 13, ground := .data } (by simp) rfl
      show Gives _ _ _ 16 (.val (.int .i64 0)) _ _
      exact gives_getk ho (wanted_none rfl _) rfl (by rw [eval_dst (i := 13) (apart_of (by kernel_rfl)) rfl (Nat.le_of_ble_eq_true (by kernel_rfl))]; exact d13) rfl
    · have d14 : RowTm w22 (v23 14) [(.node 2 1 [tY]), tY, (.node 2 1 [(.node 2 1 [tY])])] := hdep { on := 14, ground := .data } (by simp) rfl
      show Gives _ _ _ 17 (.trees [(.node 2 1 [tY]), tY, (.node 2 1 [(.node 2 1 [tY])])]) _ _
      exact gives_move ho (wanted_none rfl _) (.inr rfl) (by rw [eval_dst (i := 14) (apart_of (by kernel_rfl)) rfl (Nat.le_of_ble_eq_true (by kernel_rfl))]; exact d14)
    · have d15 : (v23 15) = (.bool true) := hdep { on := 15, ground := .data } (by simp) rfl
      show Gives _ _ _ 18 (.val (.bool true)) _ _
      exact gives_move ho (wanted_none rfl _) (.inr rfl) ((eval_dst (i := 15) (apart_of (by kernel_rfl)) rfl (Nat.le_of_ble_eq_true (by kernel_rfl))).trans d15)
    · have d16 : (v23 16) = (.int .i64 0) := hdep { on := 16, ground := .data } (by simp) rfl
      show Gives _ _ _ 19 (.val (.int .i64 0)) _ _
      exact gives_move ho (wanted_none rfl _) (.inr rfl) ((eval_dst (i := 16) (apart_of (by kernel_rfl)) rfl (Nat.le_of_ble_eq_true (by kernel_rfl))).trans d16)
  intro v23 w22 ht hv
  have e15 : v23 15 = (.bool true) := hv 15 (Nat.le_of_ble_eq_true (by kernel_rfl))
  have H23_17 := Lib.hid (show Rel.holds (.trees [(.node 2 1 [tY]), tY, (.node 2 1 [(.node 2 1 [tY])])]) (v23 17) w22 from hv 17 (Nat.le_of_ble_eq_true (by kernel_rfl)))
  have e18 : v23 18 = (.bool true) := hv 18 (Nat.le_of_ble_eq_true (by kernel_rfl))
  have e19 : v23 19 = (.int .i64 0) := hv 19 (Nat.le_of_ble_eq_true (by kernel_rfl))
  replace H16_11 := Lib.hid (Rel.turned _ _ _ _ H16_11.out ht)
  replace H16_12 := Lib.hid (Rel.turned _ _ _ _ H16_12.out ht)
  replace H19_17 := Lib.hid (Rel.turned _ _ _ _ H19_17.out ht)
  replace H20_15 := Lib.hid (Rel.turned _ _ _ _ H20_15.out ht)
  clear hv
  replace HB := Lib.hid (HB.out.turned ht)
  replace HT := Lib.hid (HT.out.trans ht (fun _ _ hf => hf))
  replace HX := Lib.hid (HX.out.turned ht)
  clear ht
  simp only [putAll, List.size_toArray, List.length_cons, List.length_nil, Nat.zero_add, Nat.reduceAdd, putN, dstOf, List.getElem?_toArray, List.getElem?_cons_zero, List.getElem?_cons_succ, Option.bind_some, Act.put, List.setIfInBounds_toArray, List.set_cons_zero, List.set_cons_succ, e15, e18, e19]
  clear e15 e18 e19
  go_upto_region 24 with fail
  refine wp_region_each (by kernel_rfl) (waits_of (by kernel_rfl)) (apart_of (by kernel_rfl)) (fun i => (([(.tree tX), (.tree tX), (.trees [tX]), (.tree (.node 2 1 [tX])), (.tup (.trees []) [(.bool false), (.int .i64 0)]), (.tup (.trees []) [(.bool false), (.int .i64 0)]), (.trees []), (.val (.bool false)), (.val (.int .i64 0)), (.val (.bool false)), (.val (.int .i64 0))] : List Rel)[i]?.getD (.val undef)).holds) (fun i x w1 w2 h t => Rel.turned _ x w1 w2 h t) ?_ ?_
  · intro i o ho v24 w23 ht hdep
    have hB7 := HB.out.turned ht
    have hX7 := HX.out.turned ht
    have hi : i < 11 := (Array.getElem?_eq_some_iff.1 ho).1
    obtain rfl | rfl | rfl | rfl | rfl | rfl | rfl | rfl | rfl | rfl | rfl := (show i = 0 ∨ i = 1 ∨ i = 2 ∨ i = 3 ∨ i = 4 ∨ i = 5 ∨ i = 6 ∨ i = 7 ∨ i = 8 ∨ i = 9 ∨ i = 10 by omega)
    all_goals
      obtain rfl := Option.some.inj ho
      clear hi
    · show Gives _ _ _ 0 (.tree tX) _ _
      exact gives_leaf ho (wanted_none rfl _) rfl ((eval_other (fresh_of (by kernel_rfl))).trans rfl) hB7.k2
    · show Gives _ _ _ 1 (.tree tX) _ _
      exact gives_leaf ho (wanted_none rfl _) rfl ((eval_other (fresh_of (by kernel_rfl))).trans rfl) hB7.k2
    · have d1 : TmIn w23 tX (v24 1) := hdep { on := 1, ground := .data } (by simp) rfl
      show Gives _ _ _ 2 (.trees [tX]) _ _
      exact gives_trees1 ho (wanted_none rfl _) rfl (by rw [eval_dst (i := 1) (apart_of (by kernel_rfl)) rfl (Nat.le_of_ble_eq_true (by kernel_rfl))]; exact d1)
    · have d2 : RowTm w23 (v24 2) [tX] := hdep { on := 2, ground := .data } (by simp) rfl
      show Gives _ _ _ 3 (.tree (.node 2 1 [tX])) _ _
      exact gives_node ho (wanted_none rfl _) rfl (by rw [eval_dst (i := 2) (apart_of (by kernel_rfl)) rfl (Nat.le_of_ble_eq_true (by kernel_rfl))]; exact d2)
    · have d0 : TmIn w23 tX (v24 0) := hdep { on := 0, ground := .data } (by simp) rfl
      have d3 : TmIn w23 (.node 2 1 [tX]) (v24 3) := hdep { on := 3, ground := .data } (by simp) rfl
      show Gives _ _ _ 4 (.tup (.trees []) [(.bool false), (.int .i64 0)]) _ _
      refine gives_fn (vs := #[v24 0, v24 3]) ho (wanted_none rfl _) rfl ?_ (Go.Proofs.enters_of Try.func27 (by kernel_rfl) rfl) ?_
      · simp only [List.map_toArray, List.map_cons, List.map_nil]
        rw [eval_dst (i := 0) (apart_of (by kernel_rfl)) rfl (Nat.le_of_ble_eq_true (by kernel_rfl)), eval_dst (i := 3) (apart_of (by kernel_rfl)) rfl (Nat.le_of_ble_eq_true (by kernel_rfl))]
      · exact HU2.out _ _ _ d0 d3
    · have d4 : (Rel.holds (.tup (.trees []) [(.bool false), (.int .i64 0)]) (v24 4) w23) := hdep { on := 4, ground := .data } (by simp) rfl
      show Gives _ _ _ 5 (.tup (.trees []) [(.bool false), (.int .i64 0)]) _ _
      exact gives_move ho (wanted_none rfl _) (.inl rfl) (by rw [eval_dst (i := 4) (apart_of (by kernel_rfl)) rfl (Nat.le_of_ble_eq_true (by kernel_rfl))]; exact d4)
    · have d5 : (Rel.holds (.tup (.trees []) [(.bool false), (.int .i64 0)]) (v24 5) w23) := hdep { on := 5, ground := .data } (by simp) rfl
      show Gives _ _ _ 6 (.trees []) _ _
      exact gives_get0 ho (wanted_none rfl _) rfl (by rw [eval_dst (i := 5) (apart_of (by kernel_rfl)) rfl (Nat.le_of_ble_eq_true (by kernel_rfl))]; exact d5)
    · have d5 : (Rel.holds (.tup (.trees []) [(.bool false), (.int .i64 0)]) (v24 5) w23) := hdep { on := 5, ground := .data } (by simp) rfl
      show Gives _ _ _ 7 (.val (.bool false)) _ _
      exact gives_getk ho (wanted_none rfl _) rfl (by rw [eval_dst (i := 5) (apart_of (by kernel_rfl)) rfl (Nat.le_of_ble_eq_true (by kernel_rfl))]; exact d5) rfl
    · have d5 : (Rel.holds (.tup (.trees []) [(.bool false), (.int .i64 0)]) (v24 5) w23) := hdep { on := 5, ground := .data } (by simp) rfl
      show Gives _ _ _ 8 (.val (.int .i64 0)) _ _
      exact gives_getk ho (wanted_none rfl _) rfl (by rw [eval_dst (i := 5) (apart_of (by kernel_rfl)) rfl (Nat.le_of_ble_eq_true (by kernel_rfl))]; exact d5) rfl
    · have d7 : (v24 7) = (.bool false) := hdep { on := 7, ground := .data } (by simp) rfl
      show Gives _ _ _ 9 (.val (.bool false)) _ _
      exact gives_move ho (wanted_none rfl _) (.inr rfl) ((eval_dst (i := 7) (apart_of (by kernel_rfl)) rfl (Nat.le_of_ble_eq_true (by kernel_rfl))).trans d7)
    · have d8 : (v24 8) = (.int .i64 0) := hdep { on := 8, ground := .data } (by simp) rfl
      show Gives _ _ _ 10 (.val (.int .i64 0)) _ _
      exact gives_move ho (wanted_none rfl _) (.inr rfl) ((eval_dst (i := 8) (apart_of (by kernel_rfl)) rfl (Nat.le_of_ble_eq_true (by kernel_rfl))).trans d8)
  intro v24 w23 ht hv
  have e7 : v24 7 = (.bool false) := hv 7 (Nat.le_of_ble_eq_true (by kernel_rfl))
  have e9 : v24 9 = (.bool false) := hv 9 (Nat.le_of_ble_eq_true (by kernel_rfl))
  have e10 : v24 10 = (.int .i64 0) := hv 10 (Nat.le_of_ble_eq_true (by kernel_rfl))
  replace H16_11 := Lib.hid (Rel.turned _ _ _ _ H16_11.out ht)
  replace H16_12 := Lib.hid (Rel.turned _ _ _ _ H16_12.out ht)
  replace H19_17 := Lib.hid (Rel.turned _ _ _ _ H19_17.out ht)
  replace H20_15 := Lib.hid (Rel.turned _ _ _ _ H20_15.out ht)
  replace H23_17 := Lib.hid (Rel.turned _ _ _ _ H23_17.out ht)
  clear hv
  replace HB := Lib.hid (HB.out.turned ht)
  replace HT := Lib.hid (HT.out.trans ht (fun _ _ hf => hf))
  replace HX := Lib.hid (HX.out.turned ht)
  clear ht
  simp only [putAll, List.size_toArray, List.length_cons, List.length_nil, Nat.zero_add, Nat.reduceAdd, putN, dstOf, List.getElem?_toArray, List.getElem?_cons_zero, List.getElem?_cons_succ, Option.bind_some, Act.put, List.setIfInBounds_toArray, List.set_cons_zero, List.set_cons_succ, e7, e9, e10]
  clear e7 e9 e10
  go_upto_region 25 with fail
  refine wp_region_each (by kernel_rfl) (waits_of (by kernel_rfl)) (apart_of (by kernel_rfl)) (fun i => (([(.val (.int .i64 0)), (.val (.bool true)), (.val (.bool true)), (.val (.bool true)), (.val (.bool true)), (.val (.bool true)), (.trees [(.node 2 1 [tY]), tY, (.node 2 1 [(.node 2 1 [tY])])]), (.tree tY), (.trees [tY]), (.tree (.node 2 1 [tY])), (.tree tY), (.tree tY), (.trees [tY]), (.tree (.node 2 1 [tY])), (.trees [(.node 2 1 [tY])]), (.tree (.node 2 1 [(.node 2 1 [tY])])), (.trees [(.node 2 1 [tY]), tY, (.node 2 1 [(.node 2 1 [tY])])]), (.val (.bool true)), (.val (.bool true)), (.val (.bool true)), (.val (.int .i64 0)), (.val (.bool true)), (.val (.bool true)), (.val (.bool true)), (.val (.bool false)), (.val (.bool true)), (.val (.bool true)), (.val (.bool true))] : List Rel)[i]?.getD (.val undef)).holds) (fun i x w1 w2 h t => Rel.turned _ x w1 w2 h t) ?_ ?_
  · intro i o ho v25 w24 ht hdep
    have hB7 := HB.out.turned ht
    have hX7 := HX.out.turned ht
    have hi : i < 28 := (Array.getElem?_eq_some_iff.1 ho).1
    obtain rfl | rfl | rfl | rfl | rfl | rfl | rfl | rfl | rfl | rfl | rfl | rfl | rfl | rfl | rfl | rfl | rfl | rfl | rfl | rfl | rfl | rfl | rfl | rfl | rfl | rfl | rfl | rfl := (show i = 0 ∨ i = 1 ∨ i = 2 ∨ i = 3 ∨ i = 4 ∨ i = 5 ∨ i = 6 ∨ i = 7 ∨ i = 8 ∨ i = 9 ∨ i = 10 ∨ i = 11 ∨ i = 12 ∨ i = 13 ∨ i = 14 ∨ i = 15 ∨ i = 16 ∨ i = 17 ∨ i = 18 ∨ i = 19 ∨ i = 20 ∨ i = 21 ∨ i = 22 ∨ i = 23 ∨ i = 24 ∨ i = 25 ∨ i = 26 ∨ i = 27 by omega)
    all_goals
      obtain rfl := Option.some.inj ho
      clear hi
    · show Gives _ _ _ 0 (.val (.int .i64 0)) _ _
      exact gives_move ho (wanted_none rfl _) (.inl rfl) ((eval_other (fresh_of (by kernel_rfl))).trans rfl)
    · have d0 : (v25 0) = (.int .i64 0) := hdep { on := 0, ground := .data } (by simp) rfl
      show Gives _ _ _ 1 (.val (.bool true)) _ _
      exact gives_bin ho (wanted_none rfl _) rfl ((eval_dst (i := 0) (apart_of (by kernel_rfl)) rfl (Nat.le_of_ble_eq_true (by kernel_rfl))).trans d0) rfl (fun _ => by kernel_rfl)
    · have d1 : (v25 1) = (.bool true) := hdep { on := 1, ground := .data } (by simp) rfl
      show Gives _ _ _ 2 (.val (.bool true)) _ _
      exact gives_move ho (wanted_none rfl _) (.inl rfl) ((eval_dst (i := 1) (apart_of (by kernel_rfl)) rfl (Nat.le_of_ble_eq_true (by kernel_rfl))).trans d1)
    · have d2 : (v25 2) = (.bool true) := hdep { on := 2, ground := .guard } (by simp) rfl
      show Gives _ _ _ 3 (.val (.bool true)) _ _
      refine gives_move ho ?_ (.inl rfl) ((eval_other (fresh_of (by kernel_rfl))).trans rfl)
      exact want_yes (g := 2) (d := 316) (b := true) (apart_of (by kernel_rfl)) rfl rfl (Nat.le_of_ble_eq_true (by kernel_rfl)) d2
    · have d2 : (v25 2) = (.bool true) := hdep { on := 2, ground := .data } (by simp) rfl
      have d3 : (v25 3) = (.bool true) := hdep { on := 3, ground := .data } (by simp) rfl
      show Gives _ _ _ 4 (.val (.bool true)) _ _
      exact gives_pick_t ho (wanted_none rfl _) rfl ((eval_dst (i := 2) (apart_of (by kernel_rfl)) rfl (Nat.le_of_ble_eq_true (by kernel_rfl))).trans d2) ((eval_dst (i := 3) (apart_of (by kernel_rfl)) rfl (Nat.le_of_ble_eq_true (by kernel_rfl))).trans d3)
    · have d4 : (v25 4) = (.bool true) := hdep { on := 4, ground := .data } (by simp) rfl
      show Gives _ _ _ 5 (.val (.bool true)) _ _
      exact gives_move ho (wanted_none rfl _) (.inl rfl) ((eval_dst (i := 4) (apart_of (by kernel_rfl)) rfl (Nat.le_of_ble_eq_true (by kernel_rfl))).trans d4)
    · have d5 : (v25 5) = (.bool true) := hdep { on := 5, ground := .guard } (by simp) rfl
      show Gives _ _ _ 6 (.trees [(.node 2 1 [tY]), tY, (.node 2 1 [(.node 2 1 [tY])])]) _ _
      refine gives_move ho ?_ (.inl rfl) (by rw [eval_other (fresh_of (by kernel_rfl))]; exact Rel.turned _ _ _ _ H23_17.out ht)
      exact want_yes (g := 5) (d := 319) (b := true) (apart_of (by kernel_rfl)) rfl rfl (Nat.le_of_ble_eq_true (by kernel_rfl)) d5
    · have d5 : (v25 5) = (.bool true) := hdep { on := 5, ground := .guard } (by simp) rfl
      show Gives _ _ _ 7 (.tree tY) _ _
      refine gives_leaf ho ?_ rfl ((eval_other (fresh_of (by kernel_rfl))).trans rfl) hB7.k3
      exact want_yes (g := 5) (d := 319) (b := true) (apart_of (by kernel_rfl)) rfl rfl (Nat.le_of_ble_eq_true (by kernel_rfl)) d5
    · have d5 : (v25 5) = (.bool true) := hdep { on := 5, ground := .guard } (by simp) rfl
      have d7 : TmIn w24 tY (v25 7) := hdep { on := 7, ground := .data } (by simp) rfl
      show Gives _ _ _ 8 (.trees [tY]) _ _
      refine gives_trees1 ho ?_ rfl (by rw [eval_dst (i := 7) (apart_of (by kernel_rfl)) rfl (Nat.le_of_ble_eq_true (by kernel_rfl))]; exact d7)
      exact want_yes (g := 5) (d := 319) (b := true) (apart_of (by kernel_rfl)) rfl rfl (Nat.le_of_ble_eq_true (by kernel_rfl)) d5
    · have d5 : (v25 5) = (.bool true) := hdep { on := 5, ground := .guard } (by simp) rfl
      have d8 : RowTm w24 (v25 8) [tY] := hdep { on := 8, ground := .data } (by simp) rfl
      show Gives _ _ _ 9 (.tree (.node 2 1 [tY])) _ _
      refine gives_node ho ?_ rfl (by rw [eval_dst (i := 8) (apart_of (by kernel_rfl)) rfl (Nat.le_of_ble_eq_true (by kernel_rfl))]; exact d8)
      exact want_yes (g := 5) (d := 319) (b := true) (apart_of (by kernel_rfl)) rfl rfl (Nat.le_of_ble_eq_true (by kernel_rfl)) d5
    · have d5 : (v25 5) = (.bool true) := hdep { on := 5, ground := .guard } (by simp) rfl
      show Gives _ _ _ 10 (.tree tY) _ _
      refine gives_leaf ho ?_ rfl ((eval_other (fresh_of (by kernel_rfl))).trans rfl) hB7.k3
      exact want_yes (g := 5) (d := 319) (b := true) (apart_of (by kernel_rfl)) rfl rfl (Nat.le_of_ble_eq_true (by kernel_rfl)) d5
    · have d5 : (v25 5) = (.bool true) := hdep { on := 5, ground := .guard } (by simp) rfl
      show Gives _ _ _ 11 (.tree tY) _ _
      refine gives_leaf ho ?_ rfl ((eval_other (fresh_of (by kernel_rfl))).trans rfl) hB7.k3
      exact want_yes (g := 5) (d := 319) (b := true) (apart_of (by kernel_rfl)) rfl rfl (Nat.le_of_ble_eq_true (by kernel_rfl)) d5
    · have d5 : (v25 5) = (.bool true) := hdep { on := 5, ground := .guard } (by simp) rfl
      have d11 : TmIn w24 tY (v25 11) := hdep { on := 11, ground := .data } (by simp) rfl
      show Gives _ _ _ 12 (.trees [tY]) _ _
      refine gives_trees1 ho ?_ rfl (by rw [eval_dst (i := 11) (apart_of (by kernel_rfl)) rfl (Nat.le_of_ble_eq_true (by kernel_rfl))]; exact d11)
      exact want_yes (g := 5) (d := 319) (b := true) (apart_of (by kernel_rfl)) rfl rfl (Nat.le_of_ble_eq_true (by kernel_rfl)) d5
    · have d5 : (v25 5) = (.bool true) := hdep { on := 5, ground := .guard } (by simp) rfl
      have d12 : RowTm w24 (v25 12) [tY] := hdep { on := 12, ground := .data } (by simp) rfl
      show Gives _ _ _ 13 (.tree (.node 2 1 [tY])) _ _
      refine gives_node ho ?_ rfl (by rw [eval_dst (i := 12) (apart_of (by kernel_rfl)) rfl (Nat.le_of_ble_eq_true (by kernel_rfl))]; exact d12)
      exact want_yes (g := 5) (d := 319) (b := true) (apart_of (by kernel_rfl)) rfl rfl (Nat.le_of_ble_eq_true (by kernel_rfl)) d5
    · have d5 : (v25 5) = (.bool true) := hdep { on := 5, ground := .guard } (by simp) rfl
      have d13 : TmIn w24 (.node 2 1 [tY]) (v25 13) := hdep { on := 13, ground := .data } (by simp) rfl
      show Gives _ _ _ 14 (.trees [(.node 2 1 [tY])]) _ _
      refine gives_trees1 ho ?_ rfl (by rw [eval_dst (i := 13) (apart_of (by kernel_rfl)) rfl (Nat.le_of_ble_eq_true (by kernel_rfl))]; exact d13)
      exact want_yes (g := 5) (d := 319) (b := true) (apart_of (by kernel_rfl)) rfl rfl (Nat.le_of_ble_eq_true (by kernel_rfl)) d5
    · have d5 : (v25 5) = (.bool true) := hdep { on := 5, ground := .guard } (by simp) rfl
      have d14 : RowTm w24 (v25 14) [(.node 2 1 [tY])] := hdep { on := 14, ground := .data } (by simp) rfl
      show Gives _ _ _ 15 (.tree (.node 2 1 [(.node 2 1 [tY])])) _ _
      refine gives_node ho ?_ rfl (by rw [eval_dst (i := 14) (apart_of (by kernel_rfl)) rfl (Nat.le_of_ble_eq_true (by kernel_rfl))]; exact d14)
      exact want_yes (g := 5) (d := 319) (b := true) (apart_of (by kernel_rfl)) rfl rfl (Nat.le_of_ble_eq_true (by kernel_rfl)) d5
    · have d5 : (v25 5) = (.bool true) := hdep { on := 5, ground := .guard } (by simp) rfl
      have d9 : TmIn w24 (.node 2 1 [tY]) (v25 9) := hdep { on := 9, ground := .data } (by simp) rfl
      have d10 : TmIn w24 tY (v25 10) := hdep { on := 10, ground := .data } (by simp) rfl
      have d15 : TmIn w24 (.node 2 1 [(.node 2 1 [tY])]) (v25 15) := hdep { on := 15, ground := .data } (by simp) rfl
      show Gives _ _ _ 16 (.trees [(.node 2 1 [tY]), tY, (.node 2 1 [(.node 2 1 [tY])])]) _ _
      refine gives_trees3 ho ?_ rfl (by rw [eval_dst (i := 9) (apart_of (by kernel_rfl)) rfl (Nat.le_of_ble_eq_true (by kernel_rfl))]; exact d9) (by rw [eval_dst (i := 10) (apart_of (by kernel_rfl)) rfl (Nat.le_of_ble_eq_true (by kernel_rfl))]; exact d10) (by rw [eval_dst (i := 15) (apart_of (by kernel_rfl)) rfl (Nat.le_of_ble_eq_true (by kernel_rfl))]; exact d15)
      exact want_yes (g := 5) (d := 319) (b := true) (apart_of (by kernel_rfl)) rfl rfl (Nat.le_of_ble_eq_true (by kernel_rfl)) d5
    · have d5 : (v25 5) = (.bool true) := hdep { on := 5, ground := .guard } (by simp) rfl
      have d6 : RowTm w24 (v25 6) [(.node 2 1 [tY]), tY, (.node 2 1 [(.node 2 1 [tY])])] := hdep { on := 6, ground := .data } (by simp) rfl
      have d16 : RowTm w24 (v25 16) [(.node 2 1 [tY]), tY, (.node 2 1 [(.node 2 1 [tY])])] := hdep { on := 16, ground := .data } (by simp) rfl
      show Gives _ _ _ 17 (.val (.bool true)) _ _
      refine gives_fn (vs := #[v25 6, v25 16]) ho ?_ rfl ?_ (Go.Proofs.enters_of Try.func23 (by kernel_rfl) rfl) ?_
      · exact want_yes (g := 5) (d := 319) (b := true) (apart_of (by kernel_rfl)) rfl rfl (Nat.le_of_ble_eq_true (by kernel_rfl)) d5
      · simp only [List.map_toArray, List.map_cons, List.map_nil]
        rw [eval_dst (i := 6) (apart_of (by kernel_rfl)) rfl (Nat.le_of_ble_eq_true (by kernel_rfl)), eval_dst (i := 16) (apart_of (by kernel_rfl)) rfl (Nat.le_of_ble_eq_true (by kernel_rfl))]
      · exact (c_sameAll [(.node 2 1 [tY]), tY, (.node 2 1 [(.node 2 1 [tY])])] [(.node 2 1 [tY]), tY, (.node 2 1 [(.node 2 1 [tY])])] true (by decide +kernel)) _ _ _ d6 d16
    · have d5 : (v25 5) = (.bool true) := hdep { on := 5, ground := .data } (by simp) rfl
      have d17 : (v25 17) = (.bool true) := hdep { on := 17, ground := .data } (by simp) rfl
      show Gives _ _ _ 18 (.val (.bool true)) _ _
      exact gives_pick_t ho (wanted_none rfl _) rfl ((eval_dst (i := 5) (apart_of (by kernel_rfl)) rfl (Nat.le_of_ble_eq_true (by kernel_rfl))).trans d5) ((eval_dst (i := 17) (apart_of (by kernel_rfl)) rfl (Nat.le_of_ble_eq_true (by kernel_rfl))).trans d17)
    · have d18 : (v25 18) = (.bool true) := hdep { on := 18, ground := .data } (by simp) rfl
      show Gives _ _ _ 19 (.val (.bool true)) _ _
      exact gives_move ho (wanted_none rfl _) (.inl rfl) ((eval_dst (i := 18) (apart_of (by kernel_rfl)) rfl (Nat.le_of_ble_eq_true (by kernel_rfl))).trans d18)
    · have d19 : (v25 19) = (.bool true) := hdep { on := 19, ground := .guard } (by simp) rfl
      show Gives _ _ _ 20 (.val (.int .i64 0)) _ _
      refine gives_move ho ?_ (.inl rfl) ((eval_other (fresh_of (by kernel_rfl))).trans rfl)
      exact want_yes (g := 19) (d := 333) (b := true) (apart_of (by kernel_rfl)) rfl rfl (Nat.le_of_ble_eq_true (by kernel_rfl)) d19
    · have d19 : (v25 19) = (.bool true) := hdep { on := 19, ground := .guard } (by simp) rfl
      have d20 : (v25 20) = (.int .i64 0) := hdep { on := 20, ground := .data } (by simp) rfl
      show Gives _ _ _ 21 (.val (.bool true)) _ _
      refine gives_bin ho ?_ rfl ((eval_dst (i := 20) (apart_of (by kernel_rfl)) rfl (Nat.le_of_ble_eq_true (by kernel_rfl))).trans d20) rfl (fun _ => by kernel_rfl)
      exact want_yes (g := 19) (d := 333) (b := true) (apart_of (by kernel_rfl)) rfl rfl (Nat.le_of_ble_eq_true (by kernel_rfl)) d19
    · have d19 : (v25 19) = (.bool true) := hdep { on := 19, ground := .data } (by simp) rfl
      have d21 : (v25 21) = (.bool true) := hdep { on := 21, ground := .data } (by simp) rfl
      show Gives _ _ _ 22 (.val (.bool true)) _ _
      exact gives_pick_t ho (wanted_none rfl _) rfl ((eval_dst (i := 19) (apart_of (by kernel_rfl)) rfl (Nat.le_of_ble_eq_true (by kernel_rfl))).trans d19) ((eval_dst (i := 21) (apart_of (by kernel_rfl)) rfl (Nat.le_of_ble_eq_true (by kernel_rfl))).trans d21)
    · have d22 : (v25 22) = (.bool true) := hdep { on := 22, ground := .data } (by simp) rfl
      show Gives _ _ _ 23 (.val (.bool true)) _ _
      exact gives_move ho (wanted_none rfl _) (.inl rfl) ((eval_dst (i := 22) (apart_of (by kernel_rfl)) rfl (Nat.le_of_ble_eq_true (by kernel_rfl))).trans d22)
    · have d23 : (v25 23) = (.bool true) := hdep { on := 23, ground := .guard } (by simp) rfl
      show Gives _ _ _ 24 (.val (.bool false)) _ _
      refine gives_move ho ?_ (.inl rfl) ((eval_other (fresh_of (by kernel_rfl))).trans rfl)
      exact want_yes (g := 23) (d := 337) (b := true) (apart_of (by kernel_rfl)) rfl rfl (Nat.le_of_ble_eq_true (by kernel_rfl)) d23
    · have d23 : (v25 23) = (.bool true) := hdep { on := 23, ground := .guard } (by simp) rfl
      have d24 : (v25 24) = (.bool false) := hdep { on := 24, ground := .data } (by simp) rfl
      show Gives _ _ _ 25 (.val (.bool true)) _ _
      refine gives_un ho ?_ rfl ((eval_dst (i := 24) (apart_of (by kernel_rfl)) rfl (Nat.le_of_ble_eq_true (by kernel_rfl))).trans d24) (fun _ => by kernel_rfl)
      exact want_yes (g := 23) (d := 337) (b := true) (apart_of (by kernel_rfl)) rfl rfl (Nat.le_of_ble_eq_true (by kernel_rfl)) d23
    · have d23 : (v25 23) = (.bool true) := hdep { on := 23, ground := .data } (by simp) rfl
      have d25 : (v25 25) = (.bool true) := hdep { on := 25, ground := .data } (by simp) rfl
      show Gives _ _ _ 26 (.val (.bool true)) _ _
      exact gives_pick_t ho (wanted_none rfl _) rfl ((eval_dst (i := 23) (apart_of (by kernel_rfl)) rfl (Nat.le_of_ble_eq_true (by kernel_rfl))).trans d23) ((eval_dst (i := 25) (apart_of (by kernel_rfl)) rfl (Nat.le_of_ble_eq_true (by kernel_rfl))).trans d25)
    · have d26 : (v25 26) = (.bool true) := hdep { on := 26, ground := .data } (by simp) rfl
      show Gives _ _ _ 27 (.val (.bool true)) _ _
      exact gives_move ho (wanted_none rfl _) (.inr rfl) ((eval_dst (i := 26) (apart_of (by kernel_rfl)) rfl (Nat.le_of_ble_eq_true (by kernel_rfl))).trans d26)
  intro v25 w24 ht hv
  have e1 : v25 1 = (.bool true) := hv 1 (Nat.le_of_ble_eq_true (by kernel_rfl))
  have e2 : v25 2 = (.bool true) := hv 2 (Nat.le_of_ble_eq_true (by kernel_rfl))
  have e3 : v25 3 = (.bool true) := hv 3 (Nat.le_of_ble_eq_true (by kernel_rfl))
  have e4 : v25 4 = (.bool true) := hv 4 (Nat.le_of_ble_eq_true (by kernel_rfl))
  have e5 : v25 5 = (.bool true) := hv 5 (Nat.le_of_ble_eq_true (by kernel_rfl))
  have e17 : v25 17 = (.bool true) := hv 17 (Nat.le_of_ble_eq_true (by kernel_rfl))
  have e18 : v25 18 = (.bool true) := hv 18 (Nat.le_of_ble_eq_true (by kernel_rfl))
  have e19 : v25 19 = (.bool true) := hv 19 (Nat.le_of_ble_eq_true (by kernel_rfl))
  have e21 : v25 21 = (.bool true) := hv 21 (Nat.le_of_ble_eq_true (by kernel_rfl))
  have e22 : v25 22 = (.bool true) := hv 22 (Nat.le_of_ble_eq_true (by kernel_rfl))
  have e23 : v25 23 = (.bool true) := hv 23 (Nat.le_of_ble_eq_true (by kernel_rfl))
  have e24 : v25 24 = (.bool false) := hv 24 (Nat.le_of_ble_eq_true (by kernel_rfl))
  have e25 : v25 25 = (.bool true) := hv 25 (Nat.le_of_ble_eq_true (by kernel_rfl))
  have e26 : v25 26 = (.bool true) := hv 26 (Nat.le_of_ble_eq_true (by kernel_rfl))
  have e27 : v25 27 = (.bool true) := hv 27 (Nat.le_of_ble_eq_true (by kernel_rfl))
  replace H16_11 := Lib.hid (Rel.turned _ _ _ _ H16_11.out ht)
  replace H16_12 := Lib.hid (Rel.turned _ _ _ _ H16_12.out ht)
  replace H19_17 := Lib.hid (Rel.turned _ _ _ _ H19_17.out ht)
  replace H20_15 := Lib.hid (Rel.turned _ _ _ _ H20_15.out ht)
  replace H23_17 := Lib.hid (Rel.turned _ _ _ _ H23_17.out ht)
  clear hv
  replace HB := Lib.hid (HB.out.turned ht)
  replace HT := Lib.hid (HT.out.trans ht (fun _ _ hf => hf))
  replace HX := Lib.hid (HX.out.turned ht)
  clear ht
  simp only [putAll, List.size_toArray, List.length_cons, List.length_nil, Nat.zero_add, Nat.reduceAdd, putN, dstOf, List.getElem?_toArray, List.getElem?_cons_zero, List.getElem?_cons_succ, Option.bind_some, Act.put, List.setIfInBounds_toArray, List.set_cons_zero, List.set_cons_succ, e1, e2, e3, e4, e5, e17, e18, e19, e21, e22, e23, e24, e25, e26, e27]
  clear e1 e2 e3 e4 e5 e17 e18 e19 e21 e22 e23 e24 e25 e26 e27
  go_wp2
  go_ret
  exact ⟨rfl, HT.out⟩
end Go.Proofs.Ytljnmjehokijgaa

/- Unify: the walk; what sane gets of it. -/
namespace Go.Proofs.Ytljnmjehokijgaa
open Go.RowKit

set_option maxRecDepth 100000 in
set_option maxHeartbeats 3200000 in
theorem sigUnify_any (F : Nat) (hF : F ≤ 1000000) (a b : Tm) (va vb : Value) (w : World) (ha : TmIn w a va) (hb : TmIn w b vb) (hsa : a.small) (hsb : b.small) (X : List Tm × Bool × Int) (h : a.unifyT F b = some X) :
    Calls Try.prog 27 #[va, vb] w (RowBe X w) := by
  obtain ⟨aa, ca, rfl, hla, -⟩ := ha.form
  obtain ⟨ab, cb, rfl, hlb, -⟩ := hb.form
  obtain ⟨W, hW, tW, hC⟩ := box2 w (.int .i64 a.kind) (.int .i64 a.num) (.slice aa a.kids.length ca) (.int .i64 b.kind) (.int .i64 b.num) (.slice ab b.kids.length cb) 24 24
  have kA : W.heap[w.heap.size]? = some (.cells #[.int .i64 a.kind, .int .i64 a.num, .slice aa a.kids.length ca] 24 (0, 0)) := by rw [hW]; exact alloc_keep (heap_alloc_new _ _)
  have kB : W.heap[w.heap.size + 1]? = some (.cells #[.int .i64 b.kind, .int .i64 b.num, .slice ab b.kids.length cb] 24 (0, 0)) := by rw [hW]; exact alloc_at (by simp)
  obtain ⟨a0, a1, a2, b0, b1, b2, lW⟩ := hC W (Turned.refl _ _)
  have Htp := Lib.hid (tree_any a _ W (TmIn.turned tW _ ha))
  have Htt := Lib.hid (fun V (hV : Turned W V (fun _ => False)) => tree_any b _ V (TmIn.turned (tW.trans hV (fun _ _ hf => hf)) _ hb))
  have hE1 : a.treeE = if a.isTree = true then 0 else 4 := rfl
  have hE2 : b.treeE = if b.isTree = true then 0 else 4 := rfl
  have Hgr := Lib.hid (fun V V' (hV : Turned W V (fun _ => False)) (hV' : V' = V.alloc (.cells #[.int .i64 a.kind, .int .i64 a.num, .slice aa a.kids.length ca, .int .i64 b.kind, .int .i64 b.num, .slice ab b.kids.length cb] 24)) =>
    have t : Turned w V' (fun _ => False) := by rw [hV']; exact (tW.trans hV (fun _ _ hf => hf)).alloc _
    greatest_any [a, b] (.slice (some ⟨V.heap.size, 0, none⟩) 2 2) V' (rowTm_op2 (by rw [hV']; exact heap_alloc_new _ _) (TmIn.turned t _ ha) (TmIn.turned t _ hb)))
  have Hdef := Lib.hid (show (if a.isTree = false ∨ b.isTree = false then some ([], false, 4) else if 4000 < topOf [a, b] then some ([], false, 1) else
    match Un.equate F F (b.plant (a.plant Un.none_).1).1 (a.plant Un.none_).2 (b.plant (a.plant Un.none_).1).2 with
    | none => none
    | some (s, eq) => if 20000 < s.p then some ([], false, 2) else if eq = false then some ([], false, 0) else Un.solve s F (topOf [a, b])) = some X from h)
  have Hp1 := Lib.hid (fun (V : World) (bu bm : Nat) (S : Nat → Prop) (hP : UnP w bu bm S Un.none_ V) (hs : a.size ≤ 2000) => plant_any w bu bm a _ S Un.none_ V ha hsa hP (by simp only [Un.none_, List.length_nil]; omega) (by simp only [Un.none_]; omega))
  have Hp2 := Lib.hid (fun (V : World) (bu bm : Nat) (S : Nat → Prop) (s : Un) (hP : UnP w bu bm S s V) (h1 : s.nd.length + b.size ≤ 100000) (h2 : s.c + b.size ≤ 100000) => plant_any w bu bm b _ S s V hb hsb hP h1 h2)
  have Htop := Lib.hid (fun (h1 : a.isTree = true) (h2 : b.isTree = true) => show -1 ≤ topOf [a, b] ∧ ∀ x, (a.vin x ∨ b.vin x) → 0 ≤ x ∧ x ≤ topOf [a, b] by
    have ra := ((Tm.isTree_iff a).1 h1).2.2
    have rb := ((Tm.isTree_iff b).1 h2).2.2
    have g1 := Tm.walk_top a (-1) ra
    have g2 := Tm.walk_top b (a.walk topStep (-1)) rb
    have e : topOf [a, b] = b.walk topStep (a.walk topStep (-1)) := rfl
    rw [e]
    refine ⟨by omega, fun x hx => ?_⟩
    rcases hx with hx | hx
    · exact ⟨(Tm.vin_top h1 hx).1, by have := g1.2 x hx; omega⟩
    · exact ⟨(Tm.vin_top h2 hx).1, g2.2 x hx⟩)
  have Hg := Lib.hid (fun (h1 : a.isTree = true) (h2 : b.isTree = true) => show a.size ≤ 2000 ∧ b.size ≤ 2000 ∧ (a.plant Un.none_).1.nd.length + b.size ≤ 100000 ∧ (a.plant Un.none_).1.c + b.size ≤ 100000 ∧ (b.plant (a.plant Un.none_).1).1.nd ≠ [] ∧ (b.plant (a.plant Un.none_).1).1.nd.length ≤ 1000000 ∧
      Good (b.plant (a.plant Un.none_).1).1.nd ∧ (b.plant (a.plant Un.none_).1).1.p = 0 ∧ (∀ x, (b.plant (a.plant Un.none_).1).1.var x ≠ none → a.vin x ∨ b.vin x) by
    have ra := (Tm.isTree_iff a).1 h1
    have rb := (Tm.isTree_iff b).1 h2
    have m1 := Tm.plant_bound a Un.none_
    have m2 := Tm.plant_bound b (a.plant Un.none_).1
    have g1 := Tm.plant_good a Un.none_ (show Good [] from ⟨fun x hx => absurd hx List.not_mem_nil, fun x hx => absurd hx List.not_mem_nil⟩) (by omega)
    have g2 := Tm.plant_good b (a.plant Un.none_).1 g1.1 (by omega)
    have hne := Tm.plant_some a Un.none_ rfl
    have hn0 : Un.none_.nd.length = 0 := rfl
    have hc0 : Un.none_.c = 0 := rfl
    refine ⟨by omega, by omega, by omega, by omega, fun e => ?_, by omega, g2.1, by rw [m2.2.2, m1.2.2]; rfl, fun x hx => ?_⟩
    · have := g2.2.1
      rw [e] at this
      simp only [List.length_nil] at this
      omega
    · rcases g2.2.2 x hx with h3 | h3 | h3
      · rcases g1.2.2 x h3 with h4 | h4 | h4
        · exact absurd rfl h4
        · exact .inl h4
        · rw [ra.2.2] at h4; cases h4
      · exact .inr h3
      · rw [rb.2.2] at h3; cases h3)
  have HC := Lib.hid hC
  have HW := Lib.hid hW
  have TW := Lib.hid tW
  have KA := Lib.hid kA
  have KB := Lib.hid kB
  have hmm : ∀ (w : World), (Instr.makeMap 88 none).run Try.prog w = .ok (.map (some w.heap.size)) (w.alloc (.map #[] 0)) := fun _ => rfl
  clear hW hC tW ha hb hla hlb hsa hsb h kA kB
  generalize a.kind = ak at *
  generalize a.num = an at *
  generalize a.kids.length = al at *
  generalize b.kind = bk at *
  generalize b.num = bn at *
  generalize b.kids.length = bl at *
  generalize a.treeE = ae at *
  generalize b.treeE = be at *
  go_enter Try.func27, Try.ntmps27
  go_upto_region 1 with fail
  rw [← HW.out]
  go_wp2_with fail
  refine Htp.out.mono ?_
  rintro e w1 ⟨rfl, t1⟩
  have T1 := Lib.hid t1
  clear a0 a1 a2 b0 b1 b2 lW
  obtain ⟨a0, a1, a2, b0, b1, b2, lW⟩ := HC.out w1 t1
  clear t1
  cases hp : a.isTree with
  | false =>
    rw [hp, if_neg (by simp)] at hE1
    subst hE1
    rw [if_pos (.inl hp)] at Hdef
    have hX := Option.some.inj Hdef.out
    subst hX
    have Hfin := Lib.hid (rowBe_nil w w1 false 4 (TW.out.trans T1.out (fun _ _ hf => hf)))
    clear hp hE2
    go_wp2
    go_ret3
    exact Hfin.out
  | true =>
  rw [hp, if_pos rfl] at hE1
  subst hE1
  go_wp2_with fail
  refine (Htt.out w1 T1.out).mono ?_
  rintro e w2 ⟨rfl, t2⟩
  have T2 := Lib.hid (T1.out.trans t2 (fun _ _ hf => hf))
  clear a0 a1 a2 b0 b1 b2 lW t2
  obtain ⟨a0, a1, a2, b0, b1, b2, lW⟩ := HC.out w2 T2.out
  cases ht : b.isTree with
  | false =>
    rw [ht, if_neg (by simp)] at hE2
    subst hE2
    rw [if_pos (.inr ht)] at Hdef
    have hX := Option.some.inj Hdef.out
    subst hX
    have Hfin := Lib.hid (rowBe_nil w w2 false 4 (TW.out.trans T2.out (fun _ _ hf => hf)))
    clear hp ht
    go_wp2
    go_ret3
    exact Hfin.out
  | true =>
  rw [ht, if_pos rfl] at hE2
  subst hE2
  rw [if_neg (by rw [hp, ht]; simp)] at Hdef
  have Htop2 := Lib.hid (Htop.out hp ht)
  have Hg2 := Lib.hid (Hg.out hp ht)
  clear hp ht Htop Hg
  generalize topOf [a, b] = top at *
  obtain ⟨V1, hV1⟩ : ∃ V1, V1 = w2.alloc (.cells #[.int .i64 ak, .int .i64 an, .slice aa al ca, .int .i64 bk, .int .i64 bn, .slice ab bl cb] 24) := ⟨_, rfl⟩
  have Hgc := Lib.hid (Hgr.out w2 V1 T2.out hV1)
  have TV1 := Lib.hid (T2.out.trans (show Turned w2 V1 (fun _ => False) by rw [hV1]; exact (Turned.refl _ _).alloc _) (fun _ _ hf => hf))
  have HV1 := Lib.hid hV1
  clear hV1
  go_wp2_with fail
  rw [← HV1.out]
  refine Hgc.out.mono ?_
  rintro e w3 ⟨rfl, t3⟩
  have T3 := Lib.hid (TV1.out.trans t3 (fun _ _ hf => hf))
  clear a0 a1 a2 b0 b1 b2 lW t3
  by_cases hbig : 4000 < top
  · rw [if_pos hbig] at Hdef
    have hX := Option.some.inj Hdef.out
    subst hX
    have Hfin := Lib.hid (rowBe_nil w w3 false 1 (TW.out.trans T3.out (fun _ _ hf => hf)))
    go_wp2
    go_ret3
    exact Hfin.out
  rw [if_neg hbig] at Hdef
  obtain ⟨V2, hV2⟩ : ∃ V2, V2 = (w3.alloc (.map #[] 0)).alloc (.cells #[.slice none 0 0, .map (some w3.heap.size), .int .i64 0] 93) := ⟨_, rfl⟩
  have tV2 : Turned w3 V2 (fun _ => False) := by rw [hV2]; exact ((Turned.refl _ _).alloc _).alloc _
  have hP0 : UnP w (w3.heap.size + 1) w3.heap.size (fun _ => False) Un.none_ V2 := by
    have t03 := TW.out.trans T3.out (fun _ _ hf => hf)
    have hs := t03.size
    refine ⟨t03.trans tV2 (fun _ _ hf => hf), ⟨_, ?_, OwnN.nil _ _ _⟩, ⟨fun _ => none, ?_, fun x => rfl⟩, by omega, hs⟩
    · rw [hV2]
      exact alloc_at (by simp)
    · rw [hV2]
      exact (MapV.made w3 3).turned ((Turned.refl _ (fun _ => False)).alloc _) (fun hf => hf)
  have HP0 := Lib.hid hP0
  have TV2 := Lib.hid (T3.out.trans tV2 (fun _ _ hf => hf))
  have HV2 := Lib.hid hV2
  obtain ⟨a0, a1, a2, -, -, -, lA⟩ := box3 (turn_keep TV2.out KA.out)
  clear hV2 tV2 hP0
  go_upto_region 7 with fail
  rw [← HV2.out]
  have Hq1 := Lib.hid (Hp1.out V2 _ _ _ HP0.out Hg2.out.1)
  go_wp2_with fail
  refine Hq1.out.mono ?_
  rintro e w4 ⟨rfl, hP4, k4⟩
  have HP4 := Lib.hid hP4
  have K4 := Lib.hid ((KeepP.of TV2.out).trans k4)
  clear hP4 k4 a0 a1 a2 lA Hq1
  obtain ⟨a0, a1, a2, -, -, -, lA⟩ := box3 (K4.out.2 _ _ _ _ (by decide) (by decide) KB.out)
  have Hq2 := Lib.hid (Hp2.out w4 _ _ _ _ HP4.out Hg2.out.2.2.1 Hg2.out.2.2.2.1)
  clear Hp1 Hp2 HP0
  generalize a.plant Un.none_ = PA at *
  obtain ⟨sa, ia⟩ := PA
  simp only at *
  generalize b.plant sa = PB at *
  obtain ⟨sb, ib⟩ := PB
  simp only at *
  go_wp2_with fail
  refine Hq2.out.mono ?_
  rintro e w5 ⟨rfl, hP5, k5⟩
  obtain ⟨g, cap, hU5⟩ := hP5.block Hg2.out.2.2.2.2.1 Hg2.out.2.2.2.2.2.1
  have HU5 := Lib.hid hU5
  obtain ⟨hgood, hp0, hdom⟩ := Hg2.out.2.2.2.2.2.2
  clear hP5 k5 a0 a1 a2 lA Hq2 HP4 hU5
  obtain ⟨s2, r, heq⟩ : ∃ s2 r, Un.equate F F sb ia ib = some (s2, r) := by
    have hd := Hdef.out
    cases hq : Un.equate F F sb ia ib with
    | none => rw [hq] at hd; cases hd
    | some Y => exact ⟨Y.1, Y.2, rfl⟩
  have hst := Un.equate_stays F _ _ _ _ _ heq
  have hbd := Un.equate_bound F _ _ _ _ _ heq hgood.2 (by omega) (by omega)
  have hX := Hdef.out
  rw [heq] at hX
  simp only at hX
  have Heq := Lib.hid (equate_any w _ _ g cap F F sb s2 ia ib r w5 heq HU5.out hgood.2 (by omega) (by omega))
  have HXX := Lib.hid hX
  have Hst := Lib.hid hst
  have Hbd := Lib.hid hbd
  have Hgood := Lib.hid hgood
  have Hdom := Lib.hid hdom
  clear heq hst hbd hX hgood hdom Hdef Hg2
  go_wp2_with fail
  refine Heq.out.mono ?_
  rintro e w6 ⟨rfl, hU6, t6⟩
  obtain ⟨-, -, q2, q3, -, -, -⟩ := hU6.at0
  have HU6 := Lib.hid hU6
  clear hU6 t6 Heq
  by_cases hlim : 20000 < s2.p
  · have hX := HXX.out
    rw [if_pos hlim] at hX
    have hX2 := Option.some.inj hX
    subst hX2
    have Hfin := Lib.hid (rowBe_nil w w6 false 2 HU6.out.turned)
    clear hX
    go_wp2
    go_ret3
    exact Hfin.out
  rw [if_neg hlim] at HXX
  cases r with
  | false =>
    have hX := HXX.out
    rw [if_pos rfl] at hX
    have hX2 := Option.some.inj hX
    subst hX2
    have Hfin := Lib.hid (rowBe_nil w w6 false 0 HU6.out.turned)
    clear hX
    go_wp2
    go_ret3
    exact Hfin.out
  | true =>
    rw [if_neg (by simp)] at HXX
    obtain ⟨L, bb, er⟩ := X
    have Hs := Lib.hid (solution_any w _ _ g cap F s2 w6 hF Hbd.out.1 HU6.out ((Hst.out.fresh Hgood.out.1).memo _ _) top Htop2.out.1 (by omega) (fun x i hx => Htop2.out.2 x (Hdom.out x (by rw [← Hst.out.var, hx]; simp))) L bb er HXX.out)
    have hbe : bb = decide (er = 0) := by
      have hX := HXX.out
      unfold Un.solve at hX
      split at hX
      · cases hX
      · simp only [Option.some.injEq, Prod.mk.injEq] at hX; obtain ⟨-, rfl, rfl⟩ := hX; rfl
      · split at hX
        · cases hX
        · simp only [Option.some.injEq, Prod.mk.injEq] at hX; obtain ⟨-, rfl, rfl⟩ := hX; rfl
    have her : er = 0 ∨ er = 2 := by
      have hX := HXX.out
      unfold Un.solve at hX
      split at hX
      · cases hX
      · simp only [Option.some.injEq, Prod.mk.injEq] at hX; exact .inr hX.2.2.symm
      · split at hX
        · cases hX
        · simp only [Option.some.injEq, Prod.mk.injEq] at hX; exact .inl hX.2.2.symm
    go_wp2_with fail
    refine Hs.out.mono ?_
    rintro e w7 ⟨v, rfl, hv, t7⟩
    have Hfin := Lib.hid (show RowBe (L, bb, er) w (.returned (.tuple #[v, .bool bb, .int .i64 er])) w7 from ⟨v, rfl, hv, HU6.out.turned.trans t7 (fun i hi e => by have := HU6.out.lo2; omega)⟩)
    clear hv t7 q2 q3
    clear Hs HXX
    rcases her with rfl | rfl
    · obtain rfl : bb = true := hbe
      go_wp2
      go_ret3
      exact Hfin.out
    · obtain rfl : bb = false := hbe
      go_wp2
      go_ret3
      exact Hfin.out
end Go.Proofs.Ytljnmjehokijgaa

/- sane: it returns true. -/
namespace Go.Proofs.Ytljnmjehokijgaa
open Go.RowKit

theorem sane_all (w : World) : Calls Try.prog 9 #[] w fun e w' => e = .returned (.bool true) ∧ Turned w w' (fun _ => False) := by
  refine sane_any ?_ ?_ w
  · intro w v0 v1 h0 h1
    refine (sigUnify_any 20 (by omega) _ _ v0 v1 w h0 h1 (by simp [Tm.small, Tm.smalls, tX]) (by simp [Tm.small, Tm.smalls, tY]) _ unify_one).mono ?_
    rintro e w' ⟨v, rfl, hv, t⟩
    exact ⟨_, rfl, ⟨v, rfl, hv⟩, t⟩
  · intro w v0 v1 h0 h1
    refine (sigUnify_any 20 (by omega) _ _ v0 v1 w h0 h1 (by simp [Tm.small, Tm.smalls, tX]) (by simp [Tm.small, Tm.smalls, tX]) _ unify_two).mono ?_
    rintro e w' ⟨v, rfl, hv, t⟩
    exact ⟨_, rfl, ⟨v, rfl, hv⟩, t⟩
end Go.Proofs.Ytljnmjehokijgaa
