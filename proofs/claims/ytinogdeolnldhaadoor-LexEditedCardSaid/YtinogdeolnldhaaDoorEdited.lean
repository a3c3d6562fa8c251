/- LexEdited: the walk. -/
import Derived.Test.YtinogdeolnldhaaDoorEditAll
import Derived.StillTailTactics
namespace Go.Proofs.YtinogdeolnldhaaDoor
open Go.RowKit

/-- The edit that undoes an edit. -/
theorem ed_undo (l s : Lx.Bytes) (A C : Nat) (h : A + C ≤ l.length) :
    edOf (edOf l s A C) ((l.drop A).take C) A s.length = l := by
  have hA : (l.take A).length = A := by rw [List.length_take]; omega
  simp only [edOf, Int.toNat_natCast]
  have e1 : (l.take A ++ s ++ l.drop (A + C)).take A = l.take A := by
    rw [List.append_assoc, List.take_append_of_le_length (by omega), List.take_of_length_le (by omega)]
  have e2 : (l.take A ++ s ++ l.drop (A + C)).drop (A + s.length) = l.drop (A + C) := by
    have hl : A + s.length = (l.take A ++ s).length := by rw [List.length_append, hA]
    rw [hl, List.drop_left]
  rw [e1, e2, ← List.drop_drop, List.append_assoc, List.take_append_drop, List.take_append_drop]

/-- Two edits at different places, in either order. -/
theorem ed_swap (l s f : Lx.Bytes) (A C F G : Nat) (h1 : A + C ≤ F) (h2 : F + G ≤ l.length) :
    edOf (edOf l s A C) f ((F - C + s.length : Nat) : Int) G = edOf (edOf l f F G) s A C := by
  have hA : (l.take A).length = A := by rw [List.length_take]; omega
  have hF : (l.take F).length = F := by rw [List.length_take]; omega
  simp only [edOf, Int.toNat_natCast]
  have hl : F - C + s.length = (l.take A ++ s).length + (F - (A + C)) := by rw [List.length_append, hA]; omega
  have e1 : (l.take A ++ s ++ l.drop (A + C)).take (F - C + s.length) = l.take A ++ s ++ (l.drop (A + C)).take (F - (A + C)) := by
    rw [hl, List.take_length_add_append]
  have e2 : (l.take A ++ s ++ l.drop (A + C)).drop (F - C + s.length + G) = l.drop (F + G) := by
    rw [hl, Nat.add_assoc, List.drop_length_add_append, List.drop_drop]
    congr 1
    omega
  have e3 : (l.take F ++ f ++ l.drop (F + G)).take A = l.take A := by
    rw [List.append_assoc, List.take_append_of_le_length (by omega), List.take_take, Nat.min_eq_left (by omega)]
  have e4 : (l.take F ++ f ++ l.drop (F + G)).drop (A + C) = (l.drop (A + C)).take (F - (A + C)) ++ f ++ l.drop (F + G) := by
    rw [List.append_assoc, List.drop_append_of_le_length (by omega), List.drop_take, List.append_assoc]
  rw [e1, e2, e3, e4]
  simp only [List.append_assoc]

theorem ed_len (l s : Lx.Bytes) (A C : Nat) (h : A + C ≤ l.length) : (edOf l s A C).length + C = l.length + s.length := by
  simp only [edOf, Int.toNat_natCast, List.length_append, List.length_take, List.length_drop]
  omega

theorem tokV_cases (t : Lx.Bytes) (h : t.length ≤ 20000) :
    (∃ q : Nat, (Lx.toks t).bad = some q ∧ tokV t = ([], (q : Int), 10)) ∨ ((Lx.toks t).bad = none ∧ tokV t = ((Lx.toks t).toks.map ofTok, 0, 0)) := by
  have hc := toks_count t
  unfold tokV
  rw [if_neg (by omega)]
  cases hq : (Lx.toks t).bad with
  | some q => exact .inl ⟨q, rfl, rfl⟩
  | none => exact .inr ⟨rfl, if_neg (by omega)⟩

theorem chV_good (l s : Lx.Bytes) (A C : Nat) (hb : (Lx.toks l).bad = none) (h : A + C ≤ l.length) :
    chV l s ((Lx.toks l).toks.map ofTok) A C = (edOf l s A C, tokV (edOf l s A C)) := by
  unfold chV
  exact if_pos ⟨hb, (eqB_iff _ _).2 rfl, decide_eq_true ⟨by omega, by omega, by omega, by omega⟩⟩

theorem chV_bad (l s : Lx.Bytes) (la : List ATok) (a c : Int) (h : withinB a c l.length = false) : chV l s la a c = ([], [], 0, 1) := by
  unfold chV
  exact if_neg (fun hh => by rw [h] at hh; cases hh.2.2)

theorem ext_mid (l : Lx.Bytes) (a c : Nat) : (ByteArray.mk l.toArray).extract a (a + c) = ⟨((l.drop a).take c).toArray⟩ := by
  rw [Lib.extract_eq]
  simp

set_option maxRecDepth 100000 in
set_option maxHeartbeats 3200000 in
theorem lexEdited_any (w : World) (he : Env w) (h7 : 7 ≤ w.heap.size) (t : Lx.Bytes) (ea ec : Int) (es : Lx.Bytes) (fa fc : Int) (fs : Lx.Bytes) (htl : t.length ≤ 140737488351232) (hel : es.length ≤ 140737488351232) (hfl : fs.length ≤ 140737488351232) :
    Calls Tryd.prog 5 #[.string ⟨t.toArray⟩, .agg #[.int .i64 ea, .int .i64 ec, .string ⟨es.toArray⟩], .agg #[.int .i64 fa, .int .i64 fc, .string ⟨fs.toArray⟩]] w fun e w' => e = .returned (.bool true) ∧ Below w.heap.size w w' := by
  have HLR : Hid (∀ x ∈ [t, es, fs], x.length ≤ 140737488351232) := Lib.hid (by
    intro x hx
    simp only [List.mem_cons, List.not_mem_nil, or_false] at hx
    rcases hx with rfl | rfl | rfl
    · exact htl
    · exact hel
    · exact hfl)
  obtain ⟨W, hW⟩ : ∃ W, W = (w.alloc (.cells #[.int .i64 ea, .int .i64 ec, .string ⟨es.toArray⟩] 31)).alloc (.cells #[.int .i64 fa, .int .i64 fc, .string ⟨fs.toArray⟩] 31) := ⟨_, rfl⟩
  have tW : Turned w W (fun _ => False) := by rw [hW]; exact ((Turned.refl w _).alloc _).alloc _
  have k4 : W.heap[w.heap.size]? = some (.cells #[.int .i64 ea, .int .i64 ec, .string ⟨es.toArray⟩] 31 (0, 0)) := by
    rw [hW]
    refine Eq.trans ?_ (heap_alloc_new w (.cells #[.int .i64 ea, .int .i64 ec, .string ⟨es.toArray⟩] 31))
    exact ((Turned.refl (w.alloc (.cells #[.int .i64 ea, .int .i64 ec, .string ⟨es.toArray⟩] 31)) (fun _ => False)).alloc (.cells #[.int .i64 fa, .int .i64 fc, .string ⟨fs.toArray⟩] 31)).block _ (lt_of_block (heap_alloc_new w _)) (fun hf => hf)
  have k5 : W.heap[w.heap.size + 1]? = some (.cells #[.int .i64 fa, .int .i64 fc, .string ⟨fs.toArray⟩] 31 (0, 0)) := by
    rw [hW]
    have h := heap_alloc_new (w.alloc (.cells #[.int .i64 ea, .int .i64 ec, .string ⟨es.toArray⟩] 31)) (.cells #[.int .i64 fa, .int .i64 fc, .string ⟨fs.toArray⟩] 31)
    rwa [show (w.alloc (.cells #[.int .i64 ea, .int .i64 ec, .string ⟨es.toArray⟩] 31)).heap.size = w.heap.size + 1 by simp] at h
  have bW : Below w.heap.size w W := tW.below (Nat.le_refl _) (fun _ hf => hf.elim)
  have eW : Env W := he.below bW h7
  have h7W : 7 ≤ W.heap.size := Nat.le_trans h7 bW.size
  have hT : ∀ V, Below W.heap.size W V → Turned W V (fun _ => False) := fun V hb => Turned.ofBelow hb (fun k hk hle => by omega)
  have hC : ∀ V, Below W.heap.size W V → (V.cell? ⟨w.heap.size, 0, none⟩ = some (.int .i64 ea) ∧ V.cell? ⟨w.heap.size, 1, none⟩ = some (.int .i64 ec) ∧ V.cell? ⟨w.heap.size, 2, none⟩ = some (.string ⟨es.toArray⟩)) ∧
      (V.cell? ⟨w.heap.size + 1, 0, none⟩ = some (.int .i64 fa) ∧ V.cell? ⟨w.heap.size + 1, 1, none⟩ = some (.int .i64 fc) ∧ V.cell? ⟨w.heap.size + 1, 2, none⟩ = some (.string ⟨fs.toArray⟩)) ∧ w.heap.size + 1 < V.heap.size := fun V hb => by
    have h1 := ((hT V hb).block _ (lt_of_block k4) (fun hf => hf)).trans k4
    have h2 := ((hT V hb).block _ (lt_of_block k5) (fun hf => hf)).trans k5
    refine ⟨⟨?_, ?_, ?_⟩, ⟨?_, ?_, ?_⟩, lt_of_block h2⟩ <;> simp [World.cell?, h1, h2]
  have hFin : ∀ V, Below W.heap.size W V → Below w.heap.size w V := fun V hb => bW.trans (hb.mono bW.size)
  have hCh : ∀ V, Below W.heap.size W V → ∀ (l s : Lx.Bytes) (la : List ATok) (v : Value) (a c : Int), RowOf V v la → la.length ≤ 20000 → l.length + s.length ≤ 20000 →
      Calls Tryd.prog 13 #[.string ⟨l.toArray⟩, v, .agg #[.int .i64 a, .int .i64 c, .string ⟨s.toArray⟩]] V fun e w' => ChV (chV l s la a c) e w' ∧ Below W.heap.size W w' ∧ Turned V w' (fun _ => False) := by
    intro V hb l s la v a c hr hl hs
    refine (change_any W V eW h7W hb l s a c v la hr (by omega) hs).mono ?_
    rintro e w' ⟨h1, h2, h3⟩
    exact ⟨changePost_V h1, h2, Turned.ofBelow h3 (fun j hj hl => by omega)⟩
  have HCh := Lib.hid hCh
  have HC := Lib.hid hC
  have HFin := Lib.hid hFin
  have HW := Lib.hid hW
  clear hCh hT hC hFin hW k4 k5 tW he h7 bW htl hel hfl
  by_cases hsh : t.length + (es.length + fs.length) ≤ 20000
  rotate_left 1
  · go_enter Tryd.func5, Tryd.ntmps5
    go_wp2_with fail
    rw [← HW.out]
    refine (sane_any W eW h7W).mono ?_
    rintro e w1 ⟨rfl, b1⟩
    obtain ⟨⟨c40, c41, c42⟩, ⟨c50, c51, c52⟩, l5⟩ := HC.out w1 b1
    go_wp2_with fail
    refine (shortK W _ b1 [t, es, fs] 3 false rfl (by omega) HLR.out (by rw [sum3]; exact decide_eq_false hsh)).mono ?_
    rintro e w2 ⟨rfl, b2⟩
    go_wp2
    go_ret
    exact ⟨rfl, HFin.out _ b2⟩
  have hcl := toks_count t
  cases hbad : (Lx.toks t).bad with
  | some q =>
    have Hbad := Lib.hid hbad
    clear hbad
    go_enter Tryd.func5, Tryd.ntmps5
    go_wp2_with fail
    rw [← HW.out]
    refine (sane_any W eW h7W).mono ?_
    rintro e w1 ⟨rfl, b1⟩
    obtain ⟨⟨c40, c41, c42⟩, ⟨c50, c51, c52⟩, l5⟩ := HC.out w1 b1
    go_wp2_with fail
    refine (shortK W _ b1 [t, es, fs] 3 true rfl (by omega) HLR.out (by rw [sum3]; exact decide_eq_true hsh)).mono ?_
    rintro e w2 ⟨rfl, b2⟩
    clear c40 c41 c42 c50 c51 c52 l5 b1
    go_wp2_with fail
    refine (tokens_err W _ eW h7W b2 t (by omega) q Hbad.out).mono ?_
    rintro e w3 ⟨rfl, b3, -⟩
    go_wp2
    go_ret
    exact ⟨rfl, HFin.out _ b3⟩
  | none =>
  have Hbad := Lib.hid hbad
  clear hbad
  go_enter Tryd.func5, Tryd.ntmps5
  go_wp2_with fail
  rw [← HW.out]
  refine (sane_any W eW h7W).mono ?_
  rintro e w1 ⟨rfl, b1⟩
  obtain ⟨⟨c40, c41, c42⟩, ⟨c50, c51, c52⟩, l5⟩ := HC.out w1 b1
  go_wp2_with fail
  refine (shortK W _ b1 [t, es, fs] 3 true rfl (by omega) HLR.out (by rw [sum3]; exact decide_eq_true hsh)).mono ?_
  rintro e w2 ⟨rfl, b2⟩
  clear c40 c41 c42 c50 c51 c52 l5 b1
  go_wp2_with fail
  refine (tokens_fine W _ eW h7W b2 t (by omega) Hbad.out (by omega)).mono ?_
  rintro e w3 ⟨va, vc, rfl, ho, b3, -⟩
  have r0 := rowOf_owns (l := (Lx.toks t).toks.map ofTok) (v := .slice va (Lx.toks t).toks.length vc) (by rw [List.length_map, flat_ofTok]; exact ho)
  have R0 := Lib.hid r0
  have B3 := Lib.hid b3
  have hLm : ((Lx.toks t).toks.map ofTok).length ≤ 20000 := by rw [List.length_map]; omega
  obtain ⟨⟨c40, c41, c42⟩, ⟨c50, c51, c52⟩, l5⟩ := HC.out w3 b3
  have hch := HCh.out w3 b3 t es _ _ ea ec r0 hLm (by omega)
  have hbt := Hbad.out
  have htv : tokV t = ((Lx.toks t).toks.map ofTok, 0, 0) := by
    rcases tokV_cases t (by omega) with ⟨q, hq, -⟩ | ⟨-, h⟩
    · rw [hbt] at hq; cases hq
    · exact h
  have hX1 := chV_bad t es ((Lx.toks t).toks.map ofTok) ea ec
  have hX2 := fun (A C : Nat) (h : A + C ≤ t.length) => chV_good t es A C hbt h
  have hX3 := fun (F G : Nat) (h : F + G ≤ t.length) => chV_good t fs F G hbt h
  obtain ⟨X, hX⟩ : ∃ X, X = chV t es ((Lx.toks t).toks.map ofTok) ea ec := ⟨_, rfl⟩
  rw [← hX] at hch
  have Hch := Lib.hid hch
  have HX := Lib.hid hX
  have HX1 := Lib.hid hX1
  have HX2 := Lib.hid hX2
  have HX3 := Lib.hid hX3
  have Htv := Lib.hid htv
  clear ho r0 b2 b3 hch hX hX1 hX2 hX3 htv hbt
  go_wp2_with fail
  refine Hch.out.mono ?_
  rintro e w4 ⟨⟨tv1, rfl, r1, n1⟩, b4, t4⟩
  clear c40 c41 c42 c50 c51 c52 l5
  have hx := HX.out
  cases hwi : withinB ea ec t.length with
  | false =>
    rw [HX1.out hwi] at hx
    subst hx
    obtain ⟨a1, c1, rfl, -⟩ := r1
    simp only [List.length_nil]
    clear hwi
    go_wp2
    go_ret
    exact ⟨rfl, HFin.out _ b4⟩
  | true =>
  obtain ⟨h1, h2, h3, h4⟩ : 0 ≤ ea ∧ 0 ≤ ec ∧ ea ≤ t.length ∧ ec ≤ t.length - ea := of_decide_eq_true hwi
  clear hwi
  obtain ⟨A, rfl⟩ : ∃ A : Nat, ea = A := ⟨ea.toNat, by omega⟩
  obtain ⟨C, rfl⟩ : ∃ C : Nat, ec = C := ⟨ec.toNat, by omega⟩
  have hAC : A + C ≤ t.length := by omega
  rw [HX2.out A C hAC] at hx
  have hl2 := ed_len t es A C hAC
  have hun := ed_undo t es A C hAC
  have hsw := fun (F G : Nat) (h1 : A + C ≤ F) (h2 : F + G ≤ t.length) => ed_swap t es fs A C F G h1 h2
  have Hsw := Lib.hid hsw
  clear hsw
  generalize edOf t es (A : Int) (C : Int) = s2 at hx hl2 hun Hsw
  rcases tokV_cases s2 (by omega) with ⟨q, hq, hv⟩ | ⟨hq, hv⟩
  · rw [hv] at hx
    subst hx
    obtain ⟨a1, c1, rfl, -⟩ := r1
    simp only [List.length_nil]
    clear hv hq hun
    go_wp2
    go_ret
    exact ⟨rfl, HFin.out _ b4⟩
  rw [hv] at hx
  subst hx
  simp only at r1 n1
  have hU : ∀ V, Turned w4 V (fun _ => False) → Calls Tryd.prog 13 #[.string ⟨s2.toArray⟩, tv1, .agg #[.int .i64 (A : Int), .int .i64 (es.length : Int), .string ⟨((t.drop A).take C).toArray⟩]] V fun e w' =>
      ChV (t, (Lx.toks t).toks.map ofTok, 0, 0) e w' ∧ Below W.heap.size W w' ∧ Turned V w' (fun _ => False) := by
    intro V hV
    have h5 := HCh.out V (b4.trans (hV.below (B := W.heap.size) b4.size (fun _ hf => hf.elim))) s2 ((t.drop A).take C) _ _ A es.length (r1.turned hV (fun _ _ _ _ hf => hf)) n1 (by have := List.length_take_le C (t.drop A); omega)
    rwa [chV_good s2 _ A es.length hq (by omega), hun, Htv.out] at h5
  have HU := Lib.hid hU
  have R1 := Lib.hid r1
  have T4 := Lib.hid t4
  have B4 := Lib.hid b4
  have Hq := Lib.hid hq
  obtain ⟨⟨c40, c41, c42⟩, ⟨c50, c51, c52⟩, l5⟩ := HC.out w4 b4
  have hA0 : ¬ (A : Int) < 0 := by omega
  have hC0 : ¬ (C : Int) < 0 := by omega
  have hA1 : (A : Int) ≤ (t.length : Int) := by omega
  have hA2 : ¬ (t.length : Int) < (A : Int) := by omega
  have hs1 : IntKind.i64.wrap ((t.length : Int) - (A : Int)) = ((t.length - A : Nat) : Int) := by rw [IntWalk.i64_in _ (by omega)]; omega
  have hC1 : (C : Int) ≤ ((t.length - A : Nat) : Int) := by omega
  have hC2 : ¬ ((t.length - A : Nat) : Int) < (C : Int) := by omega
  have hs2 : IntKind.i64.wrap ((A : Int) + (C : Int)) = (A : Int) + (C : Int) := IntWalk.i64_in _ (by omega)
  have hs3 : ((A : Int) + (C : Int)).toNat = A + C := by omega
  have hi1 : (0 : Int) ≤ (A : Int) + (C : Int) := by omega
  have hi2 : (A : Int) + (C : Int) ≤ (t.length : Int) := by omega
  have hi3 : (A : Int) ≤ (A : Int) + (C : Int) := by omega
  have hex := ext_mid t A C
  have Sof : ∀ w' : World, Turned w4 w' (fun _ => False) → (w'.cell? ⟨w.heap.size, 0, none⟩ = some (.int .i64 (A : Int)) ∧ w'.cell? ⟨w.heap.size, 1, none⟩ = some (.int .i64 (C : Int)) ∧ w'.cell? ⟨w.heap.size, 2, none⟩ = some (.string ⟨es.toArray⟩)) ∧ Turned w4 w' (fun _ => False) := fun w' t =>
    ⟨(HC.out w' (B4.out.trans (t.below (B := W.heap.size) B4.out.size (fun _ hf => hf.elim)))).1, t⟩
  have HSof := Lib.hid Sof
  have tt : Turned w4 w4.drew (fun _ => False) := (Turned.refl w4 _).drew
  clear hU r1 t4 b4 hq hv h1 h2 h3 h4 hun Sof
  go_wp2_with fail
  go_region_held3 (fun w' => (w'.cell? ⟨w.heap.size, 0, none⟩ = some (.int .i64 (A : Int)) ∧ w'.cell? ⟨w.heap.size, 1, none⟩ = some (.int .i64 (C : Int)) ∧ w'.cell? ⟨w.heap.size, 2, none⟩ = some (.string ⟨es.toArray⟩)) ∧ Turned w4 w' (fun _ => False))
    (first | exact HSof.out _ (by assumption) | exact HSof.out _ (Turned.drew (by assumption)) | exact HSof.out _ (tt.trans t5 (fun _ _ hf => hf)))
    (first
      | (go_at_call 13; refine (HU.out _ tt).mono ?_; rintro e w5 ⟨⟨tv2, rfl, r2, n2⟩, b5, t5⟩))
  have hsm := same_any2 tv2 (.slice va (Lx.toks t).toks.length vc) _ _ w5 r2 ((R0.out.turned T4.out (fun _ _ _ _ hf => hf)).turned (tt.trans t5 (fun _ _ hf => hf)) (fun _ _ _ _ hf => hf)) (by omega) (by omega)
  rw [(eqB_iff _ _).2 rfl] at hsm
  have Hsm := Lib.hid hsm
  have T5 := Lib.hid (tt.trans t5 (fun _ _ hf => hf))
  clear hsm r2 n2 t5 tt hs1 hC1 hC2 hA1 hA2 hex hs3 hi1 hi2 hi3 c40 c41 c42 c50 c51 c52 l5
  go_wp2_with fail
  refine Hsm.out.mono ?_
  rintro e w6 ⟨rfl, t6⟩
  have b6 := b5.trans (t6.below (B := W.heap.size) b5.size (fun _ hf => hf.elim))
  have T6 := Lib.hid (T5.out.trans t6 (fun _ _ hf => hf))
  obtain ⟨⟨c40, c41, c42⟩, ⟨c50, c51, c52⟩, l5⟩ := HC.out w6 b6
  clear t6
  by_cases g1 : fa < (A : Int) + (C : Int)
  · go_wp2
    go_ret
    exact ⟨rfl, HFin.out _ b6⟩
  have g0 : ¬ fa < 0 := by omega
  by_cases g2 : fc < 0
  · go_wp2
    go_ret
    exact ⟨rfl, HFin.out _ b6⟩
  by_cases g3 : (t.length : Int) < fa
  · go_wp2
    go_ret
    exact ⟨rfl, HFin.out _ b6⟩
  have hs5 : IntKind.i64.wrap ((t.length : Int) - fa) = (t.length : Int) - fa := IntWalk.i64_in _ (by omega)
  by_cases g4 : (t.length : Int) - fa < fc
  · go_wp2
    go_ret
    exact ⟨rfl, HFin.out _ b6⟩
  go_wp2_with fail
  obtain ⟨F, rfl⟩ : ∃ F : Nat, fa = F := ⟨fa.toNat, by omega⟩
  obtain ⟨G, rfl⟩ : ∃ G : Nat, fc = G := ⟨fc.toNat, by omega⟩
  have hFG : F + G ≤ t.length := by omega
  have hACF : A + C ≤ F := by omega
  rw [show ((F : Int) - (C : Int) + (es.length : Int)) = ((F - C + es.length : Nat) : Int) by omega]
  have hone := HCh.out w6 b6 s2 fs _ tv1 ((F - C + es.length : Nat) : Int) G ((R1.out.turned T6.out (fun _ _ _ _ hf => hf))) n1 (by omega)
  rw [chV_good s2 fs (F - C + es.length) G Hq.out (by omega), Hsw.out F G hACF hFG] at hone
  have htwo := fun (V : World) (hV : Turned w6 V (fun _ => False)) => HCh.out V (b6.trans (hV.below (B := W.heap.size) b6.size (fun _ hf => hf.elim))) t fs _ (.slice va (Lx.toks t).toks.length vc) F G (((R0.out.turned T4.out (fun _ _ _ _ hf => hf)).turned T6.out (fun _ _ _ _ hf => hf)).turned hV (fun _ _ _ _ hf => hf)) hLm (by omega)
  rw [HX3.out F G hFG] at htwo
  have hl3 := ed_len t fs F G hFG
  generalize edOf t fs (F : Int) (G : Int) = two at hone htwo hl3
  have hthree := fun (V : World) (hb : Below W.heap.size W V) (v : Value) (hr : RowOf V v ((Lx.toks two).toks.map ofTok)) (hq : (Lx.toks two).bad = none) => HCh.out V hb two es _ v A C hr (by rw [List.length_map]; have := toks_count two; omega) (by omega)
  have hthree2 : ∀ (V : World) (hb : Below W.heap.size W V) (v : Value) (hr : RowOf V v ((Lx.toks two).toks.map ofTok)) (hq : (Lx.toks two).bad = none),
      Calls Tryd.prog 13 #[.string ⟨two.toArray⟩, v, .agg #[.int .i64 (A : Int), .int .i64 (C : Int), .string ⟨es.toArray⟩]] V fun e w' => ChV (edOf two es A C, tokV (edOf two es A C)) e w' ∧ Below W.heap.size W w' ∧ Turned V w' (fun _ => False) := by
    intro V hb v hr hq
    have h := hthree V hb v hr hq
    rwa [chV_good two es A C hq (by omega)] at h
  have hc2 := tokV_cases two (by omega)
  generalize edOf two es (A : Int) (C : Int) = one at hone hthree2
  generalize tokV one = Y at hone hthree2
  generalize tokV two = Z at htwo hc2
  obtain ⟨x2, x3, x4⟩ := Y
  have Hone := Lib.hid hone
  have Htwo := Lib.hid htwo
  have Hthree := Lib.hid hthree2
  have Hc2 := Lib.hid hc2
  clear hone htwo hthree hthree2 hc2 c40 c41 c42 c50 c51 c52 hs2 hs5 g0 g1 g2 g3 g4 hl2 hl3
  refine Hone.out.mono ?_
  rintro e w7 ⟨⟨tv3, rfl, r3, n3⟩, b7, t7⟩
  obtain ⟨⟨c40, c41, c42⟩, ⟨c50, c51, c52⟩, l5⟩ := HC.out w7 b7
  have R3 := Lib.hid r3
  clear r3
  go_wp2_with fail
  refine (Htwo.out w7 t7).mono ?_
  rintro e w8 ⟨⟨tv4, rfl, r4, n4⟩, b8, t8⟩
  clear c40 c41 c42 c50 c51 c52 t7
  rcases Hc2.out with ⟨q, hq, rfl⟩ | ⟨hq, rfl⟩
  · go_wp2
    go_ret
    exact ⟨rfl, HFin.out _ b8⟩
  have hthird := Hthree.out w8 b8 tv4 r4 hq
  have Hthird := Lib.hid hthird
  have T8 := Lib.hid t8
  obtain ⟨⟨c40, c41, c42⟩, ⟨c50, c51, c52⟩, l5⟩ := HC.out w8 b8
  clear hthird hq r4 n4 t8
  go_wp2_with fail
  refine Hthird.out.mono ?_
  rintro e w9 ⟨⟨tv5, rfl, r5, n5⟩, b9, t9⟩
  have hsm := same_any2 tv3 tv5 _ _ w9 ((R3.out.turned T8.out (fun _ _ _ _ hf => hf)).turned t9 (fun _ _ _ _ hf => hf)) r5 (by omega) (by omega)
  rw [(eqB_iff _ _).2 rfl] at hsm
  have Hsm2 := Lib.hid hsm
  clear hsm r5 t9 c40 c41 c42 c50 c51 c52
  go_wp2_with fail
  refine Hsm2.out.mono ?_
  rintro e w10 ⟨rfl, t10⟩
  have b10 := b9.trans (t10.below (B := W.heap.size) b9.size (fun _ hf => hf.elim))
  go_wp2
  go_ret
  exact ⟨rfl, HFin.out _ b10⟩
end Go.Proofs.YtinogdeolnldhaaDoor
