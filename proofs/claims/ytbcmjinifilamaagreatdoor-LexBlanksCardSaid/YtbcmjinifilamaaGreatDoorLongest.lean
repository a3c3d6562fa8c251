/- LexLongest: the walk. -/
import Derived.Test.YtbcmjinifilamaaGreatDoorRKind
import Derived.Test.YtbcmjinifilamaaGreatDoorPure
import Derived.Test.YtbcmjinifilamaaGreatDoorLike
import Derived.BigQuiet
namespace Go.Proofs.YtbcmjinifilamaaGreatDoor
open Go.RowKit

theorem rowOf_at {w : World} {va : Option Addr} {n vc : Nat} {o : List Lx.Tok} (h : RowOf w (.slice va n vc) (o.map ofTok)) (j : Nat) (hj : j < o.length) : ∃ g off, va = some ⟨g, off, none⟩ ∧ g < w.heap.size ∧
    ∀ (i : Nat) (u : Value), (tokCells o[j])[i]? = some u → w.cell? ⟨g, off + j * 5 + i, none⟩ = some u := by
  obtain ⟨a, cap, hv, hr⟩ := h
  simp only [Value.slice.injEq] at hv
  obtain ⟨g, off, ha, hg, hc⟩ := hr (by intro h; have := congrArg List.length h; rw [List.length_map] at this; simp only [List.length_nil] at this; omega)
  refine ⟨g, off, hv.1.trans ha, hg, fun i u hu => hc j (ofTok o[j]) ?_ i u hu⟩
  rw [List.getElem?_map, List.getElem?_eq_getElem hj]
  rfl


set_option maxRecDepth 100000 in
set_option maxHeartbeats 3200000 in
theorem lexLongest_any (w : World) (he : Env w) (h7 : 7 ≤ w.heap.size) (l : Lx.Bytes) (hl : l.length ≤ 140737488351232) :
    Calls Tryz.prog 9 #[.string ⟨l.toArray⟩] w fun e w' => e = .returned (.bool true) ∧ Below w.heap.size w w' := by
  have HLR : Hid (∀ s ∈ [l], s.length ≤ 140737488351232) := Lib.hid (by
    intro s hs
    rw [List.mem_singleton.1 hs]; exact hl)
  have H7 := Lib.hid h7
  clear h7
  have hsz1 : (l.length : Int) ≤ 9223372036854775807 := by omega
  go_enter Tryz.func9, Tryz.ntmps9
  go_wp2_with fail
  refine (sane_any w he H7.out).mono ?_
  rintro e w1 ⟨rfl, b1⟩
  by_cases hs : l.length ≤ 20000
  · go_wp2_with fail
    refine (shortK w _ b1 [l] 1 true rfl (by omega) HLR.out (by rw [sum1]; exact decide_eq_true hs)).mono ?_
    rintro e w2 ⟨rfl, b2⟩
    clear b1
    have hcl := toks_count l
    cases hbad : (Lx.toks l).bad with
    | some q =>
      have Hbad := Lib.hid hbad
      clear hbad
      go_wp2_with fail
      refine (tokens_err w _ he H7.out b2 l (by omega) q Hbad.out).mono ?_
      rintro e w3 ⟨rfl, b3, -⟩
      clear b2
      go_wp2
      go_ret
      exact ⟨rfl, b3⟩
    | none =>
      have Hbad := Lib.hid hbad
      clear hbad
      go_wp2_with fail
      refine (tokens_fine w _ he H7.out b2 l (by omega) Hbad.out (by omega)).mono ?_
      rintro e w3 ⟨va, vc, rfl, ho3, b3, -⟩
      have r3 := rowOf_owns (l := (Lx.toks l).toks.map ofTok) (v := .slice va (Lx.toks l).toks.length vc) (by rw [List.length_map, flat_ofTok]; exact ho3)
      have hf := Lx.toks_cut0 l
      have Hf := Lib.hid hf
      clear b2 ho3 hf
      generalize (Lx.toks l).toks = o at *
      have R3 := Lib.hid (rowOf_at r3)
      have B3 := Lib.hid b3
      clear r3 b3
      go_wp2_with fail
      go_loopw [24] (fun i wr => ∃ k : Nat, k ≤ o.length ∧ i = .int .i64 k ∧ Turned w3 wr (fun _ => False)) (fun i _ => o.length - (intOf i).toNat)
      case atStart => exact ⟨0, Nat.zero_le _, rfl, Turned.refl _ _⟩
      case round =>
        obtain ⟨k, hk, rfl, ht⟩ := hrel
        by_cases hlt : k < o.length
        · have hki : (k : Int) < (o.length : Int) := by omega
          obtain ⟨g, off, rfl, lg, xc⟩ := R3.out k hlt
          have hx := Hf.out o[k] (List.getElem_mem hlt)
          generalize o[k] = x at *
          obtain ⟨tk, tn, ts, ta, te⟩ := x
          simp only at hx
          obtain ⟨x1, x2, x3⟩ := hx
          have pa := fun (i : Nat) (u : Value) (hu : (tokCells ⟨tk, tn, ts, ta, te⟩)[i]? = some u) => (ht.cell (p := ⟨g, off + k * 5 + i, none⟩) lg (fun hf => hf)).trans (xc i u hu)
          have p0 : wr.cell? ⟨g, off + k * 5, none⟩ = some (.int .i64 tk) := pa 0 _ rfl
          have p1 : wr.cell? ⟨g, off + k * 5 + 1, none⟩ = some (.int .i64 tn) := pa 1 _ rfl
          have p2 : wr.cell? ⟨g, off + k * 5 + 2, none⟩ = some (.string ⟨ts.toArray⟩) := pa 2 _ rfl
          have p3 : wr.cell? ⟨g, off + k * 5 + 3, none⟩ = some (.int .i64 ta) := pa 3 _ rfl
          have p4 : wr.cell? ⟨g, off + k * 5 + 4, none⟩ = some (.int .i64 te) := pa 4 _ rfl
          have lg' : g < wr.heap.size := Nat.lt_of_lt_of_le lg ht.size
          clear xc pa lg
          by_cases h3 : 300 < k
          · have h3i : (300 : Int) < (k : Int) := by omega
            have bE := B3.out.trans (((ht.alloc (.cells #[.int .i64 tk, .int .i64 tn, .string ⟨ts.toArray⟩, .int .i64 ta, .int .i64 te] 43)).below (B := w.heap.size) B3.out.size (fun _ hf => hf.elim)))
            go_wp2
            go_ret
            exact ⟨rfl, bE⟩
          · have h3i : (k : Int) ≤ 300 := by omega
            have hkd := Lx.kind_alone x3
            have hk1 := (Lx.cut1_text x3).2
            have y1 : ¬ (te : Int) < 0 := by omega
            have y2 : ¬ (l.length : Int) < (te : Int) := by omega
            have y3 : ¬ (ta : Int) < 0 := by omega
            have y4 : ¬ (te : Int) < (ta : Int) := by omega
            have hne : ((0 : Int) == (tk : Int)) = false := by simp; omega
            go_wp2_with fail
            have kT := heap_alloc_new wr (.cells #[.int .i64 tk, .int .i64 tn, .string ⟨ts.toArray⟩, .int .i64 ta, .int .i64 te] 43)
            have tV := ht.alloc (.cells #[.int .i64 tk, .int .i64 tn, .string ⟨ts.toArray⟩, .int .i64 ta, .int .i64 te] 43)
            generalize wr.alloc (.cells #[.int .i64 tk, .int .i64 tn, .string ⟨ts.toArray⟩, .int .i64 ta, .int .i64 te] 43) = V at *
            generalize wr.heap.size = Y at *
            have TV := Lib.hid tV
            have lT := lt_of_block kT
            have Sof : ∀ w' : World, Turned V w' (fun _ => False) → (w'.cell? ⟨Y, 0, none⟩ = some (.int .i64 tk) ∧ w'.cell? ⟨Y, 3, none⟩ = some (.int .i64 ta) ∧ w'.cell? ⟨Y, 4, none⟩ = some (.int .i64 te)) ∧ Turned V w' (fun _ => False) := fun w' t => by
              have k1 := (t.block Y lT (fun hf => hf)).trans kT
              exact ⟨⟨by simp [World.cell?, k1], by simp [World.cell?, k1], by simp [World.cell?, k1]⟩, t⟩
            have HSof := Lib.hid Sof
            obtain ⟨⟨q0, q3, q4⟩, -⟩ := Sof V (Turned.refl _ _)
            have tt : Turned V V.drew (fun _ => False) := (Turned.refl V _).drew
            clear Sof kT tV p0 p1 p2 p3 p4 lg' x3 ht
            by_cases hte : te < l.length
            · have hd := decide_eq_true (show (te : Int) < (l.length : Int) by omega)
              have hkz := hkd.2 (by rw [List.length_drop]; omega)
              have hex : (ByteArray.mk l.toArray).extract ta (te + 1) = ⟨((l.drop ta).take (te - ta + 1)).toArray⟩ := by
                rw [Lib.extract_eq, show te + 1 - ta = te - ta + 1 by omega]
              have hR := fun V => rkind_any ((l.drop ta).take (te - ta + 1)) (by rw [List.length_take, List.length_drop]; omega) V
              rw [hkz, show ((0 : Nat) : Int) = 0 from rfl] at hR
              generalize (l.drop ta).take (te - ta + 1) = ext at *
              have HRk := Lib.hid hR
              clear hR hkd hkz
              have sb0 : (0 : Int) ≤ (ta : Int) := by omega
              have sb1 : (ta : Int) ≤ (te : Int) + 1 := by omega
              have sb2 : (te : Int) + 1 ≤ (l.length : Int) := by omega
              have sb3 : (0 : Int) ≤ (te : Int) + 1 := by omega
              have sb4 : ((te : Int) + 1).toNat = te + 1 := by omega
              have sb5 : IntKind.i64.wrap ((te : Int) + 1) = (te : Int) + 1 := IntWalk.i64_in _ (by omega)
              refine wp_region_held_drew (S := (fun w' => (w'.cell? ⟨Y, 0, none⟩ = some (.int .i64 tk) ∧ w'.cell? ⟨Y, 3, none⟩ = some (.int .i64 ta) ∧ w'.cell? ⟨Y, 4, none⟩ = some (.int .i64 te)) ∧ Turned V w' (fun _ => False))) (by kernel_rfl) (HSof.out _ tt) (fun hHeld => ?_)
              refine wpAnyH_take (i := 0) (v := ?_) rfl (by kernel_rfl) (by kernel_rfl) (by kernel_rfl) (fun _ _ _ h => h) (Or.inl ⟨by rfl, ?_⟩) (by assumption) ?_
              rotate_left 1
              · (intro w hSw; (try dsimp only at hSw); first | (go_simp; done) | (go_simp; with_reducible rfl))
              simp only [List.getElem_toArray, List.getElem_cons_zero, Act.put, List.setIfInBounds_toArray, List.set_cons_zero, List.set_cons_succ]
              refine wpAnyH_take (i := 1) (v := ?_) rfl (by kernel_rfl) (by kernel_rfl) (by kernel_rfl) (fun _ _ _ h => h) (Or.inl ⟨by rfl, ?_⟩) (by assumption) ?_
              rotate_left 1
              · (intro w hSw; (try dsimp only at hSw); first | (go_simp; done) | (go_simp; with_reducible rfl))
              simp only [List.getElem_toArray, List.getElem_cons_zero, List.getElem_cons_succ, Act.put, List.setIfInBounds_toArray, List.set_cons_zero, List.set_cons_succ]
              refine wpAnyH_take (i := 2) (v := ?_) rfl (by kernel_rfl) (by kernel_rfl) (by kernel_rfl) (fun _ _ _ h => h) (Or.inl ⟨by rfl, ?_⟩) (by assumption) ?_
              rotate_left 1
              · (intro w hSw; (try dsimp only at hSw); first | (go_simp; done) | (go_simp; with_reducible rfl))
              simp only [List.getElem_toArray, List.getElem_cons_zero, List.getElem_cons_succ, Act.put, List.setIfInBounds_toArray, List.set_cons_zero, List.set_cons_succ]
              refine wpAnyH_take (i := 3) (v := ?_) rfl (by kernel_rfl) (by kernel_rfl) (by kernel_rfl) (fun _ _ _ h => h) (Or.inl ⟨by rfl, ?_⟩) (by assumption) ?_
              rotate_left 1
              · (intro w hSw; (try dsimp only at hSw); first | (go_simp; done) | (go_simp; with_reducible rfl))
              simp only [List.getElem_toArray, List.getElem_cons_zero, List.getElem_cons_succ, Act.put, List.setIfInBounds_toArray, List.set_cons_zero, List.set_cons_succ]
              refine wpAnyH_take (i := 4) (v := ?_) rfl (by kernel_rfl) (by kernel_rfl) (by kernel_rfl) (fun _ _ _ h => h) (Or.inl ⟨by rfl, ?_⟩) (by assumption) ?_
              rotate_left 1
              · (intro w hSw; (try dsimp only at hSw); first | (go_simp; done) | (go_simp; with_reducible rfl))
              simp only [List.getElem_toArray, List.getElem_cons_zero, List.getElem_cons_succ, Act.put, List.setIfInBounds_toArray, List.set_cons_zero, List.set_cons_succ]
              refine wpAnyH_take (i := 5) (v := ?_) rfl (by kernel_rfl) (by kernel_rfl) (by kernel_rfl) (fun _ _ _ h => h) (Or.inl ⟨by rfl, ?_⟩) (by assumption) ?_
              rotate_left 1
              · (intro w hSw; (try dsimp only at hSw); first | (go_simp; done) | (go_simp; with_reducible rfl))
              simp only [List.getElem_toArray, List.getElem_cons_zero, List.getElem_cons_succ, Act.put, List.setIfInBounds_toArray, List.set_cons_zero, List.set_cons_succ]
              refine wpAnyH_take (i := 6) (v := ?_) rfl (by kernel_rfl) (by kernel_rfl) (by kernel_rfl) (fun _ _ _ h => h) (Or.inl ⟨by rfl, ?_⟩) (by assumption) ?_
              rotate_left 1
              · (intro w hSw; (try dsimp only at hSw); first | (go_simp; done) | (go_simp; with_reducible rfl))
              simp only [List.getElem_toArray, List.getElem_cons_zero, List.getElem_cons_succ, Act.put, List.setIfInBounds_toArray, List.set_cons_zero, List.set_cons_succ]
              refine wpAnyH_take (i := 7) (v := ?_) rfl (by kernel_rfl) (by kernel_rfl) (by kernel_rfl) (fun _ _ _ h => h) (Or.inl ⟨by rfl, ?_⟩) (by assumption) ?_
              rotate_left 1
              · (intro w hSw; (try dsimp only at hSw); first | (go_simp; done) | (go_simp; with_reducible rfl))
              simp only [List.getElem_toArray, List.getElem_cons_zero, List.getElem_cons_succ, Act.put, List.setIfInBounds_toArray, List.set_cons_zero, List.set_cons_succ]
              refine wpAnyH_take (i := 8) (v := ?_) rfl (by kernel_rfl) (by kernel_rfl) (by kernel_rfl) (fun _ _ _ h => h) (Or.inl ⟨by rfl, ?_⟩) (by assumption) ?_
              rotate_left 1
              · (intro w hSw; (try dsimp only at hSw); first | (go_simp; done) | (go_simp; with_reducible rfl))
              simp only [List.getElem_toArray, List.getElem_cons_zero, List.getElem_cons_succ, Act.put, List.setIfInBounds_toArray, List.set_cons_zero, List.set_cons_succ]
              refine wpAnyH_take (i := 9) (v := ?_) rfl (by kernel_rfl) (by kernel_rfl) (by kernel_rfl) (fun _ _ _ h => h) (Or.inl ⟨by rfl, ?_⟩) (by assumption) ?_
              rotate_left 1
              · (intro w hSw; (try dsimp only at hSw); first | (go_simp; done) | (go_simp; with_reducible rfl))
              simp only [List.getElem_toArray, List.getElem_cons_zero, List.getElem_cons_succ, Act.put, List.setIfInBounds_toArray, List.set_cons_zero, List.set_cons_succ]
              refine wpAnyH_take (i := 10) (v := ?_) rfl (by kernel_rfl) (by kernel_rfl) (by kernel_rfl) (fun _ _ _ h => h) (Or.inl ⟨by rfl, ?_⟩) (by assumption) ?_
              rotate_left 1
              · (intro w hSw; (try dsimp only at hSw); first | (go_simp; done) | (go_simp; with_reducible rfl))
              simp only [List.getElem_toArray, List.getElem_cons_zero, List.getElem_cons_succ, Act.put, List.setIfInBounds_toArray, List.set_cons_zero, List.set_cons_succ]
              refine wpAnyH_take (i := 11) (v := ?_) rfl (by kernel_rfl) (by kernel_rfl) (by kernel_rfl) (fun _ _ _ h => h) (Or.inl ⟨by rfl, ?_⟩) (by assumption) ?_
              rotate_left 1
              · (intro w hSw; (try dsimp only at hSw); first | (go_simp; done) | (go_simp; with_reducible rfl))
              simp only [List.getElem_toArray, List.getElem_cons_zero, List.getElem_cons_succ, Act.put, List.setIfInBounds_toArray, List.set_cons_zero, List.set_cons_succ]
              refine wpAnyH_take (i := 12) (v := ?_) rfl (by kernel_rfl) (by kernel_rfl) (by kernel_rfl) (fun _ _ _ h => h) (Or.inl ⟨by rfl, ?_⟩) (by assumption) ?_
              rotate_left 1
              · (intro w hSw; (try dsimp only at hSw); first | (go_simp; done) | (go_simp; with_reducible rfl))
              simp only [List.getElem_toArray, List.getElem_cons_zero, List.getElem_cons_succ, Act.put, List.setIfInBounds_toArray, List.set_cons_zero, List.set_cons_succ]
              refine wpAnyH_take (i := 14) (v := ?_) rfl (by kernel_rfl) (by kernel_rfl) (by kernel_rfl) (fun _ _ _ h => h) (Or.inl ⟨by rfl, ?_⟩) (by assumption) ?_
              rotate_left 1
              · (intro w hSw; (try dsimp only at hSw); first | (go_simp; done) | (go_simp; with_reducible rfl))
              simp only [List.getElem_toArray, List.getElem_cons_zero, List.getElem_cons_succ, Act.put, List.setIfInBounds_toArray, List.set_cons_zero, List.set_cons_succ]
              refine wpAnyH_take (i := 15) (v := ?_) rfl (by kernel_rfl) (by kernel_rfl) (by kernel_rfl) (fun _ _ _ h => h) (Or.inl ⟨by rfl, ?_⟩) (by assumption) ?_
              rotate_left 1
              · (intro w hSw; (try dsimp only at hSw); first | (go_simp; done) | (go_simp; with_reducible rfl))
              simp only [List.getElem_toArray, List.getElem_cons_zero, List.getElem_cons_succ, Act.put, List.setIfInBounds_toArray, List.set_cons_zero, List.set_cons_succ]
              refine wpAnyH_ready (rs := [13]) (by kernel_rfl) (by simp) ?_
              refine AllReadyH.cons rfl (fun K hK => ?_) AllReadyH.nil
              go_simp
              go_at_call 16
              refine (HRk.out _).mono ?_
              rintro e w5 ⟨rfl, t1⟩
              go_wp2_with fail
              refine hK.out _ _ (HSof.out _ (tt.trans t1 (fun _ _ hf => hf))) (fun hHeld2 => ?_)
              clear hK K hHeld
              refine wpAnyH_take (i := 16) (v := ?_) rfl (by kernel_rfl) (by kernel_rfl) (by kernel_rfl) (fun _ _ _ h => h) (Or.inl ⟨by rfl, ?_⟩) (by assumption) ?_
              rotate_left 1
              · (intro w hSw; (try dsimp only at hSw); first | (go_simp; done) | (go_simp; with_reducible rfl))
              simp only [List.getElem_toArray, List.getElem_cons_zero, List.getElem_cons_succ, Act.put, List.setIfInBounds_toArray, List.set_cons_zero, List.set_cons_succ]
              refine wpAnyH_take (i := 17) (v := ?_) rfl (by kernel_rfl) (by kernel_rfl) (by kernel_rfl) (fun _ _ _ h => h) (Or.inl ⟨by rfl, ?_⟩) (by assumption) ?_
              rotate_left 1
              · (intro w hSw; (try dsimp only at hSw); first | (go_simp; done) | (go_simp; with_reducible rfl))
              simp only [List.getElem_toArray, List.getElem_cons_zero, List.getElem_cons_succ, Act.put, List.setIfInBounds_toArray, List.set_cons_zero, List.set_cons_succ]
              refine wpAnyH_take (i := 18) (v := ?_) rfl (by kernel_rfl) (by kernel_rfl) (by kernel_rfl) (fun _ _ _ h => h) (Or.inl ⟨by rfl, ?_⟩) (by assumption) ?_
              rotate_left 1
              · (intro w hSw; (try dsimp only at hSw); first | (go_simp; done) | (go_simp; with_reducible rfl))
              simp only [List.getElem_toArray, List.getElem_cons_zero, List.getElem_cons_succ, Act.put, List.setIfInBounds_toArray, List.set_cons_zero, List.set_cons_succ]
              refine wpAnyH_take (i := 19) (v := undef) rfl (by kernel_rfl) (by kernel_rfl) (by kernel_rfl) (fun _ _ _ h => h) (Or.inr ⟨by rfl, rfl⟩) (by assumption) ?_
              simp only [List.getElem_toArray, List.getElem_cons_zero, List.getElem_cons_succ, Act.put, List.setIfInBounds_toArray, List.set_cons_zero, List.set_cons_succ]
              refine wpAnyH_take (i := 20) (v := undef) rfl (by kernel_rfl) (by kernel_rfl) (by kernel_rfl) (fun _ _ _ h => h) (Or.inr ⟨by rfl, rfl⟩) (by assumption) ?_
              simp only [List.getElem_toArray, List.getElem_cons_zero, List.getElem_cons_succ, Act.put, List.setIfInBounds_toArray, List.set_cons_zero, List.set_cons_succ]
              refine wpAnyH_take (i := 21) (v := undef) rfl (by kernel_rfl) (by kernel_rfl) (by kernel_rfl) (fun _ _ _ h => h) (Or.inr ⟨by rfl, rfl⟩) (by assumption) ?_
              simp only [List.getElem_toArray, List.getElem_cons_zero, List.getElem_cons_succ, Act.put, List.setIfInBounds_toArray, List.set_cons_zero, List.set_cons_succ]
              refine wpAnyH_take (i := 22) (v := undef) rfl (by kernel_rfl) (by kernel_rfl) (by kernel_rfl) (fun _ _ _ h => h) (Or.inr ⟨by rfl, rfl⟩) (by assumption) ?_
              simp only [List.getElem_toArray, List.getElem_cons_zero, List.getElem_cons_succ, Act.put, List.setIfInBounds_toArray, List.set_cons_zero, List.set_cons_succ]
              refine wpAnyH_take (i := 23) (v := undef) rfl (by kernel_rfl) (by kernel_rfl) (by kernel_rfl) (fun _ _ _ h => h) (Or.inr ⟨by rfl, rfl⟩) (by assumption) ?_
              simp only [List.getElem_toArray, List.getElem_cons_zero, List.getElem_cons_succ, Act.put, List.setIfInBounds_toArray, List.set_cons_zero, List.set_cons_succ]
              refine wpAnyH_take (i := 24) (v := undef) rfl (by kernel_rfl) (by kernel_rfl) (by kernel_rfl) (fun _ _ _ h => h) (Or.inr ⟨by rfl, rfl⟩) (by assumption) ?_
              simp only [List.getElem_toArray, List.getElem_cons_zero, List.getElem_cons_succ, Act.put, List.setIfInBounds_toArray, List.set_cons_zero, List.set_cons_succ]
              refine wpAnyH_take (i := 25) (v := undef) rfl (by kernel_rfl) (by kernel_rfl) (by kernel_rfl) (fun _ _ _ h => h) (Or.inr ⟨by rfl, rfl⟩) (by assumption) ?_
              simp only [List.getElem_toArray, List.getElem_cons_zero, List.getElem_cons_succ, Act.put, List.setIfInBounds_toArray, List.set_cons_zero, List.set_cons_succ]
              refine wpAnyH_take (i := 26) (v := undef) rfl (by kernel_rfl) (by kernel_rfl) (by kernel_rfl) (fun _ _ _ h => h) (Or.inr ⟨by rfl, rfl⟩) (by assumption) ?_
              simp only [List.getElem_toArray, List.getElem_cons_zero, List.getElem_cons_succ, Act.put, List.setIfInBounds_toArray, List.set_cons_zero, List.set_cons_succ]
              refine wpAnyH_take (i := 27) (v := undef) rfl (by kernel_rfl) (by kernel_rfl) (by kernel_rfl) (fun _ _ _ h => h) (Or.inr ⟨by rfl, rfl⟩) (by assumption) ?_
              simp only [List.getElem_toArray, List.getElem_cons_zero, List.getElem_cons_succ, Act.put, List.setIfInBounds_toArray, List.set_cons_zero, List.set_cons_succ]
              refine wpAnyH_take (i := 28) (v := ?_) rfl (by kernel_rfl) (by kernel_rfl) (by kernel_rfl) (fun _ _ _ h => h) (Or.inl ⟨by rfl, ?_⟩) (by assumption) ?_
              rotate_left 1
              · (intro w hSw; (try dsimp only at hSw); first | (go_simp; done) | (go_simp; with_reducible rfl))
              simp only [List.getElem_toArray, List.getElem_cons_zero, List.getElem_cons_succ, Act.put, List.setIfInBounds_toArray, List.set_cons_zero, List.set_cons_succ]
              refine wpAnyH_done (by kernel_rfl) ?_ _
              have t5 := TV.out.trans (tt.trans t1 (fun _ _ hf => hf)) (fun _ _ hf => hf)
              clear hHeld2 sb0 sb1 sb2 sb3 sb4 sb5 hd hex hne
              go_wp2
              go_roundw
              case rel => exact ⟨k + 1, by omega, by go_num, t5⟩
              case measure => simp [intOf]; omega
            · have hd := decide_eq_false (show ¬ (te : Int) < (l.length : Int) by omega)
              clear hkd
              go_quiet (fail)
              go_wp2
              go_roundw
              case rel => exact ⟨k + 1, by omega, by go_num, TV.out.drewN _⟩
              case measure => simp [intOf]; omega
        · obtain rfl : k = o.length := by omega
          have bE := B3.out.trans ((ht.below (B := w.heap.size) B3.out.size (fun _ hf => hf.elim)))
          go_wp2
          go_ret
          exact ⟨rfl, bE⟩
  · go_wp2_with fail
    refine (shortK w _ b1 [l] 1 false rfl (by omega) HLR.out (by rw [sum1]; exact decide_eq_false hs)).mono ?_
    rintro e w2 ⟨rfl, b2⟩
    clear b1
    go_wp2
    go_ret
    exact ⟨rfl, b2⟩
end Go.Proofs.YtbcmjinifilamaaGreatDoor
