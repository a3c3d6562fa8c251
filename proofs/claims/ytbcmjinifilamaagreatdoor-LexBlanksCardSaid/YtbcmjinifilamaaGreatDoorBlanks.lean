/- LexBlanks: the walk. -/
import Derived.Test.YtbcmjinifilamaaGreatDoorLongest
import Derived.IntWalk
import Derived.Test.YtbcmjinifilamaaGreatDoorBlankMath
namespace Go.Proofs.YtbcmjinifilamaaGreatDoor
open Go.RowKit

theorem rem_small (z : Int) (n : Nat) (hn : n ≤ 20000) : ∃ K : Nat, K ≤ n ∧ wrap64 ((IntKind.u64.wrap z).tmod ((n : Int) + 1)) = (K : Int) := by
  have h0 : 0 ≤ IntKind.u64.wrap z := by rw [IntKind.wrap_u64]; omega
  have h1 : (IntKind.u64.wrap z).tmod ((n : Int) + 1) = IntKind.u64.wrap z % ((n : Int) + 1) := Int.tmod_eq_emod_of_nonneg h0
  have h2 := Int.emod_nonneg (IntKind.u64.wrap z) (show (n : Int) + 1 ≠ 0 by omega)
  have h3 := Int.emod_lt_of_pos (IntKind.u64.wrap z) (show 0 < (n : Int) + 1 by omega)
  rw [h1]
  generalize IntKind.u64.wrap z % ((n : Int) + 1) = r at *
  refine ⟨r.toNat, by omega, ?_⟩
  unfold wrap64
  omega

set_option maxRecDepth 100000 in
set_option maxHeartbeats 3200000 in
theorem lexBlanks_any (w : World) (he : Env w) (h7 : 7 ≤ w.heap.size) (l f : Lx.Bytes) (z : Int) (hl : l.length ≤ 140737488351232) (hf : f.length ≤ 140737488351232) :
    Calls Tryz.prog 7 #[.string ⟨l.toArray⟩, .string ⟨f.toArray⟩, .int .i64 z] w fun e w' => e = .returned (.bool true) ∧ Below w.heap.size w w' := by
  have HLR : Hid (∀ s ∈ [l, f], s.length ≤ 140737488351232) := Lib.hid (by
    intro s hs
    rcases List.mem_cons.1 hs with rfl | hs
    · exact hl
    · rw [List.mem_singleton.1 hs]; exact hf)
  have H7 := Lib.hid h7
  clear h7
  have hsz1 : (l.length : Int) ≤ 9223372036854775807 := by omega
  go_enter Tryz.func7, Tryz.ntmps7
  go_wp2_with fail
  refine (sane_any w he H7.out).mono ?_
  rintro e w1 ⟨rfl, b1⟩
  by_cases hs : l.length + f.length ≤ 20000
  · go_wp2_with fail
    refine (shortK w _ b1 [l, f] 2 true rfl (by omega) HLR.out (by rw [sum2]; exact decide_eq_true hs)).mono ?_
    rintro e w2 ⟨rfl, b2⟩
    clear b1
    cases hfl : fillB f with
    | false =>
      have hF := fun V => filling_any f (by omega) V
      rw [hfl] at hF
      have HF := Lib.hid hF
      clear hF hfl
      go_wp2_with fail
      refine (HF.out _).mono ?_
      rintro e w3 ⟨rfl, t3⟩
      have bE := b2.trans (t3.below (B := w.heap.size) b2.size (fun _ hf => hf.elim))
      go_wp2
      go_ret
      exact ⟨rfl, bE⟩
    | true =>
      have hF := fun V => filling_any f (by omega) V
      rw [hfl] at hF
      have HF := Lib.hid hF
      have Hfl := Lib.hid hfl
      clear hF hfl
      go_wp2_with fail
      refine (HF.out _).mono ?_
      rintro e w3 ⟨rfl, t3⟩
      have b3 := b2.trans (t3.below (B := w.heap.size) b2.size (fun _ hf => hf.elim))
      clear b2 t3
      cases hfe : f.isEmpty with
      | true =>
        obtain rfl := List.isEmpty_iff.1 hfe
        go_wp2
        go_ret
        exact ⟨rfl, b3⟩
      | false =>
        have hcl := toks_count l
        cases hbad : (Lx.toks l).bad with
        | some q =>
          have Hbad := Lib.hid hbad
          clear hbad
          go_wp2_with fail
          refine (tokens_err w _ he H7.out b3 l (by omega) q Hbad.out).mono ?_
          rintro e w4 ⟨rfl, b4, -⟩
          clear b3
          go_wp2
          go_ret
          exact ⟨rfl, b4⟩
        | none =>
          have Hbad := Lib.hid hbad
          clear hbad
          go_wp2_with fail
          refine (tokens_fine w _ he H7.out b3 l (by omega) Hbad.out (by omega)).mono ?_
          rintro e w4 ⟨va, vc, rfl, ho4, b4, -⟩
          have Ho4 := Lib.hid ho4
          have Hcl := Lib.hid hcl
          clear b3 ho4
          generalize hoe : (Lx.toks l).toks = o at *
          have Hoe := Lib.hid hoe
          clear hoe
          obtain ⟨K, hK, hKe⟩ := rem_small z o.length (by omega)
          have hw1 : IntKind.u64.wrap ((o.length : Int) + 1) = (o.length : Int) + 1 := IntWalk.u64_in _ (by omega)
          have r4 := rowOf_owns (l := o.map ofTok) (v := .slice va o.length vc) (by rw [List.length_map, flat_ofTok]; exact Ho4.out)
          have R4 := Lib.hid (rowOf_at r4)
          have hf0 := Lx.toks_cut0 l
          rw [Hoe.out] at hf0
          have Hf0 := Lib.hid hf0
          have hf1 : (Lx.toks f).toks = [] ∧ (Lx.toks f).bad = none := by
            have := Hfl.out
            unfold fillB at this
            simp only [Bool.and_eq_true, List.isEmpty_iff, Option.isNone_iff_eq_none] at this
            exact ⟨this.2, this.1⟩
          have Hf1 := Lib.hid hf1
          clear r4 hf0 hf1
          have hpos : ∃ A : Nat, A ≤ l.length ∧ (Lx.toks (l.take A ++ 32 :: (f ++ 32 :: l.drop A))).bad = none ∧ (Lx.toks (l.take A ++ 32 :: (f ++ 32 :: l.drop A))).toks = o.take K ++ (o.drop K).map (Lx.Tok.by (f.length + 2)) ∧
              (((K : Int) < (o.length : Int) ∧ ∃ g0 off0, va = some ⟨g0, off0, none⟩ ∧ g0 < w4.heap.size ∧ w4.cell? ⟨g0, off0 + K * 5 + 3, none⟩ = some (.int .i64 A)) ∨ (¬ (K : Int) < (o.length : Int) ∧ A = l.length)) := by
            by_cases hKl : K < o.length
            · obtain ⟨g0, off0, hva, lg0, xc0⟩ := R4.out K hKl
              have hA0 : (o[K]?.map Lx.Tok.at_).getD l.length = o[K].at_ := by rw [List.getElem?_eq_getElem hKl]; rfl
              have hlaw := Lx.blanks_law l f Hbad.out Hf1.out.1 Hf1.out.2 K o[K].at_ (by rw [Hoe.out]; exact hA0.symm)
              rw [Hoe.out] at hlaw
              exact ⟨o[K].at_, hlaw.1, hlaw.2.1, hlaw.2.2, .inl ⟨by omega, g0, off0, hva, lg0, xc0 3 _ rfl⟩⟩
            · have hlaw := Lx.blanks_law l f Hbad.out Hf1.out.1 Hf1.out.2 K l.length (by rw [Hoe.out, List.getElem?_eq_none (by omega)]; rfl)
              rw [Hoe.out] at hlaw
              exact ⟨l.length, hlaw.1, hlaw.2.1, hlaw.2.2, .inr ⟨by omega, rfl⟩⟩
          obtain ⟨A, hA, hXb, hXt, hway⟩ := hpos
          have hal : (l.take A).length ≤ l.length := by rw [List.length_take]; omega
          have hyl : (l.drop A).length ≤ l.length := by rw [List.length_drop]; omega
          have hex1 := ext_take l A
          have hex2 := ext_drop l A l.length rfl
          have hai : ((A : Nat) : Int) ≤ (l.length : Int) := by omega
          have hai2 : ¬ (l.length : Int) < ((A : Nat) : Int) := by omega
          have hai3 : ¬ ((A : Nat) : Int) < 0 := by omega
          have hXl : (l.take A ++ 32 :: (f ++ 32 :: l.drop A)).length ≤ 100000 := by simp only [List.length_append, List.length_cons]; omega
          have happ : l.take A ++ [32] ++ f ++ [32] ++ l.drop A = l.take A ++ 32 :: (f ++ 32 :: l.drop A) := by simp
          have hd1 := fun (w : World) => run_string_add_lists (P := Tryz.prog) w (l.take A) [32] (by omega) (by simp)
          have hd2 := fun (w : World) => run_string_add_lists (P := Tryz.prog) w (l.take A ++ [32]) f (by simp only [List.length_append, List.length_singleton]; omega) (by omega)
          have hd3 := fun (w : World) => run_string_add_lists (P := Tryz.prog) w (l.take A ++ [32] ++ f) [32] (by simp only [List.length_append, List.length_singleton]; omega) (by simp)
          have hd4 := fun (w : World) => run_string_add_lists (P := Tryz.prog) w (l.take A ++ [32] ++ f ++ [32]) (l.drop A) (by simp only [List.length_append, List.length_singleton]; omega) (by omega)
          rw [happ] at hd4
          generalize l.take A ++ 32 :: (f ++ 32 :: l.drop A) = X at *
          have hMl : (o.take K ++ (o.drop K).map (Lx.Tok.by (f.length + 2))).length = o.length := by rw [List.length_append, List.length_map, List.length_take, List.length_drop]; omega
          have hT := fun (V : World) (hV : Below w.heap.size w V) => tokens_fine w V he H7.out hV X hXl hXb (by rw [hXt, hMl]; omega)
          rw [hXt, hMl] at hT
          have hMk : ∀ k (hk : k < o.length), ∃ u : Lx.Tok, (o.take K ++ (o.drop K).map (Lx.Tok.by (f.length + 2)))[k]? = some u ∧ u = (if K ≤ k then o[k].by (f.length + 2) else o[k]) := by
            intro k hk
            by_cases hkK : K ≤ k
            · refine ⟨o[k].by (f.length + 2), ?_, (if_pos hkK).symm⟩
              rw [List.getElem?_append_right (by rw [List.length_take]; omega), List.length_take, Nat.min_eq_left hK, List.getElem?_map, List.getElem?_drop, show K + (k - K) = k by omega, List.getElem?_eq_getElem hk]
              rfl
            · refine ⟨o[k], ?_, (if_neg hkK).symm⟩
              rw [List.getElem?_append_left (by rw [List.length_take]; omega), List.getElem?_take, if_pos (by omega), List.getElem?_eq_getElem hk]
          have HMl := Lib.hid hMl
          have HMk := Lib.hid hMk
          generalize o.take K ++ (o.drop K).map (Lx.Tok.by (f.length + 2)) = M at *
          have HT := Lib.hid hT
          have tt : Turned w4 w4.drew (fun _ => False) := (Turned.refl w4 _).drew
          have bK := b4.trans (tt.below (B := w.heap.size) b4.size (fun _ hf => hf.elim))
          clear hT hXb hXt hMl hMk
          generalize l.take A ++ [32] ++ f ++ [32] = S3 at *
          generalize l.take A ++ [32] ++ f = S2 at *
          generalize l.take A ++ [32] = S1 at *
          rcases hway with ⟨hKi, g0, off0, rfl, lg0, pA⟩ | ⟨hKi, rfl⟩
          rotate_left 1
          rw [List.take_length] at hd1 hex1
          rw [List.drop_length] at hd4 hex2 happ
          rw [List.append_nil] at happ
          subst happ
          have hS3 : ¬ 9223372036854775807 < S3.length := by omega
          rotate_left 1
          clear happ
          · go_wp2_with fail
            refine wp_region_held_drew (S := (fun w' => Turned w4 w' (fun _ => False))) (by kernel_rfl) tt (fun hHeld => ?_)
            refine wpAnyH_take (i := 0) (v := ?_) rfl (by kernel_rfl) (by kernel_rfl) (by kernel_rfl) (fun _ _ _ h => h) (Or.inl ⟨by rfl, ?_⟩) (by assumption) ?_
            rotate_left 1
            · (intro w hSw; (try dsimp only at hSw); first | (go_simp; done) | (go_simp; with_reducible rfl))
            simp only [List.getElem_toArray, List.getElem_cons_zero, Act.put, List.setIfInBounds_toArray, List.set_cons_zero, List.set_cons_succ]
            refine wpAnyH_take (i := 1) (v := ?_) rfl (by kernel_rfl) (by kernel_rfl) (by kernel_rfl) (fun _ _ _ h => h) (Or.inl ⟨by rfl, ?_⟩) (by assumption) ?_
            rotate_left 1
            · (intro w hSw; (try dsimp only at hSw); first | (go_simp; done) | (go_simp; with_reducible rfl))
            simp only [List.getElem_toArray, List.getElem_cons_zero, List.getElem_cons_succ, Act.put, List.setIfInBounds_toArray, List.set_cons_zero, List.set_cons_succ]
            refine wpAnyH_take (i := 2) (v := ?_) rfl (by kernel_rfl) (by kernel_rfl) (by kernel_rfl) (fun _ _ _ h => h) (Or.inl ⟨by rfl, ?_⟩) (by assumption) ?_
            rotate_left 1
            · (intro w hSw; (try dsimp only at hSw); first | (go_simp; done) | (go_simp; with_reducible rfl))
            simp only [List.getElem_toArray, List.getElem_cons_zero, List.getElem_cons_succ, Act.put, List.setIfInBounds_toArray, List.set_cons_zero, List.set_cons_succ]
            refine wpAnyH_take (i := 3) (v := ?_) rfl (by kernel_rfl) (by kernel_rfl) (by kernel_rfl) (fun _ _ _ h => h) (Or.inl ⟨by rfl, ?_⟩) (by assumption) ?_
            rotate_left 1
            · (intro w hSw; (try dsimp only at hSw); first | (go_simp; done) | (go_simp; with_reducible rfl))
            simp only [List.getElem_toArray, List.getElem_cons_zero, List.getElem_cons_succ, Act.put, List.setIfInBounds_toArray, List.set_cons_zero, List.set_cons_succ]
            refine wpAnyH_take (i := 4) (v := ?_) rfl (by kernel_rfl) (by kernel_rfl) (by kernel_rfl) (fun _ _ _ h => h) (Or.inl ⟨by rfl, ?_⟩) (by assumption) ?_
            rotate_left 1
            · (intro w hSw; (try dsimp only at hSw); first | (go_simp; done) | (go_simp; with_reducible rfl))
            simp only [List.getElem_toArray, List.getElem_cons_zero, List.getElem_cons_succ, Act.put, List.setIfInBounds_toArray, List.set_cons_zero, List.set_cons_succ]
            refine wpAnyH_take (i := 5) (v := ?_) rfl (by kernel_rfl) (by kernel_rfl) (by kernel_rfl) (fun _ _ _ h => h) (Or.inl ⟨by rfl, ?_⟩) (by assumption) ?_
            rotate_left 1
            · (intro w hSw; (try dsimp only at hSw); first | (go_simp; done) | (go_simp; with_reducible rfl))
            simp only [List.getElem_toArray, List.getElem_cons_zero, List.getElem_cons_succ, Act.put, List.setIfInBounds_toArray, List.set_cons_zero, List.set_cons_succ]
            refine wpAnyH_take (i := 6) (v := ?_) rfl (by kernel_rfl) (by kernel_rfl) (by kernel_rfl) (fun _ _ _ h => h) (Or.inl ⟨by rfl, ?_⟩) (by assumption) ?_
            rotate_left 1
            · (intro w hSw; (try dsimp only at hSw); first | (go_simp; done) | (go_simp; with_reducible rfl))
            simp only [List.getElem_toArray, List.getElem_cons_zero, List.getElem_cons_succ, Act.put, List.setIfInBounds_toArray, List.set_cons_zero, List.set_cons_succ]
            refine wpAnyH_take (i := 7) (v := ?_) rfl (by kernel_rfl) (by kernel_rfl) (by kernel_rfl) (fun _ _ _ h => h) (Or.inl ⟨by rfl, ?_⟩) (by assumption) ?_
            rotate_left 1
            · (intro w hSw; (try dsimp only at hSw); first | (go_simp; done) | (go_simp; with_reducible rfl))
            simp only [List.getElem_toArray, List.getElem_cons_zero, List.getElem_cons_succ, Act.put, List.setIfInBounds_toArray, List.set_cons_zero, List.set_cons_succ]
            refine wpAnyH_take (i := 8) (v := ?_) rfl (by kernel_rfl) (by kernel_rfl) (by kernel_rfl) (fun _ _ _ h => h) (Or.inl ⟨by rfl, ?_⟩) (by assumption) ?_
            rotate_left 1
            · (intro w hSw; (try dsimp only at hSw); first | (go_simp; done) | (go_simp; with_reducible rfl))
            simp only [List.getElem_toArray, List.getElem_cons_zero, List.getElem_cons_succ, Act.put, List.setIfInBounds_toArray, List.set_cons_zero, List.set_cons_succ]
            refine wpAnyH_take (i := 9) (v := ?_) rfl (by kernel_rfl) (by kernel_rfl) (by kernel_rfl) (fun _ _ _ h => h) (Or.inl ⟨by rfl, ?_⟩) (by assumption) ?_
            rotate_left 1
            · (intro w hSw; (try dsimp only at hSw); first | (go_simp; done) | (go_simp; with_reducible rfl))
            simp only [List.getElem_toArray, List.getElem_cons_zero, List.getElem_cons_succ, Act.put, List.setIfInBounds_toArray, List.set_cons_zero, List.set_cons_succ]
            refine wpAnyH_take (i := 10) (v := ?_) rfl (by kernel_rfl) (by kernel_rfl) (by kernel_rfl) (fun _ _ _ h => h) (Or.inl ⟨by rfl, ?_⟩) (by assumption) ?_
            rotate_left 1
            · (intro w hSw; (try dsimp only at hSw); first | (go_simp; done) | (go_simp; with_reducible rfl))
            simp only [List.getElem_toArray, List.getElem_cons_zero, List.getElem_cons_succ, Act.put, List.setIfInBounds_toArray, List.set_cons_zero, List.set_cons_succ]
            refine wpAnyH_ready (rs := [11]) (by kernel_rfl) (by simp) ?_
            refine AllReadyH.cons rfl (fun K2 hK2 => ?_) AllReadyH.nil
            go_simp
            go_at_call 12
            refine (HT.out _ bK).mono ?_
            rintro e5 w5 ⟨va5, vc5, rfl, ho5, b5, b5'⟩
            have t1 := Turned.ofBelow b5' (D := fun _ => False) (fun k hk hle => by omega)
            go_wp2_with fail
            refine hK2.out _ _ (tt.trans t1 (fun _ _ hf => hf)) (fun hHeld2 => ?_)
            clear hK2 K2 hHeld
            refine wpAnyH_take (i := 12) (v := ?_) rfl (by kernel_rfl) (by kernel_rfl) (by kernel_rfl) (fun _ _ _ h => h) (Or.inl ⟨by rfl, ?_⟩) (by assumption) ?_
            rotate_left 1
            · (intro w hSw; (try dsimp only at hSw); first | (go_simp; done) | (go_simp; with_reducible rfl))
            simp only [List.getElem_toArray, List.getElem_cons_zero, List.getElem_cons_succ, Act.put, List.setIfInBounds_toArray, List.set_cons_zero, List.set_cons_succ]
            refine wpAnyH_take (i := 13) (v := ?_) rfl (by kernel_rfl) (by kernel_rfl) (by kernel_rfl) (fun _ _ _ h => h) (Or.inl ⟨by rfl, ?_⟩) (by assumption) ?_
            rotate_left 1
            · (intro w hSw; (try dsimp only at hSw); first | (go_simp; done) | (go_simp; with_reducible rfl))
            simp only [List.getElem_toArray, List.getElem_cons_zero, List.getElem_cons_succ, Act.put, List.setIfInBounds_toArray, List.set_cons_zero, List.set_cons_succ]
            refine wpAnyH_take (i := 14) (v := ?_) rfl (by kernel_rfl) (by kernel_rfl) (by kernel_rfl) (fun _ _ _ h => h) (Or.inl ⟨by rfl, ?_⟩) (by assumption) ?_
            rotate_left 1
            · (intro w hSw; (try dsimp only at hSw); first | (go_simp; done) | (go_simp; with_reducible rfl))
            simp only [List.getElem_toArray, List.getElem_cons_zero, List.getElem_cons_succ, Act.put, List.setIfInBounds_toArray, List.set_cons_zero, List.set_cons_succ]
            refine wpAnyH_take (i := 15) (v := ?_) rfl (by kernel_rfl) (by kernel_rfl) (by kernel_rfl) (fun _ _ _ h => h) (Or.inl ⟨by rfl, ?_⟩) (by assumption) ?_
            rotate_left 1
            · (intro w hSw; (try dsimp only at hSw); first | (go_simp; done) | (go_simp; with_reducible rfl))
            simp only [List.getElem_toArray, List.getElem_cons_zero, List.getElem_cons_succ, Act.put, List.setIfInBounds_toArray, List.set_cons_zero, List.set_cons_succ]
            refine wpAnyH_take (i := 16) (v := ?_) rfl (by kernel_rfl) (by kernel_rfl) (by kernel_rfl) (fun _ _ _ h => h) (Or.inl ⟨by rfl, ?_⟩) (by assumption) ?_
            rotate_left 1
            · (intro w hSw; (try dsimp only at hSw); first | (go_simp; done) | (go_simp; with_reducible rfl))
            simp only [List.getElem_toArray, List.getElem_cons_zero, List.getElem_cons_succ, Act.put, List.setIfInBounds_toArray, List.set_cons_zero, List.set_cons_succ]
            refine wpAnyH_take (i := 17) (v := ?_) rfl (by kernel_rfl) (by kernel_rfl) (by kernel_rfl) (fun _ _ _ h => h) (Or.inl ⟨by rfl, ?_⟩) (by assumption) ?_
            rotate_left 1
            · (intro w hSw; (try dsimp only at hSw); first | (go_simp; done) | (go_simp; with_reducible rfl))
            simp only [List.getElem_toArray, List.getElem_cons_zero, List.getElem_cons_succ, Act.put, List.setIfInBounds_toArray, List.set_cons_zero, List.set_cons_succ]
            refine wpAnyH_take (i := 18) (v := ?_) rfl (by kernel_rfl) (by kernel_rfl) (by kernel_rfl) (fun _ _ _ h => h) (Or.inl ⟨by rfl, ?_⟩) (by assumption) ?_
            rotate_left 1
            · (intro w hSw; (try dsimp only at hSw); first | (go_simp; done) | (go_simp; with_reducible rfl))
            simp only [List.getElem_toArray, List.getElem_cons_zero, List.getElem_cons_succ, Act.put, List.setIfInBounds_toArray, List.set_cons_zero, List.set_cons_succ]
            refine wpAnyH_done (by kernel_rfl) ?_ _
            have t5 := tt.trans t1 (fun _ _ hf => hf)
            have r5 := rowOf_owns (l := M.map ofTok) (v := .slice va5 o.length vc5) (by rw [flat_ofTok, List.length_map, HMl.out]; exact ho5)
            have R5 := Lib.hid (rowOf_at (n := o.length) r5)
            have T5 := Lib.hid t5
            have B5 := Lib.hid b5
            clear hHeld2 hd1 hd2 hd3 hd4 hex1 hex2 hai hai2 hai3 ho5 r5 t5 b5 b5' t1 tt bK hKe hw1 hal hyl hKi
            go_wp2_with fail
            go_loopw [105] (fun i wr => ∃ k : Nat, k ≤ o.length ∧ i = .int .i64 k ∧ Turned w5 wr (fun _ => False)) (fun i _ => o.length - (intOf i).toNat)
            case atStart => exact ⟨0, Nat.zero_le _, rfl, Turned.refl _ _⟩
            case round =>
              obtain ⟨k, hk, rfl, ht⟩ := hrel
              by_cases hlt : k < o.length
              · have hki : (k : Int) < (o.length : Int) := by omega
                obtain ⟨u, hu, hue⟩ := HMk.out k hlt
                obtain ⟨g5, off5, hva5, lg5, xm⟩ := R5.out k (by rw [HMl.out]; exact hlt)
                cases hva5
                obtain ⟨g1, off1, hva, lg, xc⟩ := R4.out k hlt
                cases hva
                rw [show M[k]'(by rw [HMl.out]; exact hlt) = u from Option.some.inj ((List.getElem?_eq_getElem _).symm.trans hu)] at xm
                have hx := Hf0.out o[k] (List.getElem_mem hlt)
                have hu2 : u = if K ≤ k then Lx.Tok.by (f.length + 2) o[k] else o[k] := hue
                generalize o[k] = x at *
                obtain ⟨tk, tn, ts, ta, te⟩ := x
                simp only at hx
                obtain ⟨x1, x2, -⟩ := hx
                have lg5' : g5 < wr.heap.size := Nat.lt_of_lt_of_le lg5 ht.size
                have Xc := Lib.hid xc
                clear hu hue xc
                by_cases hkK : K ≤ k
                · rw [if_pos hkK] at hu2
                  subst hu2
                  have pm := fun (i : Nat) (v : Value) (hv : (tokCells (Lx.Tok.by (f.length + 2) ⟨tk, tn, ts, ta, te⟩))[i]? = some v) => (ht.cell (p := ⟨g5, off5 + k * 5 + i, none⟩) lg5 (fun hf => hf)).trans (xm i v hv)
                  clear xm lg5
                  have p0 : wr.cell? ⟨g5, off5 + k * 5, none⟩ = some (.int .i64 tk) := pm 0 _ rfl
                  have p1 : wr.cell? ⟨g5, off5 + k * 5 + 1, none⟩ = some (.int .i64 tn) := pm 1 _ rfl
                  have p2 : wr.cell? ⟨g5, off5 + k * 5 + 2, none⟩ = some (.string ⟨ts.toArray⟩) := pm 2 _ rfl
                  have p3 : wr.cell? ⟨g5, off5 + k * 5 + 3, none⟩ = some (.int .i64 ((ta : Int) + ((f.length : Int) + 2))) := (pm 3 _ rfl).trans (by first | rfl | (simp only [Lx.Tok.by, Int.natCast_add]; rfl))
                  have p4 : wr.cell? ⟨g5, off5 + k * 5 + 4, none⟩ = some (.int .i64 ((te : Int) + ((f.length : Int) + 2))) := (pm 4 _ rfl).trans (by first | rfl | (simp only [Lx.Tok.by, Int.natCast_add]; rfl))
                  have hs1 : IntKind.i64.wrap ((ta : Int) + ((f.length : Int) + 2)) = (ta : Int) + ((f.length : Int) + 2) := IntWalk.i64_in _ (by omega)
                  have hs2 : IntKind.i64.wrap ((te : Int) + ((f.length : Int) + 2)) = (te : Int) + ((f.length : Int) + 2) := IntWalk.i64_in _ (by omega)
                  have hsame : ATok.same ⟨tk, tn, ts, ((ta : Int) + ((f.length : Int) + 2)), ((te : Int) + ((f.length : Int) + 2))⟩ ⟨tk, tn, ts, ta, te⟩ = true := by simp [ATok.same]
                  have hL := fun W => like_any ⟨tk, tn, ts, ((ta : Int) + ((f.length : Int) + 2)), ((te : Int) + ((f.length : Int) + 2))⟩ ⟨tk, tn, ts, ta, te⟩ W
                  rw [hsame] at hL
                  unfold ATok.val at hL
                  simp only at hL
                  have HL := Lib.hid hL
                  clear hL hsame pm
                  go_wp2_with fail
                  have kT := heap_alloc_new wr (.cells #[.int .i64 tk, .int .i64 tn, .string ⟨ts.toArray⟩, .int .i64 ((ta : Int) + ((f.length : Int) + 2)), .int .i64 ((te : Int) + ((f.length : Int) + 2))] 43)
                  have tV := ht.alloc (.cells #[.int .i64 tk, .int .i64 tn, .string ⟨ts.toArray⟩, .int .i64 ((ta : Int) + ((f.length : Int) + 2)), .int .i64 ((te : Int) + ((f.length : Int) + 2))] 43)
                  generalize wr.alloc (.cells #[.int .i64 tk, .int .i64 tn, .string ⟨ts.toArray⟩, .int .i64 ((ta : Int) + ((f.length : Int) + 2)), .int .i64 ((te : Int) + ((f.length : Int) + 2))] 43) = V at *
                  generalize wr.heap.size = Y at *
                  have TV := Lib.hid tV
                  have lT := lt_of_block kT
                  have Sof : ∀ w' : World, Turned V w' (fun _ => False) → (w'.cell? ⟨Y, 0, none⟩ = some (.int .i64 tk) ∧ w'.cell? ⟨Y, 1, none⟩ = some (.int .i64 tn) ∧ w'.cell? ⟨Y, 2, none⟩ = some (.string ⟨ts.toArray⟩) ∧ w'.cell? ⟨Y, 3, none⟩ = some (.int .i64 ((ta : Int) + ((f.length : Int) + 2))) ∧ w'.cell? ⟨Y, 4, none⟩ = some (.int .i64 ((te : Int) + ((f.length : Int) + 2))) ∧
                      w'.cell? ⟨g0, off0 + k * 5, none⟩ = some (.int .i64 tk) ∧ w'.cell? ⟨g0, off0 + k * 5 + 1, none⟩ = some (.int .i64 tn) ∧ w'.cell? ⟨g0, off0 + k * 5 + 2, none⟩ = some (.string ⟨ts.toArray⟩) ∧ w'.cell? ⟨g0, off0 + k * 5 + 3, none⟩ = some (.int .i64 ta) ∧ w'.cell? ⟨g0, off0 + k * 5 + 4, none⟩ = some (.int .i64 te)) ∧ Turned V w' (fun _ => False) := by
                    intro w' t
                    have k1 := (t.block Y lT (fun hf => hf)).trans kT
                    have tw : Turned w4 w' (fun _ => False) := T5.out.trans (TV.out.trans t (fun _ _ hf => hf)) (fun _ _ hf => hf)
                    have po := fun (i : Nat) (u : Value) (hu : (tokCells ⟨tk, tn, ts, ta, te⟩)[i]? = some u) => (tw.cell (p := ⟨g0, off0 + k * 5 + i, none⟩) lg (fun hf => hf)).trans (Xc.out i u hu)
                    exact ⟨⟨by simp [World.cell?, k1], by simp [World.cell?, k1], by simp [World.cell?, k1], by simp [World.cell?, k1], by simp [World.cell?, k1], po 0 _ rfl, po 1 _ rfl, po 2 _ rfl, po 3 _ rfl, po 4 _ rfl⟩, t⟩
                  have HSof := Lib.hid Sof
                  obtain ⟨⟨z0, z1, z2, z3, z4, q0, q1, q2, q3, q4⟩, -⟩ := Sof V (Turned.refl _ _)
                  have tt : Turned V V.drew (fun _ => False) := (Turned.refl V _).drew
                  have lgV : g0 < V.heap.size := Nat.lt_of_lt_of_le lg (T5.out.trans tV (fun _ _ hf => hf)).size
                  clear Sof kT tV p0 p1 p2 p3 p4 lg5' ht
                  refine wp_region_held_drew (S := (fun w' => (w'.cell? ⟨Y, 0, none⟩ = some (.int .i64 tk) ∧ w'.cell? ⟨Y, 1, none⟩ = some (.int .i64 tn) ∧ w'.cell? ⟨Y, 2, none⟩ = some (.string ⟨ts.toArray⟩) ∧ w'.cell? ⟨Y, 3, none⟩ = some (.int .i64 ((ta : Int) + ((f.length : Int) + 2))) ∧ w'.cell? ⟨Y, 4, none⟩ = some (.int .i64 ((te : Int) + ((f.length : Int) + 2))) ∧
                      w'.cell? ⟨g0, off0 + k * 5, none⟩ = some (.int .i64 tk) ∧ w'.cell? ⟨g0, off0 + k * 5 + 1, none⟩ = some (.int .i64 tn) ∧ w'.cell? ⟨g0, off0 + k * 5 + 2, none⟩ = some (.string ⟨ts.toArray⟩) ∧ w'.cell? ⟨g0, off0 + k * 5 + 3, none⟩ = some (.int .i64 ta) ∧ w'.cell? ⟨g0, off0 + k * 5 + 4, none⟩ = some (.int .i64 te)) ∧ Turned V w' (fun _ => False))) (by kernel_rfl) (HSof.out _ tt) (fun hHeld => ?_)
                  refine wpAnyH_take (i := 0) (v := ?_) rfl (by kernel_rfl) (by kernel_rfl) (by kernel_rfl) (fun _ _ _ h => h) (Or.inl ⟨by rfl, ?_⟩) (by assumption) ?_
                  rotate_left 1
                  · (intro w hSw; (try dsimp only at hSw); first | (go_simp; done) | (go_simp; with_reducible rfl))
                  simp only [List.getElem_toArray, List.getElem_cons_zero, Act.put, List.setIfInBounds_toArray, List.set_cons_zero, List.set_cons_succ]
                  refine wpAnyH_take (i := 1) (v := ?_) rfl (by kernel_rfl) (by kernel_rfl) (by kernel_rfl) (fun _ _ _ h => h) (Or.inl ⟨by rfl, ?_⟩) (by assumption) ?_
                  rotate_left 1
                  · (intro w hSw; (try dsimp only at hSw); first | (go_simp; done) | (go_simp; with_reducible rfl))
                  simp only [List.getElem_toArray, List.getElem_cons_zero, List.getElem_cons_succ, Act.put, List.setIfInBounds_toArray, List.set_cons_zero, List.set_cons_succ]
                  refine wpAnyH_take (i := 2) (v := ?_) rfl (by kernel_rfl) (by kernel_rfl) (by kernel_rfl) (fun _ _ _ h => h) (Or.inl ⟨by rfl, ?_⟩) (by assumption) ?_
                  rotate_left 1
                  · (intro w hSw; (try dsimp only at hSw); first | (go_simp; done) | (go_simp; with_reducible rfl))
                  simp only [List.getElem_toArray, List.getElem_cons_zero, List.getElem_cons_succ, Act.put, List.setIfInBounds_toArray, List.set_cons_zero, List.set_cons_succ]
                  refine wpAnyH_take (i := 3) (v := ?_) rfl (by kernel_rfl) (by kernel_rfl) (by kernel_rfl) (fun _ _ _ h => h) (Or.inl ⟨by rfl, ?_⟩) (by assumption) ?_
                  rotate_left 1
                  · (intro w hSw; (try dsimp only at hSw); first | (go_simp; done) | (go_simp; with_reducible rfl))
                  simp only [List.getElem_toArray, List.getElem_cons_zero, List.getElem_cons_succ, Act.put, List.setIfInBounds_toArray, List.set_cons_zero, List.set_cons_succ]
                  refine wpAnyH_take (i := 4) (v := ?_) rfl (by kernel_rfl) (by kernel_rfl) (by kernel_rfl) (fun _ _ _ h => h) (Or.inl ⟨by rfl, ?_⟩) (by assumption) ?_
                  rotate_left 1
                  · (intro w hSw; (try dsimp only at hSw); first | (go_simp; done) | (go_simp; with_reducible rfl))
                  simp only [List.getElem_toArray, List.getElem_cons_zero, List.getElem_cons_succ, Act.put, List.setIfInBounds_toArray, List.set_cons_zero, List.set_cons_succ]
                  refine wpAnyH_ready (rs := [5]) (by kernel_rfl) (by simp) ?_
                  refine AllReadyH.cons rfl (fun K2 hK2 => ?_) AllReadyH.nil
                  go_simp
                  go_at_call 37
                  refine (HL.out _).mono ?_
                  rintro e6 w6 ⟨rfl, t6⟩
                  go_wp2_with fail
                  refine hK2.out _ _ (HSof.out _ (tt.trans t6 (fun _ _ hf => hf))) (fun hHeld2 => ?_)
                  clear hK2 K2 hHeld
                  refine wpAnyH_take (i := 6) (v := ?_) rfl (by kernel_rfl) (by kernel_rfl) (by kernel_rfl) (fun _ _ _ h => h) (Or.inl ⟨by rfl, ?_⟩) (by assumption) ?_
                  rotate_left 1
                  · (intro w hSw; (try dsimp only at hSw); first | (go_simp; done) | (go_simp; with_reducible rfl))
                  simp only [List.getElem_toArray, List.getElem_cons_zero, List.getElem_cons_succ, Act.put, List.setIfInBounds_toArray, List.set_cons_zero, List.set_cons_succ]
                  refine wpAnyH_take (i := 7) (v := ?_) rfl (by kernel_rfl) (by kernel_rfl) (by kernel_rfl) (fun _ _ _ h => h) (Or.inl ⟨by rfl, ?_⟩) (by assumption) ?_
                  rotate_left 1
                  · (intro w hSw; (try dsimp only at hSw); first | (go_simp; done) | (go_simp; with_reducible rfl))
                  simp only [List.getElem_toArray, List.getElem_cons_zero, List.getElem_cons_succ, Act.put, List.setIfInBounds_toArray, List.set_cons_zero, List.set_cons_succ]
                  refine wpAnyH_take (i := 8) (v := ?_) rfl (by kernel_rfl) (by kernel_rfl) (by kernel_rfl) (fun _ _ _ h => h) (Or.inl ⟨by rfl, ?_⟩) (by assumption) ?_
                  rotate_left 1
                  · (intro w hSw; (try dsimp only at hSw); first | (go_simp; done) | (go_simp; with_reducible rfl))
                  simp only [List.getElem_toArray, List.getElem_cons_zero, List.getElem_cons_succ, Act.put, List.setIfInBounds_toArray, List.set_cons_zero, List.set_cons_succ]
                  refine wpAnyH_take (i := 9) (v := ?_) rfl (by kernel_rfl) (by kernel_rfl) (by kernel_rfl) (fun _ _ _ h => h) (Or.inl ⟨by rfl, ?_⟩) (by assumption) ?_
                  rotate_left 1
                  · (intro w hSw; (try dsimp only at hSw); first | (go_simp; done) | (go_simp; with_reducible rfl))
                  simp only [List.getElem_toArray, List.getElem_cons_zero, List.getElem_cons_succ, Act.put, List.setIfInBounds_toArray, List.set_cons_zero, List.set_cons_succ]
                  refine wpAnyH_take (i := 10) (v := ?_) rfl (by kernel_rfl) (by kernel_rfl) (by kernel_rfl) (fun _ _ _ h => h) (Or.inl ⟨by rfl, ?_⟩) (by assumption) ?_
                  rotate_left 1
                  · (intro w hSw; (try dsimp only at hSw); first | (go_simp; done) | (go_simp; with_reducible rfl))
                  simp only [List.getElem_toArray, List.getElem_cons_zero, List.getElem_cons_succ, Act.put, List.setIfInBounds_toArray, List.set_cons_zero, List.set_cons_succ]
                  refine wpAnyH_take (i := 11) (v := ?_) rfl (by kernel_rfl) (by kernel_rfl) (by kernel_rfl) (fun _ _ _ h => h) (Or.inl ⟨by rfl, ?_⟩) (by assumption) ?_
                  rotate_left 1
                  · (intro w hSw; (try dsimp only at hSw); first | (go_simp; done) | (go_simp; with_reducible rfl))
                  simp only [List.getElem_toArray, List.getElem_cons_zero, List.getElem_cons_succ, Act.put, List.setIfInBounds_toArray, List.set_cons_zero, List.set_cons_succ]
                  refine wpAnyH_take (i := 12) (v := ?_) rfl (by kernel_rfl) (by kernel_rfl) (by kernel_rfl) (fun _ _ _ h => h) (Or.inl ⟨by rfl, ?_⟩) (by assumption) ?_
                  rotate_left 1
                  · (intro w hSw; (try dsimp only at hSw); first | (go_simp; done) | (go_simp; with_reducible rfl))
                  simp only [List.getElem_toArray, List.getElem_cons_zero, List.getElem_cons_succ, Act.put, List.setIfInBounds_toArray, List.set_cons_zero, List.set_cons_succ]
                  refine wpAnyH_take (i := 13) (v := ?_) rfl (by kernel_rfl) (by kernel_rfl) (by kernel_rfl) (fun _ _ _ h => h) (Or.inl ⟨by rfl, ?_⟩) (by assumption) ?_
                  rotate_left 1
                  · (intro w hSw; (try dsimp only at hSw); first | (go_simp; done) | (go_simp; with_reducible rfl))
                  simp only [List.getElem_toArray, List.getElem_cons_zero, List.getElem_cons_succ, Act.put, List.setIfInBounds_toArray, List.set_cons_zero, List.set_cons_succ]
                  refine wpAnyH_take (i := 14) (v := ?_) rfl (by kernel_rfl) (by kernel_rfl) (by kernel_rfl) (fun _ _ _ h => h) (Or.inl ⟨by rfl, ?_⟩) (by assumption) ?_
                  rotate_left 1
                  · (intro w hSw; (try dsimp only at hSw); first | (go_simp; done) | (go_simp; with_reducible rfl))
                  simp only [List.getElem_toArray, List.getElem_cons_zero, List.getElem_cons_succ, Act.put, List.setIfInBounds_toArray, List.set_cons_zero, List.set_cons_succ]
                  refine wpAnyH_take (i := 15) (v := ?_) rfl (by kernel_rfl) (by kernel_rfl) (by kernel_rfl) (fun _ _ _ h => h) (Or.inl ⟨by rfl, ?_⟩) (by assumption) ?_
                  rotate_left 1
                  · (intro w hSw; (try dsimp only at hSw); first | (go_simp; done) | (go_simp; with_reducible rfl))
                  simp only [List.getElem_toArray, List.getElem_cons_zero, List.getElem_cons_succ, Act.put, List.setIfInBounds_toArray, List.set_cons_zero, List.set_cons_succ]
                  refine wpAnyH_take (i := 16) (v := ?_) rfl (by kernel_rfl) (by kernel_rfl) (by kernel_rfl) (fun _ _ _ h => h) (Or.inl ⟨by rfl, ?_⟩) (by assumption) ?_
                  rotate_left 1
                  · (intro w hSw; (try dsimp only at hSw); first | (go_simp; done) | (go_simp; with_reducible rfl))
                  simp only [List.getElem_toArray, List.getElem_cons_zero, List.getElem_cons_succ, Act.put, List.setIfInBounds_toArray, List.set_cons_zero, List.set_cons_succ]
                  refine wpAnyH_take (i := 17) (v := ?_) rfl (by kernel_rfl) (by kernel_rfl) (by kernel_rfl) (fun _ _ _ h => h) (Or.inl ⟨by rfl, ?_⟩) (by assumption) ?_
                  rotate_left 1
                  · (intro w hSw; (try dsimp only at hSw); first | (go_simp; done) | (go_simp; with_reducible rfl))
                  simp only [List.getElem_toArray, List.getElem_cons_zero, List.getElem_cons_succ, Act.put, List.setIfInBounds_toArray, List.set_cons_zero, List.set_cons_succ]
                  refine wpAnyH_take (i := 18) (v := ?_) rfl (by kernel_rfl) (by kernel_rfl) (by kernel_rfl) (fun _ _ _ h => h) (Or.inl ⟨by rfl, ?_⟩) (by assumption) ?_
                  rotate_left 1
                  · (intro w hSw; (try dsimp only at hSw); first | (go_simp; done) | (go_simp; with_reducible rfl))
                  simp only [List.getElem_toArray, List.getElem_cons_zero, List.getElem_cons_succ, Act.put, List.setIfInBounds_toArray, List.set_cons_zero, List.set_cons_succ]
                  refine wpAnyH_take (i := 19) (v := ?_) rfl (by kernel_rfl) (by kernel_rfl) (by kernel_rfl) (fun _ _ _ h => h) (Or.inl ⟨by rfl, ?_⟩) (by assumption) ?_
                  rotate_left 1
                  · (intro w hSw; (try dsimp only at hSw); first | (go_simp; done) | (go_simp; with_reducible rfl))
                  simp only [List.getElem_toArray, List.getElem_cons_zero, List.getElem_cons_succ, Act.put, List.setIfInBounds_toArray, List.set_cons_zero, List.set_cons_succ]
                  refine wpAnyH_take (i := 20) (v := ?_) rfl (by kernel_rfl) (by kernel_rfl) (by kernel_rfl) (fun _ _ _ h => h) (Or.inl ⟨by rfl, ?_⟩) (by assumption) ?_
                  rotate_left 1
                  · (intro w hSw; (try dsimp only at hSw); first | (go_simp; done) | (go_simp; with_reducible rfl))
                  simp only [List.getElem_toArray, List.getElem_cons_zero, List.getElem_cons_succ, Act.put, List.setIfInBounds_toArray, List.set_cons_zero, List.set_cons_succ]
                  refine wpAnyH_take (i := 21) (v := ?_) rfl (by kernel_rfl) (by kernel_rfl) (by kernel_rfl) (fun _ _ _ h => h) (Or.inl ⟨by rfl, ?_⟩) (by assumption) ?_
                  rotate_left 1
                  · (intro w hSw; (try dsimp only at hSw); first | (go_simp; done) | (go_simp; with_reducible rfl))
                  simp only [List.getElem_toArray, List.getElem_cons_zero, List.getElem_cons_succ, Act.put, List.setIfInBounds_toArray, List.set_cons_zero, List.set_cons_succ]
                  refine wpAnyH_take (i := 22) (v := ?_) rfl (by kernel_rfl) (by kernel_rfl) (by kernel_rfl) (fun _ _ _ h => h) (Or.inl ⟨by rfl, ?_⟩) (by assumption) ?_
                  rotate_left 1
                  · (intro w hSw; (try dsimp only at hSw); first | (go_simp; done) | (go_simp; with_reducible rfl))
                  simp only [List.getElem_toArray, List.getElem_cons_zero, List.getElem_cons_succ, Act.put, List.setIfInBounds_toArray, List.set_cons_zero, List.set_cons_succ]
                  refine wpAnyH_take (i := 23) (v := ?_) rfl (by kernel_rfl) (by kernel_rfl) (by kernel_rfl) (fun _ _ _ h => h) (Or.inl ⟨by rfl, ?_⟩) (by assumption) ?_
                  rotate_left 1
                  · (intro w hSw; (try dsimp only at hSw); first | (go_simp; done) | (go_simp; with_reducible rfl))
                  simp only [List.getElem_toArray, List.getElem_cons_zero, List.getElem_cons_succ, Act.put, List.setIfInBounds_toArray, List.set_cons_zero, List.set_cons_succ]
                  refine wpAnyH_take (i := 24) (v := ?_) rfl (by kernel_rfl) (by kernel_rfl) (by kernel_rfl) (fun _ _ _ h => h) (Or.inl ⟨by rfl, ?_⟩) (by assumption) ?_
                  rotate_left 1
                  · (intro w hSw; (try dsimp only at hSw); first | (go_simp; done) | (go_simp; with_reducible rfl))
                  simp only [List.getElem_toArray, List.getElem_cons_zero, List.getElem_cons_succ, Act.put, List.setIfInBounds_toArray, List.set_cons_zero, List.set_cons_succ]
                  refine wpAnyH_take (i := 25) (v := ?_) rfl (by kernel_rfl) (by kernel_rfl) (by kernel_rfl) (fun _ _ _ h => h) (Or.inl ⟨by rfl, ?_⟩) (by assumption) ?_
                  rotate_left 1
                  · (intro w hSw; (try dsimp only at hSw); first | (go_simp; done) | (go_simp; with_reducible rfl))
                  simp only [List.getElem_toArray, List.getElem_cons_zero, List.getElem_cons_succ, Act.put, List.setIfInBounds_toArray, List.set_cons_zero, List.set_cons_succ]
                  refine wpAnyH_take (i := 26) (v := ?_) rfl (by kernel_rfl) (by kernel_rfl) (by kernel_rfl) (fun _ _ _ h => h) (Or.inl ⟨by rfl, ?_⟩) (by assumption) ?_
                  rotate_left 1
                  · (intro w hSw; (try dsimp only at hSw); first | (go_simp; done) | (go_simp; with_reducible rfl))
                  simp only [List.getElem_toArray, List.getElem_cons_zero, List.getElem_cons_succ, Act.put, List.setIfInBounds_toArray, List.set_cons_zero, List.set_cons_succ]
                  refine wpAnyH_take (i := 27) (v := ?_) rfl (by kernel_rfl) (by kernel_rfl) (by kernel_rfl) (fun _ _ _ h => h) (Or.inl ⟨by rfl, ?_⟩) (by assumption) ?_
                  rotate_left 1
                  · (intro w hSw; (try dsimp only at hSw); first | (go_simp; done) | (go_simp; with_reducible rfl))
                  simp only [List.getElem_toArray, List.getElem_cons_zero, List.getElem_cons_succ, Act.put, List.setIfInBounds_toArray, List.set_cons_zero, List.set_cons_succ]
                  refine wpAnyH_take (i := 28) (v := ?_) rfl (by kernel_rfl) (by kernel_rfl) (by kernel_rfl) (fun _ _ _ h => h) (Or.inl ⟨by rfl, ?_⟩) (by assumption) ?_
                  rotate_left 1
                  · (intro w hSw; (try dsimp only at hSw); first | (go_simp; done) | (go_simp; with_reducible rfl))
                  simp only [List.getElem_toArray, List.getElem_cons_zero, List.getElem_cons_succ, Act.put, List.setIfInBounds_toArray, List.set_cons_zero, List.set_cons_succ]
                  refine wpAnyH_take (i := 29) (v := ?_) rfl (by kernel_rfl) (by kernel_rfl) (by kernel_rfl) (fun _ _ _ h => h) (Or.inl ⟨by rfl, ?_⟩) (by assumption) ?_
                  rotate_left 1
                  · (intro w hSw; (try dsimp only at hSw); first | (go_simp; done) | (go_simp; with_reducible rfl))
                  simp only [List.getElem_toArray, List.getElem_cons_zero, List.getElem_cons_succ, Act.put, List.setIfInBounds_toArray, List.set_cons_zero, List.set_cons_succ]
                  refine wpAnyH_take (i := 30) (v := ?_) rfl (by kernel_rfl) (by kernel_rfl) (by kernel_rfl) (fun _ _ _ h => h) (Or.inl ⟨by rfl, ?_⟩) (by assumption) ?_
                  rotate_left 1
                  · (intro w hSw; (try dsimp only at hSw); first | (go_simp; done) | (go_simp; with_reducible rfl))
                  simp only [List.getElem_toArray, List.getElem_cons_zero, List.getElem_cons_succ, Act.put, List.setIfInBounds_toArray, List.set_cons_zero, List.set_cons_succ]
                  refine wpAnyH_done (by kernel_rfl) ?_ _
                  have t7 := TV.out.trans (tt.trans t6 (fun _ _ hf => hf)) (fun _ _ hf => hf)
                  clear hHeld2 hs1 hs2
                  go_wp2
                  go_roundw
                  case rel => exact ⟨k + 1, by omega, by go_num, t7⟩
                  case measure => simp [intOf]; omega
                · rw [if_neg hkK] at hu2
                  subst hu2
                  have pm := fun (i : Nat) (v : Value) (hv : (tokCells ⟨tk, tn, ts, ta, te⟩)[i]? = some v) => (ht.cell (p := ⟨g5, off5 + k * 5 + i, none⟩) lg5 (fun hf => hf)).trans (xm i v hv)
                  clear xm lg5
                  have p0 : wr.cell? ⟨g5, off5 + k * 5, none⟩ = some (.int .i64 tk) := pm 0 _ rfl
                  have p1 : wr.cell? ⟨g5, off5 + k * 5 + 1, none⟩ = some (.int .i64 tn) := pm 1 _ rfl
                  have p2 : wr.cell? ⟨g5, off5 + k * 5 + 2, none⟩ = some (.string ⟨ts.toArray⟩) := pm 2 _ rfl
                  have p3 : wr.cell? ⟨g5, off5 + k * 5 + 3, none⟩ = some (.int .i64 (ta : Int)) := (pm 3 _ rfl).trans (by first | rfl | (simp only [Lx.Tok.by, Int.natCast_add]; rfl))
                  have p4 : wr.cell? ⟨g5, off5 + k * 5 + 4, none⟩ = some (.int .i64 (te : Int)) := (pm 4 _ rfl).trans (by first | rfl | (simp only [Lx.Tok.by, Int.natCast_add]; rfl))
                  have hs1 : IntKind.i64.wrap (ta : Int) = (ta : Int) := IntWalk.i64_in _ (by omega)
                  have hs2 : IntKind.i64.wrap (te : Int) = (te : Int) := IntWalk.i64_in _ (by omega)
                  have hsame : ATok.same ⟨tk, tn, ts, (ta : Int), (te : Int)⟩ ⟨tk, tn, ts, ta, te⟩ = true := by simp [ATok.same]
                  have hL := fun W => like_any ⟨tk, tn, ts, (ta : Int), (te : Int)⟩ ⟨tk, tn, ts, ta, te⟩ W
                  rw [hsame] at hL
                  unfold ATok.val at hL
                  simp only at hL
                  have HL := Lib.hid hL
                  clear hL hsame pm
                  go_wp2_with fail
                  have kT := heap_alloc_new wr (.cells #[.int .i64 tk, .int .i64 tn, .string ⟨ts.toArray⟩, .int .i64 (ta : Int), .int .i64 (te : Int)] 43)
                  have tV := ht.alloc (.cells #[.int .i64 tk, .int .i64 tn, .string ⟨ts.toArray⟩, .int .i64 (ta : Int), .int .i64 (te : Int)] 43)
                  generalize wr.alloc (.cells #[.int .i64 tk, .int .i64 tn, .string ⟨ts.toArray⟩, .int .i64 (ta : Int), .int .i64 (te : Int)] 43) = V at *
                  generalize wr.heap.size = Y at *
                  have TV := Lib.hid tV
                  have lT := lt_of_block kT
                  have Sof : ∀ w' : World, Turned V w' (fun _ => False) → (w'.cell? ⟨Y, 0, none⟩ = some (.int .i64 tk) ∧ w'.cell? ⟨Y, 1, none⟩ = some (.int .i64 tn) ∧ w'.cell? ⟨Y, 2, none⟩ = some (.string ⟨ts.toArray⟩) ∧ w'.cell? ⟨Y, 3, none⟩ = some (.int .i64 (ta : Int)) ∧ w'.cell? ⟨Y, 4, none⟩ = some (.int .i64 (te : Int)) ∧
                      w'.cell? ⟨g0, off0 + k * 5, none⟩ = some (.int .i64 tk) ∧ w'.cell? ⟨g0, off0 + k * 5 + 1, none⟩ = some (.int .i64 tn) ∧ w'.cell? ⟨g0, off0 + k * 5 + 2, none⟩ = some (.string ⟨ts.toArray⟩) ∧ w'.cell? ⟨g0, off0 + k * 5 + 3, none⟩ = some (.int .i64 ta) ∧ w'.cell? ⟨g0, off0 + k * 5 + 4, none⟩ = some (.int .i64 te)) ∧ Turned V w' (fun _ => False) := by
                    intro w' t
                    have k1 := (t.block Y lT (fun hf => hf)).trans kT
                    have tw : Turned w4 w' (fun _ => False) := T5.out.trans (TV.out.trans t (fun _ _ hf => hf)) (fun _ _ hf => hf)
                    have po := fun (i : Nat) (u : Value) (hu : (tokCells ⟨tk, tn, ts, ta, te⟩)[i]? = some u) => (tw.cell (p := ⟨g0, off0 + k * 5 + i, none⟩) lg (fun hf => hf)).trans (Xc.out i u hu)
                    exact ⟨⟨by simp [World.cell?, k1], by simp [World.cell?, k1], by simp [World.cell?, k1], by simp [World.cell?, k1], by simp [World.cell?, k1], po 0 _ rfl, po 1 _ rfl, po 2 _ rfl, po 3 _ rfl, po 4 _ rfl⟩, t⟩
                  have HSof := Lib.hid Sof
                  obtain ⟨⟨z0, z1, z2, z3, z4, q0, q1, q2, q3, q4⟩, -⟩ := Sof V (Turned.refl _ _)
                  have tt : Turned V V.drew (fun _ => False) := (Turned.refl V _).drew
                  have lgV : g0 < V.heap.size := Nat.lt_of_lt_of_le lg (T5.out.trans tV (fun _ _ hf => hf)).size
                  clear Sof kT tV p0 p1 p2 p3 p4 lg5' ht
                  refine wp_region_held_drew (S := (fun w' => (w'.cell? ⟨Y, 0, none⟩ = some (.int .i64 tk) ∧ w'.cell? ⟨Y, 1, none⟩ = some (.int .i64 tn) ∧ w'.cell? ⟨Y, 2, none⟩ = some (.string ⟨ts.toArray⟩) ∧ w'.cell? ⟨Y, 3, none⟩ = some (.int .i64 (ta : Int)) ∧ w'.cell? ⟨Y, 4, none⟩ = some (.int .i64 (te : Int)) ∧
                      w'.cell? ⟨g0, off0 + k * 5, none⟩ = some (.int .i64 tk) ∧ w'.cell? ⟨g0, off0 + k * 5 + 1, none⟩ = some (.int .i64 tn) ∧ w'.cell? ⟨g0, off0 + k * 5 + 2, none⟩ = some (.string ⟨ts.toArray⟩) ∧ w'.cell? ⟨g0, off0 + k * 5 + 3, none⟩ = some (.int .i64 ta) ∧ w'.cell? ⟨g0, off0 + k * 5 + 4, none⟩ = some (.int .i64 te)) ∧ Turned V w' (fun _ => False))) (by kernel_rfl) (HSof.out _ tt) (fun hHeld => ?_)
                  refine wpAnyH_take (i := 0) (v := ?_) rfl (by kernel_rfl) (by kernel_rfl) (by kernel_rfl) (fun _ _ _ h => h) (Or.inl ⟨by rfl, ?_⟩) (by assumption) ?_
                  rotate_left 1
                  · (intro w hSw; (try dsimp only at hSw); first | (go_simp; done) | (go_simp; with_reducible rfl))
                  simp only [List.getElem_toArray, List.getElem_cons_zero, Act.put, List.setIfInBounds_toArray, List.set_cons_zero, List.set_cons_succ]
                  refine wpAnyH_take (i := 1) (v := ?_) rfl (by kernel_rfl) (by kernel_rfl) (by kernel_rfl) (fun _ _ _ h => h) (Or.inl ⟨by rfl, ?_⟩) (by assumption) ?_
                  rotate_left 1
                  · (intro w hSw; (try dsimp only at hSw); first | (go_simp; done) | (go_simp; with_reducible rfl))
                  simp only [List.getElem_toArray, List.getElem_cons_zero, List.getElem_cons_succ, Act.put, List.setIfInBounds_toArray, List.set_cons_zero, List.set_cons_succ]
                  refine wpAnyH_take (i := 2) (v := ?_) rfl (by kernel_rfl) (by kernel_rfl) (by kernel_rfl) (fun _ _ _ h => h) (Or.inl ⟨by rfl, ?_⟩) (by assumption) ?_
                  rotate_left 1
                  · (intro w hSw; (try dsimp only at hSw); first | (go_simp; done) | (go_simp; with_reducible rfl))
                  simp only [List.getElem_toArray, List.getElem_cons_zero, List.getElem_cons_succ, Act.put, List.setIfInBounds_toArray, List.set_cons_zero, List.set_cons_succ]
                  refine wpAnyH_take (i := 3) (v := ?_) rfl (by kernel_rfl) (by kernel_rfl) (by kernel_rfl) (fun _ _ _ h => h) (Or.inl ⟨by rfl, ?_⟩) (by assumption) ?_
                  rotate_left 1
                  · (intro w hSw; (try dsimp only at hSw); first | (go_simp; done) | (go_simp; with_reducible rfl))
                  simp only [List.getElem_toArray, List.getElem_cons_zero, List.getElem_cons_succ, Act.put, List.setIfInBounds_toArray, List.set_cons_zero, List.set_cons_succ]
                  refine wpAnyH_take (i := 4) (v := ?_) rfl (by kernel_rfl) (by kernel_rfl) (by kernel_rfl) (fun _ _ _ h => h) (Or.inl ⟨by rfl, ?_⟩) (by assumption) ?_
                  rotate_left 1
                  · (intro w hSw; (try dsimp only at hSw); first | (go_simp; done) | (go_simp; with_reducible rfl))
                  simp only [List.getElem_toArray, List.getElem_cons_zero, List.getElem_cons_succ, Act.put, List.setIfInBounds_toArray, List.set_cons_zero, List.set_cons_succ]
                  refine wpAnyH_ready (rs := [5]) (by kernel_rfl) (by simp) ?_
                  refine AllReadyH.cons rfl (fun K2 hK2 => ?_) AllReadyH.nil
                  go_simp
                  go_at_call 37
                  refine (HL.out _).mono ?_
                  rintro e6 w6 ⟨rfl, t6⟩
                  go_wp2_with fail
                  refine hK2.out _ _ (HSof.out _ (tt.trans t6 (fun _ _ hf => hf))) (fun hHeld2 => ?_)
                  clear hK2 K2 hHeld
                  refine wpAnyH_take (i := 6) (v := ?_) rfl (by kernel_rfl) (by kernel_rfl) (by kernel_rfl) (fun _ _ _ h => h) (Or.inl ⟨by rfl, ?_⟩) (by assumption) ?_
                  rotate_left 1
                  · (intro w hSw; (try dsimp only at hSw); first | (go_simp; done) | (go_simp; with_reducible rfl))
                  simp only [List.getElem_toArray, List.getElem_cons_zero, List.getElem_cons_succ, Act.put, List.setIfInBounds_toArray, List.set_cons_zero, List.set_cons_succ]
                  refine wpAnyH_take (i := 7) (v := ?_) rfl (by kernel_rfl) (by kernel_rfl) (by kernel_rfl) (fun _ _ _ h => h) (Or.inl ⟨by rfl, ?_⟩) (by assumption) ?_
                  rotate_left 1
                  · (intro w hSw; (try dsimp only at hSw); first | (go_simp; done) | (go_simp; with_reducible rfl))
                  simp only [List.getElem_toArray, List.getElem_cons_zero, List.getElem_cons_succ, Act.put, List.setIfInBounds_toArray, List.set_cons_zero, List.set_cons_succ]
                  refine wpAnyH_take (i := 8) (v := ?_) rfl (by kernel_rfl) (by kernel_rfl) (by kernel_rfl) (fun _ _ _ h => h) (Or.inl ⟨by rfl, ?_⟩) (by assumption) ?_
                  rotate_left 1
                  · (intro w hSw; (try dsimp only at hSw); first | (go_simp; done) | (go_simp; with_reducible rfl))
                  simp only [List.getElem_toArray, List.getElem_cons_zero, List.getElem_cons_succ, Act.put, List.setIfInBounds_toArray, List.set_cons_zero, List.set_cons_succ]
                  refine wpAnyH_take (i := 9) (v := ?_) rfl (by kernel_rfl) (by kernel_rfl) (by kernel_rfl) (fun _ _ _ h => h) (Or.inl ⟨by rfl, ?_⟩) (by assumption) ?_
                  rotate_left 1
                  · (intro w hSw; (try dsimp only at hSw); first | (go_simp; done) | (go_simp; with_reducible rfl))
                  simp only [List.getElem_toArray, List.getElem_cons_zero, List.getElem_cons_succ, Act.put, List.setIfInBounds_toArray, List.set_cons_zero, List.set_cons_succ]
                  refine wpAnyH_take (i := 10) (v := ?_) rfl (by kernel_rfl) (by kernel_rfl) (by kernel_rfl) (fun _ _ _ h => h) (Or.inl ⟨by rfl, ?_⟩) (by assumption) ?_
                  rotate_left 1
                  · (intro w hSw; (try dsimp only at hSw); first | (go_simp; done) | (go_simp; with_reducible rfl))
                  simp only [List.getElem_toArray, List.getElem_cons_zero, List.getElem_cons_succ, Act.put, List.setIfInBounds_toArray, List.set_cons_zero, List.set_cons_succ]
                  refine wpAnyH_take (i := 11) (v := ?_) rfl (by kernel_rfl) (by kernel_rfl) (by kernel_rfl) (fun _ _ _ h => h) (Or.inl ⟨by rfl, ?_⟩) (by assumption) ?_
                  rotate_left 1
                  · (intro w hSw; (try dsimp only at hSw); first | (go_simp; done) | (go_simp; with_reducible rfl))
                  simp only [List.getElem_toArray, List.getElem_cons_zero, List.getElem_cons_succ, Act.put, List.setIfInBounds_toArray, List.set_cons_zero, List.set_cons_succ]
                  refine wpAnyH_take (i := 12) (v := ?_) rfl (by kernel_rfl) (by kernel_rfl) (by kernel_rfl) (fun _ _ _ h => h) (Or.inl ⟨by rfl, ?_⟩) (by assumption) ?_
                  rotate_left 1
                  · (intro w hSw; (try dsimp only at hSw); first | (go_simp; done) | (go_simp; with_reducible rfl))
                  simp only [List.getElem_toArray, List.getElem_cons_zero, List.getElem_cons_succ, Act.put, List.setIfInBounds_toArray, List.set_cons_zero, List.set_cons_succ]
                  refine wpAnyH_take (i := 13) (v := ?_) rfl (by kernel_rfl) (by kernel_rfl) (by kernel_rfl) (fun _ _ _ h => h) (Or.inl ⟨by rfl, ?_⟩) (by assumption) ?_
                  rotate_left 1
                  · (intro w hSw; (try dsimp only at hSw); first | (go_simp; done) | (go_simp; with_reducible rfl))
                  simp only [List.getElem_toArray, List.getElem_cons_zero, List.getElem_cons_succ, Act.put, List.setIfInBounds_toArray, List.set_cons_zero, List.set_cons_succ]
                  refine wpAnyH_take (i := 14) (v := ?_) rfl (by kernel_rfl) (by kernel_rfl) (by kernel_rfl) (fun _ _ _ h => h) (Or.inl ⟨by rfl, ?_⟩) (by assumption) ?_
                  rotate_left 1
                  · (intro w hSw; (try dsimp only at hSw); first | (go_simp; done) | (go_simp; with_reducible rfl))
                  simp only [List.getElem_toArray, List.getElem_cons_zero, List.getElem_cons_succ, Act.put, List.setIfInBounds_toArray, List.set_cons_zero, List.set_cons_succ]
                  refine wpAnyH_take (i := 15) (v := ?_) rfl (by kernel_rfl) (by kernel_rfl) (by kernel_rfl) (fun _ _ _ h => h) (Or.inl ⟨by rfl, ?_⟩) (by assumption) ?_
                  rotate_left 1
                  · (intro w hSw; (try dsimp only at hSw); first | (go_simp; done) | (go_simp; with_reducible rfl))
                  simp only [List.getElem_toArray, List.getElem_cons_zero, List.getElem_cons_succ, Act.put, List.setIfInBounds_toArray, List.set_cons_zero, List.set_cons_succ]
                  refine wpAnyH_take (i := 16) (v := ?_) rfl (by kernel_rfl) (by kernel_rfl) (by kernel_rfl) (fun _ _ _ h => h) (Or.inl ⟨by rfl, ?_⟩) (by assumption) ?_
                  rotate_left 1
                  · (intro w hSw; (try dsimp only at hSw); first | (go_simp; done) | (go_simp; with_reducible rfl))
                  simp only [List.getElem_toArray, List.getElem_cons_zero, List.getElem_cons_succ, Act.put, List.setIfInBounds_toArray, List.set_cons_zero, List.set_cons_succ]
                  refine wpAnyH_take (i := 17) (v := ?_) rfl (by kernel_rfl) (by kernel_rfl) (by kernel_rfl) (fun _ _ _ h => h) (Or.inl ⟨by rfl, ?_⟩) (by assumption) ?_
                  rotate_left 1
                  · (intro w hSw; (try dsimp only at hSw); first | (go_simp; done) | (go_simp; with_reducible rfl))
                  simp only [List.getElem_toArray, List.getElem_cons_zero, List.getElem_cons_succ, Act.put, List.setIfInBounds_toArray, List.set_cons_zero, List.set_cons_succ]
                  refine wpAnyH_take (i := 18) (v := ?_) rfl (by kernel_rfl) (by kernel_rfl) (by kernel_rfl) (fun _ _ _ h => h) (Or.inl ⟨by rfl, ?_⟩) (by assumption) ?_
                  rotate_left 1
                  · (intro w hSw; (try dsimp only at hSw); first | (go_simp; done) | (go_simp; with_reducible rfl))
                  simp only [List.getElem_toArray, List.getElem_cons_zero, List.getElem_cons_succ, Act.put, List.setIfInBounds_toArray, List.set_cons_zero, List.set_cons_succ]
                  refine wpAnyH_take (i := 19) (v := ?_) rfl (by kernel_rfl) (by kernel_rfl) (by kernel_rfl) (fun _ _ _ h => h) (Or.inl ⟨by rfl, ?_⟩) (by assumption) ?_
                  rotate_left 1
                  · (intro w hSw; (try dsimp only at hSw); first | (go_simp; done) | (go_simp; with_reducible rfl))
                  simp only [List.getElem_toArray, List.getElem_cons_zero, List.getElem_cons_succ, Act.put, List.setIfInBounds_toArray, List.set_cons_zero, List.set_cons_succ]
                  refine wpAnyH_take (i := 20) (v := ?_) rfl (by kernel_rfl) (by kernel_rfl) (by kernel_rfl) (fun _ _ _ h => h) (Or.inl ⟨by rfl, ?_⟩) (by assumption) ?_
                  rotate_left 1
                  · (intro w hSw; (try dsimp only at hSw); first | (go_simp; done) | (go_simp; with_reducible rfl))
                  simp only [List.getElem_toArray, List.getElem_cons_zero, List.getElem_cons_succ, Act.put, List.setIfInBounds_toArray, List.set_cons_zero, List.set_cons_succ]
                  refine wpAnyH_take (i := 21) (v := ?_) rfl (by kernel_rfl) (by kernel_rfl) (by kernel_rfl) (fun _ _ _ h => h) (Or.inl ⟨by rfl, ?_⟩) (by assumption) ?_
                  rotate_left 1
                  · (intro w hSw; (try dsimp only at hSw); first | (go_simp; done) | (go_simp; with_reducible rfl))
                  simp only [List.getElem_toArray, List.getElem_cons_zero, List.getElem_cons_succ, Act.put, List.setIfInBounds_toArray, List.set_cons_zero, List.set_cons_succ]
                  refine wpAnyH_take (i := 22) (v := ?_) rfl (by kernel_rfl) (by kernel_rfl) (by kernel_rfl) (fun _ _ _ h => h) (Or.inl ⟨by rfl, ?_⟩) (by assumption) ?_
                  rotate_left 1
                  · (intro w hSw; (try dsimp only at hSw); first | (go_simp; done) | (go_simp; with_reducible rfl))
                  simp only [List.getElem_toArray, List.getElem_cons_zero, List.getElem_cons_succ, Act.put, List.setIfInBounds_toArray, List.set_cons_zero, List.set_cons_succ]
                  refine wpAnyH_take (i := 23) (v := ?_) rfl (by kernel_rfl) (by kernel_rfl) (by kernel_rfl) (fun _ _ _ h => h) (Or.inl ⟨by rfl, ?_⟩) (by assumption) ?_
                  rotate_left 1
                  · (intro w hSw; (try dsimp only at hSw); first | (go_simp; done) | (go_simp; with_reducible rfl))
                  simp only [List.getElem_toArray, List.getElem_cons_zero, List.getElem_cons_succ, Act.put, List.setIfInBounds_toArray, List.set_cons_zero, List.set_cons_succ]
                  refine wpAnyH_take (i := 24) (v := ?_) rfl (by kernel_rfl) (by kernel_rfl) (by kernel_rfl) (fun _ _ _ h => h) (Or.inl ⟨by rfl, ?_⟩) (by assumption) ?_
                  rotate_left 1
                  · (intro w hSw; (try dsimp only at hSw); first | (go_simp; done) | (go_simp; with_reducible rfl))
                  simp only [List.getElem_toArray, List.getElem_cons_zero, List.getElem_cons_succ, Act.put, List.setIfInBounds_toArray, List.set_cons_zero, List.set_cons_succ]
                  refine wpAnyH_take (i := 25) (v := ?_) rfl (by kernel_rfl) (by kernel_rfl) (by kernel_rfl) (fun _ _ _ h => h) (Or.inl ⟨by rfl, ?_⟩) (by assumption) ?_
                  rotate_left 1
                  · (intro w hSw; (try dsimp only at hSw); first | (go_simp; done) | (go_simp; with_reducible rfl))
                  simp only [List.getElem_toArray, List.getElem_cons_zero, List.getElem_cons_succ, Act.put, List.setIfInBounds_toArray, List.set_cons_zero, List.set_cons_succ]
                  refine wpAnyH_take (i := 26) (v := ?_) rfl (by kernel_rfl) (by kernel_rfl) (by kernel_rfl) (fun _ _ _ h => h) (Or.inl ⟨by rfl, ?_⟩) (by assumption) ?_
                  rotate_left 1
                  · (intro w hSw; (try dsimp only at hSw); first | (go_simp; done) | (go_simp; with_reducible rfl))
                  simp only [List.getElem_toArray, List.getElem_cons_zero, List.getElem_cons_succ, Act.put, List.setIfInBounds_toArray, List.set_cons_zero, List.set_cons_succ]
                  refine wpAnyH_take (i := 27) (v := ?_) rfl (by kernel_rfl) (by kernel_rfl) (by kernel_rfl) (fun _ _ _ h => h) (Or.inl ⟨by rfl, ?_⟩) (by assumption) ?_
                  rotate_left 1
                  · (intro w hSw; (try dsimp only at hSw); first | (go_simp; done) | (go_simp; with_reducible rfl))
                  simp only [List.getElem_toArray, List.getElem_cons_zero, List.getElem_cons_succ, Act.put, List.setIfInBounds_toArray, List.set_cons_zero, List.set_cons_succ]
                  refine wpAnyH_take (i := 28) (v := ?_) rfl (by kernel_rfl) (by kernel_rfl) (by kernel_rfl) (fun _ _ _ h => h) (Or.inl ⟨by rfl, ?_⟩) (by assumption) ?_
                  rotate_left 1
                  · (intro w hSw; (try dsimp only at hSw); first | (go_simp; done) | (go_simp; with_reducible rfl))
                  simp only [List.getElem_toArray, List.getElem_cons_zero, List.getElem_cons_succ, Act.put, List.setIfInBounds_toArray, List.set_cons_zero, List.set_cons_succ]
                  refine wpAnyH_take (i := 29) (v := ?_) rfl (by kernel_rfl) (by kernel_rfl) (by kernel_rfl) (fun _ _ _ h => h) (Or.inl ⟨by rfl, ?_⟩) (by assumption) ?_
                  rotate_left 1
                  · (intro w hSw; (try dsimp only at hSw); first | (go_simp; done) | (go_simp; with_reducible rfl))
                  simp only [List.getElem_toArray, List.getElem_cons_zero, List.getElem_cons_succ, Act.put, List.setIfInBounds_toArray, List.set_cons_zero, List.set_cons_succ]
                  refine wpAnyH_take (i := 30) (v := ?_) rfl (by kernel_rfl) (by kernel_rfl) (by kernel_rfl) (fun _ _ _ h => h) (Or.inl ⟨by rfl, ?_⟩) (by assumption) ?_
                  rotate_left 1
                  · (intro w hSw; (try dsimp only at hSw); first | (go_simp; done) | (go_simp; with_reducible rfl))
                  simp only [List.getElem_toArray, List.getElem_cons_zero, List.getElem_cons_succ, Act.put, List.setIfInBounds_toArray, List.set_cons_zero, List.set_cons_succ]
                  refine wpAnyH_done (by kernel_rfl) ?_ _
                  have t7 := TV.out.trans (tt.trans t6 (fun _ _ hf => hf)) (fun _ _ hf => hf)
                  clear hHeld2 hs1 hs2
                  go_wp2
                  go_roundw
                  case rel => exact ⟨k + 1, by omega, by go_num, t7⟩
                  case measure => simp [intOf]; omega
              · obtain rfl : k = o.length := by omega
                have bE := B5.out.trans (ht.below (B := w.heap.size) B5.out.size (fun _ hf => hf.elim))
                go_wp2
                go_ret
                exact ⟨rfl, bE⟩
          · have HKi := Lib.hid hKi
            go_wp2_with fail
            refine wp_region_held_drew (S := (fun w' => Turned w4 w' (fun _ => False))) (by kernel_rfl) tt (fun hHeld => ?_)
            refine wpAnyH_take (i := 0) (v := ?_) rfl (by kernel_rfl) (by kernel_rfl) (by kernel_rfl) (fun _ _ _ h => h) (Or.inl ⟨by rfl, ?_⟩) (by assumption) ?_
            rotate_left 1
            · (intro w hSw; (try dsimp only at hSw); first | (go_simp; done) | (go_simp; with_reducible rfl))
            simp only [List.getElem_toArray, List.getElem_cons_zero, Act.put, List.setIfInBounds_toArray, List.set_cons_zero, List.set_cons_succ]
            refine wpAnyH_take (i := 1) (v := ?_) rfl (by kernel_rfl) (by kernel_rfl) (by kernel_rfl) (fun _ _ _ h => h) (Or.inl ⟨by rfl, ?_⟩) (by assumption) ?_
            rotate_left 1
            · (intro w hSw; (try dsimp only at hSw); first | (go_simp; done) | (go_simp; with_reducible rfl))
            simp only [List.getElem_toArray, List.getElem_cons_zero, List.getElem_cons_succ, Act.put, List.setIfInBounds_toArray, List.set_cons_zero, List.set_cons_succ]
            refine wpAnyH_take (i := 2) (v := ?_) rfl (by kernel_rfl) (by kernel_rfl) (by kernel_rfl) (fun _ _ _ h => h) (Or.inl ⟨by rfl, ?_⟩) (by assumption) ?_
            rotate_left 1
            · (intro w hSw; (try dsimp only at hSw); first | (go_simp; done) | (go_simp; with_reducible rfl))
            simp only [List.getElem_toArray, List.getElem_cons_zero, List.getElem_cons_succ, Act.put, List.setIfInBounds_toArray, List.set_cons_zero, List.set_cons_succ]
            refine wpAnyH_take (i := 3) (v := ?_) rfl (by kernel_rfl) (by kernel_rfl) (by kernel_rfl) (fun _ _ _ h => h) (Or.inl ⟨by rfl, ?_⟩) (by assumption) ?_
            rotate_left 1
            · (intro w hSw; (try dsimp only at hSw); first | (go_simp; done) | (go_simp; with_reducible rfl))
            simp only [List.getElem_toArray, List.getElem_cons_zero, List.getElem_cons_succ, Act.put, List.setIfInBounds_toArray, List.set_cons_zero, List.set_cons_succ]
            refine wpAnyH_take (i := 4) (v := ?_) rfl (by kernel_rfl) (by kernel_rfl) (by kernel_rfl) (fun _ _ _ h => h) (Or.inl ⟨by rfl, ?_⟩) (by assumption) ?_
            rotate_left 1
            · (intro w hSw; (try dsimp only at hSw); first | (go_simp; done) | (go_simp; with_reducible rfl))
            simp only [List.getElem_toArray, List.getElem_cons_zero, List.getElem_cons_succ, Act.put, List.setIfInBounds_toArray, List.set_cons_zero, List.set_cons_succ]
            refine wpAnyH_take (i := 5) (v := ?_) rfl (by kernel_rfl) (by kernel_rfl) (by kernel_rfl) (fun _ _ _ h => h) (Or.inl ⟨by rfl, ?_⟩) (by assumption) ?_
            rotate_left 1
            · (intro w hSw; (try dsimp only at hSw); first | (go_simp; done) | (go_simp; with_reducible rfl))
            simp only [List.getElem_toArray, List.getElem_cons_zero, List.getElem_cons_succ, Act.put, List.setIfInBounds_toArray, List.set_cons_zero, List.set_cons_succ]
            refine wpAnyH_take (i := 6) (v := ?_) rfl (by kernel_rfl) (by kernel_rfl) (by kernel_rfl) (fun _ _ _ h => h) (Or.inl ⟨by rfl, ?_⟩) (by assumption) ?_
            rotate_left 1
            · (intro w hSw; (try dsimp only at hSw); first | (go_simp; done) | (go_simp; with_reducible rfl))
            simp only [List.getElem_toArray, List.getElem_cons_zero, List.getElem_cons_succ, Act.put, List.setIfInBounds_toArray, List.set_cons_zero, List.set_cons_succ]
            refine wpAnyH_take (i := 7) (v := ?_) rfl (by kernel_rfl) (by kernel_rfl) (by kernel_rfl) (fun _ _ _ h => h) (Or.inl ⟨by rfl, ?_⟩) (by assumption) ?_
            rotate_left 1
            · (intro w hSw; (try dsimp only at hSw); first | (go_simp; done) | (go_simp; with_reducible rfl))
            simp only [List.getElem_toArray, List.getElem_cons_zero, List.getElem_cons_succ, Act.put, List.setIfInBounds_toArray, List.set_cons_zero, List.set_cons_succ]
            refine wpAnyH_take (i := 8) (v := ?_) rfl (by kernel_rfl) (by kernel_rfl) (by kernel_rfl) (fun _ _ _ h => h) (Or.inl ⟨by rfl, ?_⟩) (by assumption) ?_
            rotate_left 1
            · (intro w hSw; (try dsimp only at hSw); first | (go_simp; done) | (go_simp; with_reducible rfl))
            simp only [List.getElem_toArray, List.getElem_cons_zero, List.getElem_cons_succ, Act.put, List.setIfInBounds_toArray, List.set_cons_zero, List.set_cons_succ]
            refine wpAnyH_take (i := 9) (v := ?_) rfl (by kernel_rfl) (by kernel_rfl) (by kernel_rfl) (fun _ _ _ h => h) (Or.inl ⟨by rfl, ?_⟩) (by assumption) ?_
            rotate_left 1
            · (intro w hSw; (try dsimp only at hSw); first | (go_simp; done) | (go_simp; with_reducible rfl))
            simp only [List.getElem_toArray, List.getElem_cons_zero, List.getElem_cons_succ, Act.put, List.setIfInBounds_toArray, List.set_cons_zero, List.set_cons_succ]
            refine wpAnyH_take (i := 10) (v := ?_) rfl (by kernel_rfl) (by kernel_rfl) (by kernel_rfl) (fun _ _ _ h => h) (Or.inl ⟨by rfl, ?_⟩) (by assumption) ?_
            rotate_left 1
            · (intro w hSw; (try dsimp only at hSw); first | (go_simp; done) | (go_simp; with_reducible rfl))
            simp only [List.getElem_toArray, List.getElem_cons_zero, List.getElem_cons_succ, Act.put, List.setIfInBounds_toArray, List.set_cons_zero, List.set_cons_succ]
            refine wpAnyH_ready (rs := [11]) (by kernel_rfl) (by simp) ?_
            refine AllReadyH.cons rfl (fun K2 hK2 => ?_) AllReadyH.nil
            go_simp
            go_at_call 12
            refine (HT.out _ bK).mono ?_
            rintro e5 w5 ⟨va5, vc5, rfl, ho5, b5, b5'⟩
            have t1 := Turned.ofBelow b5' (D := fun _ => False) (fun k hk hle => by omega)
            go_wp2_with fail
            refine hK2.out _ _ (tt.trans t1 (fun _ _ hf => hf)) (fun hHeld2 => ?_)
            clear hK2 K2 hHeld
            refine wpAnyH_take (i := 12) (v := ?_) rfl (by kernel_rfl) (by kernel_rfl) (by kernel_rfl) (fun _ _ _ h => h) (Or.inl ⟨by rfl, ?_⟩) (by assumption) ?_
            rotate_left 1
            · (intro w hSw; (try dsimp only at hSw); first | (go_simp; done) | (go_simp; with_reducible rfl))
            simp only [List.getElem_toArray, List.getElem_cons_zero, List.getElem_cons_succ, Act.put, List.setIfInBounds_toArray, List.set_cons_zero, List.set_cons_succ]
            refine wpAnyH_take (i := 13) (v := ?_) rfl (by kernel_rfl) (by kernel_rfl) (by kernel_rfl) (fun _ _ _ h => h) (Or.inl ⟨by rfl, ?_⟩) (by assumption) ?_
            rotate_left 1
            · (intro w hSw; (try dsimp only at hSw); first | (go_simp; done) | (go_simp; with_reducible rfl))
            simp only [List.getElem_toArray, List.getElem_cons_zero, List.getElem_cons_succ, Act.put, List.setIfInBounds_toArray, List.set_cons_zero, List.set_cons_succ]
            refine wpAnyH_take (i := 14) (v := ?_) rfl (by kernel_rfl) (by kernel_rfl) (by kernel_rfl) (fun _ _ _ h => h) (Or.inl ⟨by rfl, ?_⟩) (by assumption) ?_
            rotate_left 1
            · (intro w hSw; (try dsimp only at hSw); first | (go_simp; done) | (go_simp; with_reducible rfl))
            simp only [List.getElem_toArray, List.getElem_cons_zero, List.getElem_cons_succ, Act.put, List.setIfInBounds_toArray, List.set_cons_zero, List.set_cons_succ]
            refine wpAnyH_take (i := 15) (v := ?_) rfl (by kernel_rfl) (by kernel_rfl) (by kernel_rfl) (fun _ _ _ h => h) (Or.inl ⟨by rfl, ?_⟩) (by assumption) ?_
            rotate_left 1
            · (intro w hSw; (try dsimp only at hSw); first | (go_simp; done) | (go_simp; with_reducible rfl))
            simp only [List.getElem_toArray, List.getElem_cons_zero, List.getElem_cons_succ, Act.put, List.setIfInBounds_toArray, List.set_cons_zero, List.set_cons_succ]
            refine wpAnyH_take (i := 16) (v := ?_) rfl (by kernel_rfl) (by kernel_rfl) (by kernel_rfl) (fun _ _ _ h => h) (Or.inl ⟨by rfl, ?_⟩) (by assumption) ?_
            rotate_left 1
            · (intro w hSw; (try dsimp only at hSw); first | (go_simp; done) | (go_simp; with_reducible rfl))
            simp only [List.getElem_toArray, List.getElem_cons_zero, List.getElem_cons_succ, Act.put, List.setIfInBounds_toArray, List.set_cons_zero, List.set_cons_succ]
            refine wpAnyH_take (i := 17) (v := ?_) rfl (by kernel_rfl) (by kernel_rfl) (by kernel_rfl) (fun _ _ _ h => h) (Or.inl ⟨by rfl, ?_⟩) (by assumption) ?_
            rotate_left 1
            · (intro w hSw; (try dsimp only at hSw); first | (go_simp; done) | (go_simp; with_reducible rfl))
            simp only [List.getElem_toArray, List.getElem_cons_zero, List.getElem_cons_succ, Act.put, List.setIfInBounds_toArray, List.set_cons_zero, List.set_cons_succ]
            refine wpAnyH_take (i := 18) (v := ?_) rfl (by kernel_rfl) (by kernel_rfl) (by kernel_rfl) (fun _ _ _ h => h) (Or.inl ⟨by rfl, ?_⟩) (by assumption) ?_
            rotate_left 1
            · (intro w hSw; (try dsimp only at hSw); first | (go_simp; done) | (go_simp; with_reducible rfl))
            simp only [List.getElem_toArray, List.getElem_cons_zero, List.getElem_cons_succ, Act.put, List.setIfInBounds_toArray, List.set_cons_zero, List.set_cons_succ]
            refine wpAnyH_done (by kernel_rfl) ?_ _
            have t5 := tt.trans t1 (fun _ _ hf => hf)
            have r5 := rowOf_owns (l := M.map ofTok) (v := .slice va5 o.length vc5) (by rw [flat_ofTok, List.length_map, HMl.out]; exact ho5)
            have R5 := Lib.hid (rowOf_at (n := o.length) r5)
            have T5 := Lib.hid t5
            have B5 := Lib.hid b5
            clear hHeld2 hd1 hd2 hd3 hd4 hex1 hex2 hai hai2 hai3 ho5 r5 t5 b5 b5' t1 tt bK hKe hw1 hal hyl hKi
            go_wp2_with fail
            go_loopw [105] (fun i wr => ∃ k : Nat, k ≤ o.length ∧ i = .int .i64 k ∧ Turned w5 wr (fun _ => False)) (fun i _ => o.length - (intOf i).toNat)
            case atStart => exact ⟨0, Nat.zero_le _, rfl, Turned.refl _ _⟩
            case round =>
              obtain ⟨k, hk, rfl, ht⟩ := hrel
              by_cases hlt : k < o.length
              · have hki : (k : Int) < (o.length : Int) := by omega
                obtain ⟨u, hu, hue⟩ := HMk.out k hlt
                obtain ⟨g5, off5, hva5, lg5, xm⟩ := R5.out k (by rw [HMl.out]; exact hlt)
                cases hva5
                obtain ⟨g, off, hva, lg, xc⟩ := R4.out k hlt
                cases hva
                rw [show M[k]'(by rw [HMl.out]; exact hlt) = u from Option.some.inj ((List.getElem?_eq_getElem _).symm.trans hu)] at xm
                have hx := Hf0.out o[k] (List.getElem_mem hlt)
                have hu2 : u = if K ≤ k then Lx.Tok.by (f.length + 2) o[k] else o[k] := hue
                generalize o[k] = x at *
                obtain ⟨tk, tn, ts, ta, te⟩ := x
                simp only at hx
                obtain ⟨x1, x2, -⟩ := hx
                have lg5' : g5 < wr.heap.size := Nat.lt_of_lt_of_le lg5 ht.size
                have Xc := Lib.hid xc
                clear hu hue xc
                by_cases hkK : K ≤ k
                · exfalso
                  have := HKi.out
                  omega
                · rw [if_neg hkK] at hu2
                  subst hu2
                  have pm := fun (i : Nat) (v : Value) (hv : (tokCells ⟨tk, tn, ts, ta, te⟩)[i]? = some v) => (ht.cell (p := ⟨g5, off5 + k * 5 + i, none⟩) lg5 (fun hf => hf)).trans (xm i v hv)
                  clear xm lg5
                  have p0 : wr.cell? ⟨g5, off5 + k * 5, none⟩ = some (.int .i64 tk) := pm 0 _ rfl
                  have p1 : wr.cell? ⟨g5, off5 + k * 5 + 1, none⟩ = some (.int .i64 tn) := pm 1 _ rfl
                  have p2 : wr.cell? ⟨g5, off5 + k * 5 + 2, none⟩ = some (.string ⟨ts.toArray⟩) := pm 2 _ rfl
                  have p3 : wr.cell? ⟨g5, off5 + k * 5 + 3, none⟩ = some (.int .i64 (ta : Int)) := (pm 3 _ rfl).trans (by first | rfl | (simp only [Lx.Tok.by, Int.natCast_add]; rfl))
                  have p4 : wr.cell? ⟨g5, off5 + k * 5 + 4, none⟩ = some (.int .i64 (te : Int)) := (pm 4 _ rfl).trans (by first | rfl | (simp only [Lx.Tok.by, Int.natCast_add]; rfl))
                  have hs1 : IntKind.i64.wrap (ta : Int) = (ta : Int) := IntWalk.i64_in _ (by omega)
                  have hs2 : IntKind.i64.wrap (te : Int) = (te : Int) := IntWalk.i64_in _ (by omega)
                  have hsame : ATok.same ⟨tk, tn, ts, (ta : Int), (te : Int)⟩ ⟨tk, tn, ts, ta, te⟩ = true := by simp [ATok.same]
                  have hL := fun W => like_any ⟨tk, tn, ts, (ta : Int), (te : Int)⟩ ⟨tk, tn, ts, ta, te⟩ W
                  rw [hsame] at hL
                  unfold ATok.val at hL
                  simp only at hL
                  have HL := Lib.hid hL
                  clear hL hsame pm
                  go_wp2_with fail
                  have kT := heap_alloc_new wr (.cells #[.int .i64 tk, .int .i64 tn, .string ⟨ts.toArray⟩, .int .i64 (ta : Int), .int .i64 (te : Int)] 43)
                  have tV := ht.alloc (.cells #[.int .i64 tk, .int .i64 tn, .string ⟨ts.toArray⟩, .int .i64 (ta : Int), .int .i64 (te : Int)] 43)
                  generalize wr.alloc (.cells #[.int .i64 tk, .int .i64 tn, .string ⟨ts.toArray⟩, .int .i64 (ta : Int), .int .i64 (te : Int)] 43) = V at *
                  generalize wr.heap.size = Y at *
                  have TV := Lib.hid tV
                  have lT := lt_of_block kT
                  have Sof : ∀ w' : World, Turned V w' (fun _ => False) → (w'.cell? ⟨Y, 0, none⟩ = some (.int .i64 tk) ∧ w'.cell? ⟨Y, 1, none⟩ = some (.int .i64 tn) ∧ w'.cell? ⟨Y, 2, none⟩ = some (.string ⟨ts.toArray⟩) ∧ w'.cell? ⟨Y, 3, none⟩ = some (.int .i64 (ta : Int)) ∧ w'.cell? ⟨Y, 4, none⟩ = some (.int .i64 (te : Int)) ∧
                      w'.cell? ⟨g, off + k * 5, none⟩ = some (.int .i64 tk) ∧ w'.cell? ⟨g, off + k * 5 + 1, none⟩ = some (.int .i64 tn) ∧ w'.cell? ⟨g, off + k * 5 + 2, none⟩ = some (.string ⟨ts.toArray⟩) ∧ w'.cell? ⟨g, off + k * 5 + 3, none⟩ = some (.int .i64 ta) ∧ w'.cell? ⟨g, off + k * 5 + 4, none⟩ = some (.int .i64 te)) ∧ Turned V w' (fun _ => False) := by
                    intro w' t
                    have k1 := (t.block Y lT (fun hf => hf)).trans kT
                    have tw : Turned w4 w' (fun _ => False) := T5.out.trans (TV.out.trans t (fun _ _ hf => hf)) (fun _ _ hf => hf)
                    have po := fun (i : Nat) (u : Value) (hu : (tokCells ⟨tk, tn, ts, ta, te⟩)[i]? = some u) => (tw.cell (p := ⟨g, off + k * 5 + i, none⟩) lg (fun hf => hf)).trans (Xc.out i u hu)
                    exact ⟨⟨by simp [World.cell?, k1], by simp [World.cell?, k1], by simp [World.cell?, k1], by simp [World.cell?, k1], by simp [World.cell?, k1], po 0 _ rfl, po 1 _ rfl, po 2 _ rfl, po 3 _ rfl, po 4 _ rfl⟩, t⟩
                  have HSof := Lib.hid Sof
                  obtain ⟨⟨z0, z1, z2, z3, z4, q0, q1, q2, q3, q4⟩, -⟩ := Sof V (Turned.refl _ _)
                  have tt : Turned V V.drew (fun _ => False) := (Turned.refl V _).drew
                  have lgV : g < V.heap.size := Nat.lt_of_lt_of_le lg (T5.out.trans tV (fun _ _ hf => hf)).size
                  clear Sof kT tV p0 p1 p2 p3 p4 lg5' ht
                  refine wp_region_held_drew (S := (fun w' => (w'.cell? ⟨Y, 0, none⟩ = some (.int .i64 tk) ∧ w'.cell? ⟨Y, 1, none⟩ = some (.int .i64 tn) ∧ w'.cell? ⟨Y, 2, none⟩ = some (.string ⟨ts.toArray⟩) ∧ w'.cell? ⟨Y, 3, none⟩ = some (.int .i64 (ta : Int)) ∧ w'.cell? ⟨Y, 4, none⟩ = some (.int .i64 (te : Int)) ∧
                      w'.cell? ⟨g, off + k * 5, none⟩ = some (.int .i64 tk) ∧ w'.cell? ⟨g, off + k * 5 + 1, none⟩ = some (.int .i64 tn) ∧ w'.cell? ⟨g, off + k * 5 + 2, none⟩ = some (.string ⟨ts.toArray⟩) ∧ w'.cell? ⟨g, off + k * 5 + 3, none⟩ = some (.int .i64 ta) ∧ w'.cell? ⟨g, off + k * 5 + 4, none⟩ = some (.int .i64 te)) ∧ Turned V w' (fun _ => False))) (by kernel_rfl) (HSof.out _ tt) (fun hHeld => ?_)
                  refine wpAnyH_take (i := 0) (v := ?_) rfl (by kernel_rfl) (by kernel_rfl) (by kernel_rfl) (fun _ _ _ h => h) (Or.inl ⟨by rfl, ?_⟩) (by assumption) ?_
                  rotate_left 1
                  · (intro w hSw; (try dsimp only at hSw); first | (go_simp; done) | (go_simp; with_reducible rfl))
                  simp only [List.getElem_toArray, List.getElem_cons_zero, Act.put, List.setIfInBounds_toArray, List.set_cons_zero, List.set_cons_succ]
                  refine wpAnyH_take (i := 1) (v := ?_) rfl (by kernel_rfl) (by kernel_rfl) (by kernel_rfl) (fun _ _ _ h => h) (Or.inl ⟨by rfl, ?_⟩) (by assumption) ?_
                  rotate_left 1
                  · (intro w hSw; (try dsimp only at hSw); first | (go_simp; done) | (go_simp; with_reducible rfl))
                  simp only [List.getElem_toArray, List.getElem_cons_zero, List.getElem_cons_succ, Act.put, List.setIfInBounds_toArray, List.set_cons_zero, List.set_cons_succ]
                  refine wpAnyH_take (i := 2) (v := ?_) rfl (by kernel_rfl) (by kernel_rfl) (by kernel_rfl) (fun _ _ _ h => h) (Or.inl ⟨by rfl, ?_⟩) (by assumption) ?_
                  rotate_left 1
                  · (intro w hSw; (try dsimp only at hSw); first | (go_simp; done) | (go_simp; with_reducible rfl))
                  simp only [List.getElem_toArray, List.getElem_cons_zero, List.getElem_cons_succ, Act.put, List.setIfInBounds_toArray, List.set_cons_zero, List.set_cons_succ]
                  refine wpAnyH_take (i := 3) (v := ?_) rfl (by kernel_rfl) (by kernel_rfl) (by kernel_rfl) (fun _ _ _ h => h) (Or.inl ⟨by rfl, ?_⟩) (by assumption) ?_
                  rotate_left 1
                  · (intro w hSw; (try dsimp only at hSw); first | (go_simp; done) | (go_simp; with_reducible rfl))
                  simp only [List.getElem_toArray, List.getElem_cons_zero, List.getElem_cons_succ, Act.put, List.setIfInBounds_toArray, List.set_cons_zero, List.set_cons_succ]
                  refine wpAnyH_take (i := 4) (v := ?_) rfl (by kernel_rfl) (by kernel_rfl) (by kernel_rfl) (fun _ _ _ h => h) (Or.inl ⟨by rfl, ?_⟩) (by assumption) ?_
                  rotate_left 1
                  · (intro w hSw; (try dsimp only at hSw); first | (go_simp; done) | (go_simp; with_reducible rfl))
                  simp only [List.getElem_toArray, List.getElem_cons_zero, List.getElem_cons_succ, Act.put, List.setIfInBounds_toArray, List.set_cons_zero, List.set_cons_succ]
                  refine wpAnyH_ready (rs := [5]) (by kernel_rfl) (by simp) ?_
                  refine AllReadyH.cons rfl (fun K2 hK2 => ?_) AllReadyH.nil
                  go_simp
                  go_at_call 37
                  refine (HL.out _).mono ?_
                  rintro e6 w6 ⟨rfl, t6⟩
                  go_wp2_with fail
                  refine hK2.out _ _ (HSof.out _ (tt.trans t6 (fun _ _ hf => hf))) (fun hHeld2 => ?_)
                  clear hK2 K2 hHeld
                  refine wpAnyH_take (i := 6) (v := ?_) rfl (by kernel_rfl) (by kernel_rfl) (by kernel_rfl) (fun _ _ _ h => h) (Or.inl ⟨by rfl, ?_⟩) (by assumption) ?_
                  rotate_left 1
                  · (intro w hSw; (try dsimp only at hSw); first | (go_simp; done) | (go_simp; with_reducible rfl))
                  simp only [List.getElem_toArray, List.getElem_cons_zero, List.getElem_cons_succ, Act.put, List.setIfInBounds_toArray, List.set_cons_zero, List.set_cons_succ]
                  refine wpAnyH_take (i := 7) (v := ?_) rfl (by kernel_rfl) (by kernel_rfl) (by kernel_rfl) (fun _ _ _ h => h) (Or.inl ⟨by rfl, ?_⟩) (by assumption) ?_
                  rotate_left 1
                  · (intro w hSw; (try dsimp only at hSw); first | (go_simp; done) | (go_simp; with_reducible rfl))
                  simp only [List.getElem_toArray, List.getElem_cons_zero, List.getElem_cons_succ, Act.put, List.setIfInBounds_toArray, List.set_cons_zero, List.set_cons_succ]
                  refine wpAnyH_take (i := 8) (v := ?_) rfl (by kernel_rfl) (by kernel_rfl) (by kernel_rfl) (fun _ _ _ h => h) (Or.inl ⟨by rfl, ?_⟩) (by assumption) ?_
                  rotate_left 1
                  · (intro w hSw; (try dsimp only at hSw); first | (go_simp; done) | (go_simp; with_reducible rfl))
                  simp only [List.getElem_toArray, List.getElem_cons_zero, List.getElem_cons_succ, Act.put, List.setIfInBounds_toArray, List.set_cons_zero, List.set_cons_succ]
                  refine wpAnyH_take (i := 9) (v := ?_) rfl (by kernel_rfl) (by kernel_rfl) (by kernel_rfl) (fun _ _ _ h => h) (Or.inl ⟨by rfl, ?_⟩) (by assumption) ?_
                  rotate_left 1
                  · (intro w hSw; (try dsimp only at hSw); first | (go_simp; done) | (go_simp; with_reducible rfl))
                  simp only [List.getElem_toArray, List.getElem_cons_zero, List.getElem_cons_succ, Act.put, List.setIfInBounds_toArray, List.set_cons_zero, List.set_cons_succ]
                  refine wpAnyH_take (i := 10) (v := ?_) rfl (by kernel_rfl) (by kernel_rfl) (by kernel_rfl) (fun _ _ _ h => h) (Or.inl ⟨by rfl, ?_⟩) (by assumption) ?_
                  rotate_left 1
                  · (intro w hSw; (try dsimp only at hSw); first | (go_simp; done) | (go_simp; with_reducible rfl))
                  simp only [List.getElem_toArray, List.getElem_cons_zero, List.getElem_cons_succ, Act.put, List.setIfInBounds_toArray, List.set_cons_zero, List.set_cons_succ]
                  refine wpAnyH_take (i := 11) (v := ?_) rfl (by kernel_rfl) (by kernel_rfl) (by kernel_rfl) (fun _ _ _ h => h) (Or.inl ⟨by rfl, ?_⟩) (by assumption) ?_
                  rotate_left 1
                  · (intro w hSw; (try dsimp only at hSw); first | (go_simp; done) | (go_simp; with_reducible rfl))
                  simp only [List.getElem_toArray, List.getElem_cons_zero, List.getElem_cons_succ, Act.put, List.setIfInBounds_toArray, List.set_cons_zero, List.set_cons_succ]
                  refine wpAnyH_take (i := 12) (v := ?_) rfl (by kernel_rfl) (by kernel_rfl) (by kernel_rfl) (fun _ _ _ h => h) (Or.inl ⟨by rfl, ?_⟩) (by assumption) ?_
                  rotate_left 1
                  · (intro w hSw; (try dsimp only at hSw); first | (go_simp; done) | (go_simp; with_reducible rfl))
                  simp only [List.getElem_toArray, List.getElem_cons_zero, List.getElem_cons_succ, Act.put, List.setIfInBounds_toArray, List.set_cons_zero, List.set_cons_succ]
                  refine wpAnyH_take (i := 13) (v := ?_) rfl (by kernel_rfl) (by kernel_rfl) (by kernel_rfl) (fun _ _ _ h => h) (Or.inl ⟨by rfl, ?_⟩) (by assumption) ?_
                  rotate_left 1
                  · (intro w hSw; (try dsimp only at hSw); first | (go_simp; done) | (go_simp; with_reducible rfl))
                  simp only [List.getElem_toArray, List.getElem_cons_zero, List.getElem_cons_succ, Act.put, List.setIfInBounds_toArray, List.set_cons_zero, List.set_cons_succ]
                  refine wpAnyH_take (i := 14) (v := ?_) rfl (by kernel_rfl) (by kernel_rfl) (by kernel_rfl) (fun _ _ _ h => h) (Or.inl ⟨by rfl, ?_⟩) (by assumption) ?_
                  rotate_left 1
                  · (intro w hSw; (try dsimp only at hSw); first | (go_simp; done) | (go_simp; with_reducible rfl))
                  simp only [List.getElem_toArray, List.getElem_cons_zero, List.getElem_cons_succ, Act.put, List.setIfInBounds_toArray, List.set_cons_zero, List.set_cons_succ]
                  refine wpAnyH_take (i := 15) (v := ?_) rfl (by kernel_rfl) (by kernel_rfl) (by kernel_rfl) (fun _ _ _ h => h) (Or.inl ⟨by rfl, ?_⟩) (by assumption) ?_
                  rotate_left 1
                  · (intro w hSw; (try dsimp only at hSw); first | (go_simp; done) | (go_simp; with_reducible rfl))
                  simp only [List.getElem_toArray, List.getElem_cons_zero, List.getElem_cons_succ, Act.put, List.setIfInBounds_toArray, List.set_cons_zero, List.set_cons_succ]
                  refine wpAnyH_take (i := 16) (v := ?_) rfl (by kernel_rfl) (by kernel_rfl) (by kernel_rfl) (fun _ _ _ h => h) (Or.inl ⟨by rfl, ?_⟩) (by assumption) ?_
                  rotate_left 1
                  · (intro w hSw; (try dsimp only at hSw); first | (go_simp; done) | (go_simp; with_reducible rfl))
                  simp only [List.getElem_toArray, List.getElem_cons_zero, List.getElem_cons_succ, Act.put, List.setIfInBounds_toArray, List.set_cons_zero, List.set_cons_succ]
                  refine wpAnyH_take (i := 17) (v := ?_) rfl (by kernel_rfl) (by kernel_rfl) (by kernel_rfl) (fun _ _ _ h => h) (Or.inl ⟨by rfl, ?_⟩) (by assumption) ?_
                  rotate_left 1
                  · (intro w hSw; (try dsimp only at hSw); first | (go_simp; done) | (go_simp; with_reducible rfl))
                  simp only [List.getElem_toArray, List.getElem_cons_zero, List.getElem_cons_succ, Act.put, List.setIfInBounds_toArray, List.set_cons_zero, List.set_cons_succ]
                  refine wpAnyH_take (i := 18) (v := ?_) rfl (by kernel_rfl) (by kernel_rfl) (by kernel_rfl) (fun _ _ _ h => h) (Or.inl ⟨by rfl, ?_⟩) (by assumption) ?_
                  rotate_left 1
                  · (intro w hSw; (try dsimp only at hSw); first | (go_simp; done) | (go_simp; with_reducible rfl))
                  simp only [List.getElem_toArray, List.getElem_cons_zero, List.getElem_cons_succ, Act.put, List.setIfInBounds_toArray, List.set_cons_zero, List.set_cons_succ]
                  refine wpAnyH_take (i := 19) (v := ?_) rfl (by kernel_rfl) (by kernel_rfl) (by kernel_rfl) (fun _ _ _ h => h) (Or.inl ⟨by rfl, ?_⟩) (by assumption) ?_
                  rotate_left 1
                  · (intro w hSw; (try dsimp only at hSw); first | (go_simp; done) | (go_simp; with_reducible rfl))
                  simp only [List.getElem_toArray, List.getElem_cons_zero, List.getElem_cons_succ, Act.put, List.setIfInBounds_toArray, List.set_cons_zero, List.set_cons_succ]
                  refine wpAnyH_take (i := 20) (v := ?_) rfl (by kernel_rfl) (by kernel_rfl) (by kernel_rfl) (fun _ _ _ h => h) (Or.inl ⟨by rfl, ?_⟩) (by assumption) ?_
                  rotate_left 1
                  · (intro w hSw; (try dsimp only at hSw); first | (go_simp; done) | (go_simp; with_reducible rfl))
                  simp only [List.getElem_toArray, List.getElem_cons_zero, List.getElem_cons_succ, Act.put, List.setIfInBounds_toArray, List.set_cons_zero, List.set_cons_succ]
                  refine wpAnyH_take (i := 21) (v := ?_) rfl (by kernel_rfl) (by kernel_rfl) (by kernel_rfl) (fun _ _ _ h => h) (Or.inl ⟨by rfl, ?_⟩) (by assumption) ?_
                  rotate_left 1
                  · (intro w hSw; (try dsimp only at hSw); first | (go_simp; done) | (go_simp; with_reducible rfl))
                  simp only [List.getElem_toArray, List.getElem_cons_zero, List.getElem_cons_succ, Act.put, List.setIfInBounds_toArray, List.set_cons_zero, List.set_cons_succ]
                  refine wpAnyH_take (i := 22) (v := ?_) rfl (by kernel_rfl) (by kernel_rfl) (by kernel_rfl) (fun _ _ _ h => h) (Or.inl ⟨by rfl, ?_⟩) (by assumption) ?_
                  rotate_left 1
                  · (intro w hSw; (try dsimp only at hSw); first | (go_simp; done) | (go_simp; with_reducible rfl))
                  simp only [List.getElem_toArray, List.getElem_cons_zero, List.getElem_cons_succ, Act.put, List.setIfInBounds_toArray, List.set_cons_zero, List.set_cons_succ]
                  refine wpAnyH_take (i := 23) (v := ?_) rfl (by kernel_rfl) (by kernel_rfl) (by kernel_rfl) (fun _ _ _ h => h) (Or.inl ⟨by rfl, ?_⟩) (by assumption) ?_
                  rotate_left 1
                  · (intro w hSw; (try dsimp only at hSw); first | (go_simp; done) | (go_simp; with_reducible rfl))
                  simp only [List.getElem_toArray, List.getElem_cons_zero, List.getElem_cons_succ, Act.put, List.setIfInBounds_toArray, List.set_cons_zero, List.set_cons_succ]
                  refine wpAnyH_take (i := 24) (v := ?_) rfl (by kernel_rfl) (by kernel_rfl) (by kernel_rfl) (fun _ _ _ h => h) (Or.inl ⟨by rfl, ?_⟩) (by assumption) ?_
                  rotate_left 1
                  · (intro w hSw; (try dsimp only at hSw); first | (go_simp; done) | (go_simp; with_reducible rfl))
                  simp only [List.getElem_toArray, List.getElem_cons_zero, List.getElem_cons_succ, Act.put, List.setIfInBounds_toArray, List.set_cons_zero, List.set_cons_succ]
                  refine wpAnyH_take (i := 25) (v := ?_) rfl (by kernel_rfl) (by kernel_rfl) (by kernel_rfl) (fun _ _ _ h => h) (Or.inl ⟨by rfl, ?_⟩) (by assumption) ?_
                  rotate_left 1
                  · (intro w hSw; (try dsimp only at hSw); first | (go_simp; done) | (go_simp; with_reducible rfl))
                  simp only [List.getElem_toArray, List.getElem_cons_zero, List.getElem_cons_succ, Act.put, List.setIfInBounds_toArray, List.set_cons_zero, List.set_cons_succ]
                  refine wpAnyH_take (i := 26) (v := ?_) rfl (by kernel_rfl) (by kernel_rfl) (by kernel_rfl) (fun _ _ _ h => h) (Or.inl ⟨by rfl, ?_⟩) (by assumption) ?_
                  rotate_left 1
                  · (intro w hSw; (try dsimp only at hSw); first | (go_simp; done) | (go_simp; with_reducible rfl))
                  simp only [List.getElem_toArray, List.getElem_cons_zero, List.getElem_cons_succ, Act.put, List.setIfInBounds_toArray, List.set_cons_zero, List.set_cons_succ]
                  refine wpAnyH_take (i := 27) (v := ?_) rfl (by kernel_rfl) (by kernel_rfl) (by kernel_rfl) (fun _ _ _ h => h) (Or.inl ⟨by rfl, ?_⟩) (by assumption) ?_
                  rotate_left 1
                  · (intro w hSw; (try dsimp only at hSw); first | (go_simp; done) | (go_simp; with_reducible rfl))
                  simp only [List.getElem_toArray, List.getElem_cons_zero, List.getElem_cons_succ, Act.put, List.setIfInBounds_toArray, List.set_cons_zero, List.set_cons_succ]
                  refine wpAnyH_take (i := 28) (v := ?_) rfl (by kernel_rfl) (by kernel_rfl) (by kernel_rfl) (fun _ _ _ h => h) (Or.inl ⟨by rfl, ?_⟩) (by assumption) ?_
                  rotate_left 1
                  · (intro w hSw; (try dsimp only at hSw); first | (go_simp; done) | (go_simp; with_reducible rfl))
                  simp only [List.getElem_toArray, List.getElem_cons_zero, List.getElem_cons_succ, Act.put, List.setIfInBounds_toArray, List.set_cons_zero, List.set_cons_succ]
                  refine wpAnyH_take (i := 29) (v := ?_) rfl (by kernel_rfl) (by kernel_rfl) (by kernel_rfl) (fun _ _ _ h => h) (Or.inl ⟨by rfl, ?_⟩) (by assumption) ?_
                  rotate_left 1
                  · (intro w hSw; (try dsimp only at hSw); first | (go_simp; done) | (go_simp; with_reducible rfl))
                  simp only [List.getElem_toArray, List.getElem_cons_zero, List.getElem_cons_succ, Act.put, List.setIfInBounds_toArray, List.set_cons_zero, List.set_cons_succ]
                  refine wpAnyH_take (i := 30) (v := ?_) rfl (by kernel_rfl) (by kernel_rfl) (by kernel_rfl) (fun _ _ _ h => h) (Or.inl ⟨by rfl, ?_⟩) (by assumption) ?_
                  rotate_left 1
                  · (intro w hSw; (try dsimp only at hSw); first | (go_simp; done) | (go_simp; with_reducible rfl))
                  simp only [List.getElem_toArray, List.getElem_cons_zero, List.getElem_cons_succ, Act.put, List.setIfInBounds_toArray, List.set_cons_zero, List.set_cons_succ]
                  refine wpAnyH_done (by kernel_rfl) ?_ _
                  have t7 := TV.out.trans (tt.trans t6 (fun _ _ hf => hf)) (fun _ _ hf => hf)
                  clear hHeld2 hs1 hs2
                  go_wp2
                  go_roundw
                  case rel => exact ⟨k + 1, by omega, by go_num, t7⟩
                  case measure => simp [intOf]; omega
              · obtain rfl : k = o.length := by omega
                have bE := B5.out.trans (ht.below (B := w.heap.size) B5.out.size (fun _ hf => hf.elim))
                go_wp2
                go_ret
                exact ⟨rfl, bE⟩
  · go_wp2_with fail
    refine (shortK w _ b1 [l, f] 2 false rfl (by omega) HLR.out (by rw [sum2]; exact decide_eq_false hs)).mono ?_
    rintro e w2 ⟨rfl, b2⟩
    clear b1
    go_wp2
    go_ret
    exact ⟨rfl, b2⟩
end Go.Proofs.YtbcmjinifilamaaGreatDoor
