/- LexPlaces: the walk. -/
import Derived.Test.YtbcmjinifilamaaGreatDoorLongest
namespace Go.Proofs.YtbcmjinifilamaaGreatDoor
open Go.RowKit

theorem fill_gap {l : Lx.Bytes} (h1 : (Lx.toks l).toks = []) (h2 : (Lx.toks l).bad = none) : fillB l = true := by
  unfold fillB
  rw [h1, h2]
  rfl

theorem fill_rest {l : Lx.Bytes} {p : Nat} (h1 : (Lx.cuts p l).toks = []) (h2 : (Lx.cuts p l).bad = none) : fillB l = true := by
  have h := Lx.cuts_at_zero p l
  rw [h1, h2] at h
  exact fill_gap (List.map_eq_nil_iff.1 h.1.symm) (Option.map_eq_none_iff.1 h.2.symm)

set_option maxRecDepth 100000 in
set_option maxHeartbeats 3200000 in
theorem lexPlaces_any (w : World) (he : Env w) (h7 : 7 ≤ w.heap.size) (l : Lx.Bytes) (hl : l.length ≤ 140737488351232) :
    Calls Tryz.prog 8 #[.string ⟨l.toArray⟩] w fun e w' => e = .returned (.bool true) ∧ Below w.heap.size w w' := by
  have HLR : Hid (∀ s ∈ [l], s.length ≤ 140737488351232) := Lib.hid (by
    intro s hs
    rw [List.mem_singleton.1 hs]; exact hl)
  have H7 := Lib.hid h7
  clear h7
  have hsz1 : (l.length : Int) ≤ 9223372036854775807 := by omega
  go_enter Tryz.func8, Tryz.ntmps8
  go_wp2_with fail
  refine (sane_any w he H7.out).mono ?_
  rintro e w1 ⟨rfl, b1⟩
  by_cases hs : l.length ≤ 20000
  · go_wp2_with fail
    refine (shortK w _ b1 [l] 1 true rfl (by omega) HLR.out (by rw [sum1]; exact decide_eq_true hs)).mono ?_
    rintro e w2 ⟨rfl, b2⟩
    clear b1
    have hcl := toks_count l
    cases hbad : (Lx.toks l).bad with
    | some q =>
      obtain ⟨-, hq, -⟩ := Lx.cuts_app_bad 10 [] (by decide) l.length 0 l q (Nat.le_refl _) hbad
      have hq1 : (0 : Int) ≤ (q : Int) := by omega
      have hq2 : (q : Int) < (l.length : Int) := by omega
      have hmx : max (l.length : Int) 1 = (l.length : Int) := by omega
      have hq3 := decide_eq_true hq2
      have Hbad := Lib.hid hbad
      clear hbad
      go_wp2_with fail
      refine (tokens_err w _ he H7.out b2 l (by omega) q Hbad.out).mono ?_
      rintro e w3 ⟨rfl, b3, -⟩
      clear b2
      go_wp2
      go_ret
      exact ⟨by simp, b3⟩
    | none =>
      have Hbad := Lib.hid hbad
      clear hbad
      go_wp2_with fail
      refine (tokens_fine w _ he H7.out b2 l (by omega) Hbad.out (by omega)).mono ?_
      rintro e w3 ⟨va, vc, rfl, ho3, b3, -⟩
      have r3 := rowOf_owns (l := (Lx.toks l).toks.map ofTok) (v := .slice va (Lx.toks l).toks.length vc) (by rw [List.length_map, flat_ofTok]; exact ho3)
      have hin0 : (Lx.cuts 0 (l.drop 0)).toks = (Lx.toks l).toks.drop 0 := rfl
      have hin1 : (Lx.cuts 0 (l.drop 0)).bad = none := Hbad.out
      clear b2 ho3
      generalize (Lx.toks l).toks = o at *
      have R3 := Lib.hid (rowOf_at r3)
      have B3 := Lib.hid b3
      clear r3 b3
      go_wp2_with fail
      go_loopw [39, 6] (fun i f wr => ∃ k p : Nat, k ≤ o.length ∧ i = .int .i64 k ∧ f = .int .i64 p ∧ p ≤ l.length ∧ (Lx.cuts p (l.drop p)).toks = o.drop k ∧ (Lx.cuts p (l.drop p)).bad = none ∧ Turned w3 wr (fun _ => False)) (fun i _ _ => o.length - (intOf i).toNat)
      case atStart => exact ⟨0, 0, Nat.zero_le _, rfl, rfl, Nat.zero_le _, hin0, hin1, Turned.refl _ _⟩
      case round =>
        obtain ⟨k, p, hk, rfl, rfl, hp, ha, hb, ht⟩ := hrel
        clear hin0 hin1
        by_cases hlt : k < o.length
        · have hki : (k : Int) < (o.length : Int) := by omega
          obtain ⟨g, off, rfl, lg, xc⟩ := R3.out k hlt
          have hhd := Lx.cuts_head _ p (l.drop p) (Nat.le_refl _) o[k] (o.drop (k + 1)) (by rw [ha]; exact (List.getElem_cons_drop hlt).symm)
          generalize o[k] = x at *
          obtain ⟨tk, tn, ts, ta, te⟩ := x
          obtain ⟨i, len, x1, x2, x3, x4, x5, x6, x7, x8⟩ := hhd
          simp only at x1 x2 x5
          have pa := fun (i : Nat) (u : Value) (hu : (tokCells ⟨tk, tn, ts, ta, te⟩)[i]? = some u) => (ht.cell (p := ⟨g, off + k * 5 + i, none⟩) lg (fun hf => hf)).trans (xc i u hu)
          have p0 : wr.cell? ⟨g, off + k * 5, none⟩ = some (.int .i64 tk) := pa 0 _ rfl
          have p1 : wr.cell? ⟨g, off + k * 5 + 1, none⟩ = some (.int .i64 tn) := pa 1 _ rfl
          have p2 : wr.cell? ⟨g, off + k * 5 + 2, none⟩ = some (.string ⟨ts.toArray⟩) := pa 2 _ rfl
          have p3 : wr.cell? ⟨g, off + k * 5 + 3, none⟩ = some (.int .i64 ta) := pa 3 _ rfl
          have p4 : wr.cell? ⟨g, off + k * 5 + 4, none⟩ = some (.int .i64 te) := pa 4 _ rfl
          have lg' : g < wr.heap.size := Nat.lt_of_lt_of_le lg ht.size
          rw [List.length_drop] at x4
          rw [List.drop_drop] at x5 x6 x7
          have hfill : fillB ((l.drop p).take (ta - p)) = true := by
            rw [show ta - p = i by omega]
            exact fill_rest (x8 0).1 (x8 0).2
          have hka := (Lx.kind_alone x5).1
          have htx := (Lx.cut1_text x5).1
          rw [show p + i = ta by omega, show len = te - ta by omega] at hka htx
          rw [show p + i + len = te by omega, show p + (i + len) = te by omega] at x6 x7
          have hnext : te ≤ l.length ∧ (Lx.cuts te (l.drop te)).toks = o.drop (k + 1) ∧ (Lx.cuts te (l.drop te)).bad = none := ⟨by omega, x6.symm, x7.symm.trans hb⟩
          have hF := fun V => filling_any ((l.drop p).take (ta - p)) (by rw [List.length_take, List.length_drop]; omega) V
          rw [hfill] at hF
          have hexF : (ByteArray.mk l.toArray).extract p ta = ⟨((l.drop p).take (ta - p)).toArray⟩ := by rw [Lib.extract_eq]
          have hexK : (ByteArray.mk l.toArray).extract ta te = ⟨((l.drop ta).take (te - ta)).toArray⟩ := by rw [Lib.extract_eq]
          have hextl : ((l.drop ta).take (te - ta)).length ≤ 20000 := by rw [List.length_take, List.length_drop]; omega
          have y1 : ¬ (ta : Int) < (p : Int) := by omega
          have y2 : ¬ (te : Int) ≤ (ta : Int) := by omega
          have y3 : ¬ (l.length : Int) < (te : Int) := by omega
          have y4 : (p : Int) ≤ (ta : Int) := by omega
          have y5 : (ta : Int) ≤ (l.length : Int) := by omega
          have y6 : (ta : Int) ≤ (te : Int) := by omega
          have y7 : (te : Int) ≤ (l.length : Int) := by omega
          have y8 : (0 : Int) ≤ (ta : Int) := by omega
          generalize (l.drop p).take (ta - p) = gap at *
          generalize (l.drop ta).take (te - ta) = ext at *
          have HF := Lib.hid hF
          have Hts := Lib.hid htx
          have Hnext := Lib.hid hnext
          have Hka := Lib.hid hka
          clear xc pa lg ha hb x1 x2 x3 x4 x5 x6 x7 x8 hfill hka htx hnext hF
          go_wp2_with fail
          have kT := heap_alloc_new wr (.cells #[.int .i64 tk, .int .i64 tn, .string ⟨ts.toArray⟩, .int .i64 ta, .int .i64 te] 43)
          have tV := ht.alloc (.cells #[.int .i64 tk, .int .i64 tn, .string ⟨ts.toArray⟩, .int .i64 ta, .int .i64 te] 43)
          generalize wr.alloc (.cells #[.int .i64 tk, .int .i64 tn, .string ⟨ts.toArray⟩, .int .i64 ta, .int .i64 te] 43) = V0 at *
          generalize wr.heap.size = Y at *
          refine (HF.out _).mono ?_
          rintro e V ⟨rfl, t0⟩
          have kT := (t0.block Y (lt_of_block kT) (fun hf => hf)).trans kT
          have tV := tV.trans t0 (fun _ _ hf => hf)
          have TV := Lib.hid tV
          have lT := lt_of_block kT
          have Sof : ∀ w' : World, Turned V w' (fun _ => False) → (w'.cell? ⟨Y, 0, none⟩ = some (.int .i64 tk) ∧ w'.cell? ⟨Y, 2, none⟩ = some (.string ⟨ts.toArray⟩) ∧ w'.cell? ⟨Y, 3, none⟩ = some (.int .i64 ta) ∧ w'.cell? ⟨Y, 4, none⟩ = some (.int .i64 te)) ∧ Turned V w' (fun _ => False) := fun w' t => by
            have k1 := (t.block Y lT (fun hf => hf)).trans kT
            exact ⟨⟨by simp [World.cell?, k1], by simp [World.cell?, k1], by simp [World.cell?, k1], by simp [World.cell?, k1]⟩, t⟩
          have HSof := Lib.hid Sof
          obtain ⟨⟨q0, q2, q3, q4⟩, -⟩ := Sof V (Turned.refl _ _)
          have tt : Turned V V.drew (fun _ => False) := (Turned.refl V _).drew
          clear Sof kT tV t0 p0 p1 p2 p3 p4 lg' ht
          by_cases h50 : k < 50
          · have h50d := decide_eq_true (show (k : Int) < 50 by omega)
            have tK := TV.out.trans tt (fun _ _ hf => hf)
            have bK := B3.out.trans (tK.below (B := w.heap.size) B3.out.size (fun _ hf => hf.elim))
            have hK := kind_any V.drew (he.below bK H7.out) (Nat.le_trans H7.out bK.size) ⟨ext.toArray⟩ (by rw [bytes_len]; omega)
            rw [show (⟨ext.toArray⟩ : ByteArray).data.toList = ext from rfl, Hka.out] at hK
            have HK := Lib.hid hK
            have hbk : ((tk : Int) == (tk : Int)) = true := by simp
            clear hK tK bK
            go_wp2_with fail
            go_region_held3 (fun w' => (w'.cell? ⟨Y, 0, none⟩ = some (.int .i64 tk) ∧ w'.cell? ⟨Y, 2, none⟩ = some (.string ⟨ts.toArray⟩) ∧ w'.cell? ⟨Y, 3, none⟩ = some (.int .i64 ta) ∧ w'.cell? ⟨Y, 4, none⟩ = some (.int .i64 te)) ∧ Turned V w' (fun _ => False))
              (first | exact HSof.out _ (by assumption) | exact HSof.out _ (Turned.drew (by assumption)) | exact HSof.out _ (tt.trans t1 (fun _ _ hf => hf)))
              (first
                | (go_at_call 15; refine HK.out.mono ?_; rintro e w5 ⟨rfl, b5⟩; have t1 := Turned.ofBelow b5 (D := fun _ => False) (fun k hk hle => by omega)))
            have t5 := tt.trans t1 (fun _ _ hf => hf)
            have T5 := Lib.hid (TV.out.trans t5 (fun _ _ hf => hf))
            obtain ⟨⟨s0, s2, s3, s4⟩, -⟩ := HSof.out _ t5
            clear t1 t5 tt q0 q2 q3 q4 h50d hbk b5 HK HSof
            go_wp2_with fail
            have tW := T5.out
            by_cases hk3 : tk = 3
            · subst hk3
              have hb1 : (((3 : Nat) : Int) == 3) = true := rfl
              have hd3 : decide (((3 : Nat) : Int) = 3) = true := rfl
              go_quiet (fail)
              go_wp2
              go_roundw
              case rel => exact ⟨k + 1, te, by omega, by go_num, rfl, Hnext.out.1, Hnext.out.2.1, Hnext.out.2.2, tW.drewN _⟩
              case measure => simp [intOf]; omega
            · have hb1 : ((tk : Int) == 3) = false := by simp; omega
              have hb2 : ((tk : Int) != 3) = true := by simp; omega
              have hts := Hts.out hk3
              subst hts
              go_quiet (fail)
              go_wp2
              go_roundw
              case rel => exact ⟨k + 1, te, by omega, by go_num, rfl, Hnext.out.1, Hnext.out.2.1, Hnext.out.2.2, tW.drewN _⟩
              case measure => simp [intOf]; omega
          · have h50d := decide_eq_false (show ¬ (k : Int) < 50 by omega)
            go_wp2_with fail
            go_quiet (fail)
            obtain ⟨⟨s0, s2, s3, s4⟩, -⟩ := HSof.out _ ((Turned.refl V _).drew)
            go_wp2_with fail
            have tW := TV.out
            by_cases hk3 : tk = 3
            · subst hk3
              have hb1 : (((3 : Nat) : Int) == 3) = true := rfl
              have hd3 : decide (((3 : Nat) : Int) = 3) = true := rfl
              go_quiet (fail)
              go_wp2
              go_roundw
              case rel => exact ⟨k + 1, te, by omega, by go_num, rfl, Hnext.out.1, Hnext.out.2.1, Hnext.out.2.2, tW.drewN _⟩
              case measure => simp [intOf]; omega
            · have hb1 : ((tk : Int) == 3) = false := by simp; omega
              have hb2 : ((tk : Int) != 3) = true := by simp; omega
              have hts := Hts.out hk3
              subst hts
              go_quiet (fail)
              go_wp2
              go_roundw
              case rel => exact ⟨k + 1, te, by omega, by go_num, rfl, Hnext.out.1, Hnext.out.2.1, Hnext.out.2.2, tW.drewN _⟩
              case measure => simp [intOf]; omega
        · obtain rfl : k = o.length := by omega
          have hfl := fill_rest (by rw [ha, List.drop_length]) hb
          have hF := filling_any (l.drop p) (by rw [List.length_drop]; omega) wr
          rw [hfl] at hF
          have HF := Lib.hid hF
          have hex := ext_drop l p l.length rfl
          have hpi : (p : Int) ≤ (l.length : Int) := by omega
          have Ht := Lib.hid ht
          clear hF hfl ha hb ht
          generalize l.drop p = gap at *
          go_wp2_with fail
          refine (HF.out).mono ?_
          rintro e w5 ⟨rfl, t5⟩
          have bE := B3.out.trans (((Ht.out.trans t5 (fun _ _ hf => hf)).below (B := w.heap.size) B3.out.size (fun _ hf => hf.elim)))
          go_wp2
          go_ret
          exact ⟨rfl, bE⟩
  · go_wp2_with fail
    refine (shortK w _ b1 [l] 1 false rfl (by omega) HLR.out (by rw [sum1]; exact decide_eq_false hs)).mono ?_
    rintro e w2 ⟨rfl, b2⟩
    clear b1
    go_wp2
    go_ret
    exact ⟨rfl, b2⟩
end Go.Proofs.YtbcmjinifilamaaGreatDoor
