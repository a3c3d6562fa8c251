/- LexStripped: the walk. -/
import Derived.Test.YtbcmjinifilamaaDoorLike
namespace Go.Proofs.YtbcmjinifilamaaDoor
open Go.RowKit

theorem stripV_ok (l : Lx.Bytes) (h1 : l.length ≤ 100000) (h2 : (Lx.toks l).bad = none) (h3 : (Lx.toks l).toks.length ≤ 20000) : stripV l = .tuple #[.string ⟨(Lx.strip l).toArray⟩, .int .i64 0] := by
  unfold stripV
  rw [if_neg (by omega), h2]
  simp only
  rw [if_neg (by omega)]
theorem stripV_bad (l : Lx.Bytes) (h1 : l.length ≤ 100000) (q : Nat) (h2 : (Lx.toks l).bad = some q) : stripV l = .tuple #[.string ⟨#[]⟩, .int .i64 10] := by
  unfold stripV
  rw [if_neg (by omega), h2]

theorem stripL (w V : World) (he : Env w) (h7 : 7 ≤ w.heap.size) (hb : Below w.heap.size w V) (l : Lx.Bytes) (v : Value) (hv : stripV l = v) :
    Calls Tryd.prog 15 #[.string ⟨l.toArray⟩] V fun e w' => e = .returned v ∧ Below w.heap.size w w' ∧ Below V.heap.size V w' := by
  refine (strip_any V (he.below hb h7) (Nat.le_trans h7 hb.size) l).mono ?_
  rintro e w' ⟨h1, h2⟩
  rw [hv] at h1
  exact ⟨h1, hb.trans (h2.mono hb.size), h2⟩

theorem ownsRow_kept {w w' : World} {base B : Nat} {e : TypeId} {size : Nat} {v : Value} {n : Nat} {xs : List Value} (h : w.ownsRow base e size v n xs) (hb : Below w.heap.size w w') (_ : B = B) : w'.ownsRow base e size v n xs :=
  ownsRow_turned h (Turned.ofBelow hb (D := fun _ => False) (fun k hk hle => by omega)) (fun _ _ hf => hf)

set_option maxRecDepth 100000 in
set_option maxHeartbeats 3200000 in
theorem lexStripped_any (w : World) (he : Env w) (h7 : 7 ≤ w.heap.size) (l : Lx.Bytes) (hl : l.length ≤ 140737488351232) :
    Calls Tryd.prog 6 #[.string ⟨l.toArray⟩] w fun e w' => e = .returned (.bool true) ∧ Below w.heap.size w w' := by
  have HLR : Hid (∀ s ∈ [l], s.length ≤ 140737488351232) := Lib.hid (by
    intro s hs
    rw [List.mem_singleton.1 hs]; exact hl)
  have H7 := Lib.hid h7
  clear h7
  have hsz1 : (l.length : Int) ≤ 9223372036854775807 := by omega
  go_enter Tryd.func6, Tryd.ntmps6
  go_wp2_with fail
  refine (sane_any w he H7.out).mono ?_
  rintro e w1 ⟨rfl, b1⟩
  by_cases hs : l.length ≤ 20000
  · go_wp2_with fail
    refine (shortK w _ b1 [l] 1 true rfl (by omega) HLR.out (by rw [sum1]; exact decide_eq_true hs)).mono ?_
    rintro e w2 ⟨rfl, b2⟩
    clear b1
    have hcl := toks_count l
    cases hbad : (Lx.toks l).bad with
    | some q =>
      have Hbad := Lib.hid hbad
      clear hbad
      go_wp2_with fail
      refine (stripL w _ he H7.out b2 l _ (stripV_bad l (by omega) q Hbad.out)).mono ?_
      rintro e w3 ⟨rfl, b3, -⟩
      clear b2
      go_wp2_with fail
      refine (tokens_err w _ he H7.out b3 l (by omega) q Hbad.out).mono ?_
      rintro e w4 ⟨rfl, b4, -⟩
      clear b3
      go_wp2
      go_ret
      exact ⟨rfl, b4⟩
    | none =>
      have hts := Lx.toks_strip l hbad
      have h1 : (Lx.toks (Lx.strip l)).bad = none := by rw [hts]
      have h2 : (Lx.toks (Lx.strip l)).toks = (Lx.toks l).toks := by rw [hts]
      have h3 := Lx.strip_len l
      have h4 := Lx.strip_strip l hbad
      have h5 := Lx.strip_lines l
      have hv1 := stripV_ok l (by omega) hbad (by omega)
      have hv2 := stripV_ok (Lx.strip l) (by omega) h1 (by rw [h2]; omega)
      rw [h4] at hv2
      have Hv1 := Lib.hid hv1
      have Hv2 := Lib.hid hv2
      have H1 := Lib.hid h1
      have H2 := Lib.hid h2
      have Hbad := Lib.hid hbad
      have Hcl := Lib.hid hcl
      have hc1 := fun (V : World) => Tryd.strings_Count_one ⟨(Lx.strip l).toArray⟩ 10 V
      have hc2 := fun (V : World) => Tryd.strings_Count_one ⟨l.toArray⟩ 10 V
      rw [el_of] at hc1 hc2
      rw [show Lib.countByte (Lx.strip l) 10 = Lib.countByte l 10 by unfold Lib.countByte; rw [h5]] at hc1
      have Hc1 := Lib.hid hc1
      have Hc2 := Lib.hid hc2
      have hT2 := fun (V : World) (hV : Below w.heap.size w V) => tokens_fine w V he H7.out hV (Lx.strip l) (by rw [h3]; omega) h1 (by rw [h2]; omega)
      rw [h2] at hT2
      have HT2 := Lib.hid hT2
      clear hts h1 h2 h4 h5 hv1 hv2 hbad hc1 hc2 hT2
      generalize Lx.strip l = sl at *
      go_wp2_with fail
      refine (stripL w _ he H7.out b2 l _ Hv1.out).mono ?_
      rintro e w3 ⟨rfl, b3, -⟩
      clear b2
      go_wp2_with fail
      refine (tokens_fine w _ he H7.out b3 l (by omega) Hbad.out (by omega)).mono ?_
      rintro e w4 ⟨va, vc, rfl, ho4, b4, -⟩
      have Ho4 := Lib.hid ho4
      clear b3 ho4
      go_wp2_with fail
      refine (HT2.out _ b4).mono ?_
      rintro e w5 ⟨va2, vc2, rfl, ho5, b5, b5'⟩
      have ho4 := ownsRow_kept (B := 0) Ho4.out b5' rfl
      have Ho5 := Lib.hid ho5
      have Ho4' := Lib.hid ho4
      clear b4 ho5 ho4 Ho4 b5'
      go_wp2_with fail
      refine (stripL w _ he H7.out b5 sl _ Hv2.out).mono ?_
      rintro e w6 ⟨rfl, b6, b6'⟩
      have r1 := rowOf_owns (l := (Lx.toks l).toks.map ofTok) (v := .slice va (Lx.toks l).toks.length vc) (by rw [List.length_map, flat_ofTok]; exact ownsRow_kept (B := 0) Ho4'.out b6' rfl)
      have r2 := rowOf_owns (l := (Lx.toks l).toks.map ofTok) (v := .slice va2 (Lx.toks l).toks.length vc2) (by rw [List.length_map, flat_ofTok]; exact ownsRow_kept (B := 0) Ho5.out b6' rfl)
      have R1 := Lib.hid r1
      have R2 := Lib.hid r2
      have hlm : ((Lx.toks l).toks.map ofTok).length ≤ 1000000 := by rw [List.length_map]; omega
      clear b5 b6' r1 r2
      go_wp2_with fail
      refine (same_yes _ _ _ _ R1.out R2.out hlm).mono ?_
      rintro e w7 ⟨rfl, t7⟩
      have b7 := b6.trans (t7.below (B := w.heap.size) b6.size (fun _ hf => hf.elim))
      clear b6 t7
      go_wp2_with fail
      refine (Hc1.out _).mono ?_
      rintro e w8 ⟨rfl, rfl⟩
      go_wp2_with fail
      refine (Hc2.out _).mono ?_
      rintro e w9 ⟨rfl, rfl⟩
      go_wp2
      go_ret
      exact ⟨rfl, b7⟩
  · go_wp2_with fail
    refine (shortK w _ b1 [l] 1 false rfl (by omega) HLR.out (by rw [sum1]; exact decide_eq_false hs)).mono ?_
    rintro e w2 ⟨rfl, b2⟩
    clear b1
    go_wp2
    go_ret
    exact ⟨rfl, b2⟩
end Go.Proofs.YtbcmjinifilamaaDoor
