/- LexErrors: the walk. -/
import Derived.Test.YtbcmjinifilamaaDoorTokS
namespace Go.Proofs.YtbcmjinifilamaaDoor
open Go.RowKit

theorem prefix_take (x : Lx.Bytes) : x.take 2 = [40, 42] → Lib.hasPrefix x [40, 42] = true := by
  intro h
  unfold Lib.hasPrefix
  rw [List.isPrefixOf_iff_prefix, List.prefix_iff_eq_take]
  exact h.symm

set_option maxRecDepth 100000 in
set_option maxHeartbeats 3200000 in
theorem lexErrors_any (w : World) (he : Env w) (h7 : 7 ≤ w.heap.size) (l r : Lx.Bytes) (hl : l.length ≤ 140737488351232) (hr : r.length ≤ 140737488351232) :
    Calls Tryd.prog 3 #[.string ⟨l.toArray⟩, .string ⟨r.toArray⟩] w fun e w' => e = .returned (.bool true) ∧ Below w.heap.size w w' := by
  have HLR : Hid (∀ s ∈ [l, r], s.length ≤ 140737488351232) := Lib.hid (by
    intro s hs
    rcases List.mem_cons.1 hs with rfl | hs
    · exact hl
    · rw [List.mem_singleton.1 hs]; exact hr)
  have H7 := Lib.hid h7
  clear h7
  have hsz1 : (l.length : Int) ≤ 9223372036854775807 := by omega
  go_enter Tryd.func3, Tryd.ntmps3
  go_wp2_with fail
  refine (sane_any w he H7.out).mono ?_
  rintro e w1 ⟨rfl, b1⟩
  by_cases hs : l.length + r.length ≤ 20000
  · go_wp2_with fail
    refine (shortK w _ b1 [l, r] 2 true rfl (by omega) HLR.out (by rw [sum2]; exact decide_eq_true hs)).mono ?_
    rintro e w2 ⟨rfl, b2⟩
    clear b1
    have hcl := toks_count l
    cases hbad : (Lx.toks l).bad with
    | none =>
      have Hbad := Lib.hid hbad
      clear hbad
      go_wp2_with fail
      refine (tokens_fine w _ he H7.out b2 l (by omega) Hbad.out (by omega)).mono ?_
      rintro e w3 ⟨va, vc, rfl, -, b3, -⟩
      clear b2
      go_wp2
      go_ret
      exact ⟨rfl, b3⟩
    | some q =>
      obtain ⟨-, hq, hor⟩ := Lx.cuts_app_bad 10 r (by decide) l.length 0 l q (Nat.le_refl _) hbad
      have htk := Lx.cuts_take l.length 0 l q (Nat.le_refl _) hbad
      rw [Nat.sub_zero] at hor htk
      have htk1 : (Lx.toks (l.take q)).bad = none := congrArg Lx.Out.bad htk
      have htk2 := toks_count (l.take q)
      have htk3 := List.length_take_le q l
      have Hbad := Lib.hid hbad
      have Hor := Lib.hid hor
      have Htk1 := Lib.hid htk1
      clear hbad hor htk htk1
      have hq1 : ¬ (q : Int) < 0 := by omega
      have hq2 : (q : Int) < (l.length : Int) := by omega
      have hq3 : (q : Int) ≤ (l.length : Int) := by omega
      have hT := fun (V : World) (hV : Below w.heap.size w V) => tokens_fine w V he H7.out hV (l.take q) (by omega) Htk1.out (by omega)
      rw [← ext_take] at hT
      have HT := Lib.hid hT
      clear hT
      have hP := fun (V : World) => Tryd.strings_HasPrefix ⟨(l.drop q).toArray⟩ ⟨#[40, 42]⟩ V
      rw [el_of] at hP
      have hex := ext_drop l q l.length rfl
      go_wp2_with fail
      refine (tokens_err w _ he H7.out b2 l (by omega) q Hbad.out).mono ?_
      rintro e w3 ⟨rfl, b3, -⟩
      clear b2
      go_wp2_with fail
      refine (HT.out _ b3).mono ?_
      rintro e w4 ⟨va, vc, rfl, -, b4, -⟩
      clear b3
      have hadd1 := fun (w : World) => run_string_add_lists (P := Tryd.prog) w l [10] (by omega) (by simp)
      have hadd2 := fun (w : World) => run_string_add_lists (P := Tryd.prog) w (l ++ [10]) r (by rw [List.length_append, List.length_singleton]; omega) (by omega)
      have happ : l ++ [10] ++ r = l ++ 10 :: r := by simp
      rw [happ] at hadd2
      cases hpre : Lib.hasPrefix (l.drop q) [40, 42] with
      | true =>
        rw [hpre] at hP
        have HP := Lib.hid hP
        have Happ := Lib.hid happ
        clear hP hpre happ
        go_wp2_with fail
        refine (tokens_some w _ he H7.out b4 (l ++ 10 :: r)).mono ?_
        rintro e w5 ⟨v0, v1, v2, rfl, b5, -⟩
        clear b4
        go_wp2_with fail
        refine (HP.out _).mono ?_
        rintro e w6 ⟨rfl, rfl⟩
        go_wp2
        go_ret
        exact ⟨rfl, b5⟩
      | false =>
        have hbad2 : (Lx.toks (l ++ 10 :: r)).bad = some q := by
          rcases Hor.out with h | h
          · rw [prefix_take _ h] at hpre; cases hpre
          · exact h
        rw [hpre] at hP
        have HP := Lib.hid hP
        have Hbad2 := Lib.hid hbad2
        have Happ := Lib.hid happ
        clear hP hpre hbad2 happ
        go_wp2_with fail
        refine (tokens_err w _ he H7.out b4 (l ++ 10 :: r) (by rw [List.length_append, List.length_cons]; omega) q Hbad2.out).mono ?_
        rintro e w5 ⟨rfl, b5, -⟩
        clear b4
        go_wp2_with fail
        refine (HP.out _).mono ?_
        rintro e w6 ⟨rfl, rfl⟩
        go_wp2
        go_ret
        exact ⟨rfl, b5⟩
  · go_wp2_with fail
    refine (shortK w _ b1 [l, r] 2 false rfl (by omega) HLR.out (by rw [sum2]; exact decide_eq_false hs)).mono ?_
    rintro e w2 ⟨rfl, b2⟩
    clear b1
    go_wp2
    go_ret
    exact ⟨rfl, b2⟩
end Go.Proofs.YtbcmjinifilamaaDoor
