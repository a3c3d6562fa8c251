/- LexWords: the walk. -/
import Derived.Test.YtbcmjinifilamaaDoorSaneAll
import Derived.Test.YtbcmjinifilamaaDoorLawMath
namespace Go.Proofs.YtbcmjinifilamaaDoor
open Go.RowKit

theorem wordsK (w V : World) (he : Env w) (h7 : 7 ≤ w.heap.size) (hb : Below w.heap.size w V) :
    Calls Tryd.prog 17 #[] V fun e w' => e = .returned (.slice (some ⟨V.heap.size, 0, none⟩) 37 37) ∧ w'.heap[V.heap.size]? = some (.cells (Lx.words.map str).toArray 9 (0, 0)) ∧ Below w.heap.size w w' ∧ Turned V w' (fun _ => False) := by
  refine (words_any V (he.below hb h7)).mono ?_
  rintro e w' ⟨h1, rfl⟩
  exact ⟨h1, heap_alloc_new V _, hb.alloc hb.size _, (Turned.refl V _).alloc _⟩
theorem signsK (w V : World) (he : Env w) (h7 : 7 ≤ w.heap.size) (hb : Below w.heap.size w V) :
    Calls Tryd.prog 18 #[] V fun e w' => e = .returned (.slice (some ⟨V.heap.size, 0, none⟩) 24 24) ∧ w'.heap[V.heap.size]? = some (.cells (Lx.signs.map str).toArray 9 (0, 0)) ∧ Below w.heap.size w w' ∧ Turned V w' (fun _ => False) := by
  refine (signs_any V (he.below hb h7)).mono ?_
  rintro e w' ⟨h1, rfl⟩
  exact ⟨h1, heap_alloc_new V _, hb.alloc hb.size _, (Turned.refl V _).alloc _⟩

theorem words_len : Lx.words.length = 37 := by decide
theorem signs_len : Lx.signs.length = 24 := by decide
theorem words_short : ∀ s ∈ Lx.words, s.length ≤ 1000 := by decide +kernel
theorem signs_short2 : ∀ s ∈ Lx.signs, s.length ≤ 1000 := by decide +kernel
theorem getD_mem {l : List Lx.Bytes} {k : Nat} (h : k < l.length) : l.getD k [] ∈ l := by
  rw [List.getD_eq_getElem?_getD, List.getElem?_eq_getElem h]
  exact List.getElem_mem h

/-- What is asked of a text at the end. -/
theorem inK (V : World) (b n : Nat) (L : List Lx.Bytes) (s : Lx.Bytes) (r : Bool) (hn : L.length = n) (hn2 : n ≤ 1000) (hb : V.heap[b]? = some (.cells (L.map str).toArray 9 (0, 0))) (hr : L.contains s = r) :
    Calls Tryd.prog 20 #[.slice (some ⟨b, 0, none⟩) n n, .string ⟨s.toArray⟩] V fun e w' => e = .returned (.bool r) ∧ Turned V w' (fun _ => False) := by
  refine (in_any b n L s V hn hn2 (lt_of_block hb) (fun j hj => words_at hb j (by rw [hn]; exact hj))).mono ?_
  rintro e w' ⟨h1, h2⟩
  rw [hr] at h1
  exact ⟨h1, h2⟩

theorem kindL (w V : World) (he : Env w) (h7 : 7 ≤ w.heap.size) (hb : Below w.heap.size w V) (l : Lx.Bytes) (hl : l.length ≤ 140737488351232) :
    Calls Tryd.prog 19 #[.string ⟨l.toArray⟩] V fun e w' => e = .returned (.int .i64 (Lx.kind l : Nat)) ∧ Below w.heap.size w w' ∧ Below V.heap.size V w' := by
  refine (kind_any V (he.below hb h7) (Nat.le_trans h7 hb.size) ⟨l.toArray⟩ (by rw [es_of]; exact hl)).mono ?_
  rintro e w' ⟨h1, h2⟩
  rw [el_of] at h1
  exact ⟨h1, hb.trans (h2.mono hb.size), h2⟩

set_option maxRecDepth 100000 in
set_option maxHeartbeats 3200000 in
theorem lexWords_any (w : World) (he : Env w) (h7 : 7 ≤ w.heap.size) (l : Lx.Bytes) (hl : l.length ≤ 140737488351232) :
    Calls Tryd.prog 7 #[.string ⟨l.toArray⟩] w fun e w' => e = .returned (.bool true) ∧ Below w.heap.size w w' := by
  have HL := Lib.hid hl
  have H7 := Lib.hid h7
  clear hl h7
  go_enter Tryd.func7, Tryd.ntmps7
  go_wp2_with fail
  refine (sane_any w he H7.out).mono ?_
  rintro e w1 ⟨rfl, b1⟩
  go_wp2_with fail
  refine (wordsK w _ he H7.out b1).mono ?_
  rintro e w2 ⟨rfl, k2, b2, -⟩
  generalize w1.heap.size = bw at *
  clear b1
  go_wp2_with fail
  refine (signsK w _ he H7.out b2).mono ?_
  rintro e w3 ⟨rfl, k3, b3, t3⟩
  have k4 := (t3.block _ (lt_of_block k2) (fun hf => hf)).trans k2
  generalize w2.heap.size = bs at *
  clear b2 k2 t3
  have K3 := Lib.hid k3
  have K4 := Lib.hid k4
  clear k3 k4
  go_wp2_with fail
  go_loopw [24] (fun i wr => ∃ k : Nat, k ≤ 37 ∧ i = .int .i64 k ∧ wr.heap[bw]? = some (.cells (Lx.words.map str).toArray 9 (0, 0)) ∧ wr.heap[bs]? = some (.cells (Lx.signs.map str).toArray 9 (0, 0)) ∧ Below w.heap.size w wr) (fun i _ => 37 - (intOf i).toNat)
  case atStart => exact ⟨0, Nat.zero_le _, rfl, K4.out, K3.out, b3⟩
  case round =>
    obtain ⟨k, hk, rfl, kw, ks, br⟩ := hrel
    clear K3 K4 b3
    by_cases hlt : k < 37
    · have hki : (k : Int) < 37 := by omega
      have hlk : k < Lx.words.length := by rw [words_len]; exact hlt
      have p0 := words_at kw k hlk
      have lw := lt_of_block kw
      have hkd := Lx.words_kind _ (getD_mem hlk)
      have hsh := words_short _ (getD_mem hlk)
      unfold str at p0
      generalize Lx.words.getD k [] = x at *
      have Kw := Lib.hid kw
      have Ks := Lib.hid ks
      have hkk := kindL w wr he H7.out br x (Nat.le_trans hsh (by omega))
      rw [hkd] at hkk
      have Hkk := Lib.hid hkk
      clear kw ks hkd hkk
      go_wp2_with fail
      refine Hkk.out.mono ?_
      rintro e w4 ⟨rfl, b4, b5⟩
      have kw2 := (b5.block _ (lt_of_block Kw.out)).trans Kw.out
      have ks2 := (b5.block _ (lt_of_block Ks.out)).trans Ks.out
      have Kw2 := Lib.hid kw2
      have Ks2 := Lib.hid ks2
      clear kw2 ks2 b5 p0
      go_wp2
      go_roundw
      case rel => exact ⟨k + 1, by omega, by go_num, Kw2.out, Ks2.out, b4⟩
      case measure => simp [intOf]; omega
    · obtain rfl : k = 37 := by omega
      have hki : ¬ ((37 : Nat) : Int) < 37 := by omega
      have Kw := Lib.hid kw
      have Ks := Lib.hid ks
      clear kw ks
      go_wp2_with fail
      go_loopw [34] (fun i wr => ∃ k : Nat, k ≤ 24 ∧ i = .int .i64 k ∧ wr.heap[bw]? = some (.cells (Lx.words.map str).toArray 9 (0, 0)) ∧ wr.heap[bs]? = some (.cells (Lx.signs.map str).toArray 9 (0, 0)) ∧ Below w.heap.size w wr) (fun i _ => 24 - (intOf i).toNat)
      case atStart => exact ⟨0, Nat.zero_le _, rfl, Kw.out, Ks.out, br⟩
      case round =>
        clear br Kw Ks
        obtain ⟨k, hk, rfl, kw, ks, br⟩ := hrel
        by_cases hlt : k < 24
        · have hki : (k : Int) < 24 := by omega
          have hlk : k < Lx.signs.length := by rw [signs_len]; exact hlt
          have p0 := words_at ks k hlk
          have lw := lt_of_block ks
          have hkd := Lx.signs_kind _ (getD_mem hlk)
          have hsh := signs_short2 _ (getD_mem hlk)
          unfold str at p0
          generalize Lx.signs.getD k [] = x at *
          have Kw := Lib.hid kw
          have Ks := Lib.hid ks
          have hkk := kindL w wr he H7.out br x (Nat.le_trans hsh (by omega))
          rw [hkd] at hkk
          have Hkk := Lib.hid hkk
          clear kw ks hkd hkk
          go_wp2_with fail
          refine Hkk.out.mono ?_
          rintro e w4 ⟨rfl, b4, b5⟩
          have kw2 := (b5.block _ (lt_of_block Kw.out)).trans Kw.out
          have ks2 := (b5.block _ (lt_of_block Ks.out)).trans Ks.out
          have Kw2 := Lib.hid kw2
          have Ks2 := Lib.hid ks2
          clear kw2 ks2 b5 p0
          go_wp2
          go_roundw
          case rel => exact ⟨k + 1, by omega, by go_num, Kw2.out, Ks2.out, b4⟩
          case measure => simp [intOf]; omega
        · obtain rfl : k = 24 := by omega
          have hki : ¬ ((24 : Nat) : Int) < 24 := by omega
          have hlaw := Lx.kind_law l
          have hkk := kindL w wr he H7.out br l HL.out
          have Kw := Lib.hid kw
          have Ks := Lib.hid ks
          clear kw ks
          by_cases h1 : Lx.kind l = 1
          · rw [h1] at hlaw hkk
            have hw := hlaw.1 (.inl rfl)
            have Hw := Lib.hid hw
            have Hkk := Lib.hid hkk
            clear hw hkk hlaw h1
            go_wp2_with fail
            refine Hkk.out.mono ?_
            rintro e w4 ⟨rfl, b4, b5⟩
            have kw2 := (b5.block _ (lt_of_block Kw.out)).trans Kw.out
            have Kw2 := Lib.hid kw2
            clear kw2 b5
            go_wp2_with fail
            refine (inK w4 bw 37 Lx.words l false words_len (by omega) Kw2.out (by rw [Hw.out]; rfl)).mono ?_
            rintro e w5 ⟨rfl, t5⟩
            have b6 := b4.trans (t5.below (B := w.heap.size) b4.size (fun _ hf => hf.elim))
            clear t5
            go_wp2
            go_ret
            exact ⟨rfl, b6⟩
          by_cases h2 : Lx.kind l = 2
          · rw [h2] at hlaw hkk
            have hw := hlaw.1 (.inr rfl)
            have Hw := Lib.hid hw
            have Hkk := Lib.hid hkk
            clear hw hkk hlaw h2
            go_wp2_with fail
            refine Hkk.out.mono ?_
            rintro e w4 ⟨rfl, b4, b5⟩
            have kw2 := (b5.block _ (lt_of_block Kw.out)).trans Kw.out
            have Kw2 := Lib.hid kw2
            clear kw2 b5
            go_wp2_with fail
            refine (inK w4 bw 37 Lx.words l true words_len (by omega) Kw2.out (by rw [Hw.out]; rfl)).mono ?_
            rintro e w5 ⟨rfl, t5⟩
            have b6 := b4.trans (t5.below (B := w.heap.size) b4.size (fun _ hf => hf.elim))
            clear t5
            go_wp2
            go_ret
            exact ⟨rfl, b6⟩
          by_cases h4 : Lx.kind l = 4
          · rw [h4] at hlaw hkk
            have hw := hlaw.2 (.inl rfl)
            have Hw := Lib.hid hw
            have Hkk := Lib.hid hkk
            clear hw hkk hlaw h4
            go_wp2_with fail
            refine Hkk.out.mono ?_
            rintro e w4 ⟨rfl, b4, b5⟩
            have kw2 := (b5.block _ (lt_of_block Ks.out)).trans Ks.out
            have Kw2 := Lib.hid kw2
            clear kw2 b5
            go_wp2_with fail
            refine (inK w4 bs 24 Lx.signs l false signs_len (by omega) Kw2.out (by rw [Hw.out]; rfl)).mono ?_
            rintro e w5 ⟨rfl, t5⟩
            have b6 := b4.trans (t5.below (B := w.heap.size) b4.size (fun _ hf => hf.elim))
            clear t5
            go_wp2
            go_ret
            exact ⟨rfl, b6⟩
          by_cases h5 : Lx.kind l = 5
          · rw [h5] at hlaw hkk
            have hw := hlaw.2 (.inr rfl)
            have Hw := Lib.hid hw
            have Hkk := Lib.hid hkk
            clear hw hkk hlaw h5
            go_wp2_with fail
            refine Hkk.out.mono ?_
            rintro e w4 ⟨rfl, b4, b5⟩
            have kw2 := (b5.block _ (lt_of_block Ks.out)).trans Ks.out
            have Kw2 := Lib.hid kw2
            clear kw2 b5
            go_wp2_with fail
            refine (inK w4 bs 24 Lx.signs l true signs_len (by omega) Kw2.out (by rw [Hw.out]; rfl)).mono ?_
            rintro e w5 ⟨rfl, t5⟩
            have b6 := b4.trans (t5.below (B := w.heap.size) b4.size (fun _ hf => hf.elim))
            clear t5
            go_wp2
            go_ret
            exact ⟨rfl, b6⟩
          · generalize Lx.kind l = K at *
            have e1 : ((K : Int) == 1) = false := by rw [Bool.eq_false_iff]; intro e; apply h1; have : (K : Int) = 1 := by simpa using e
                                                     omega
            have e2 : ((K : Int) == 2) = false := by rw [Bool.eq_false_iff]; intro e; apply h2; have : (K : Int) = 2 := by simpa using e
                                                     omega
            have e4 : ((K : Int) == 4) = false := by rw [Bool.eq_false_iff]; intro e; apply h4; have : (K : Int) = 4 := by simpa using e
                                                     omega
            have e5 : ((K : Int) == 5) = false := by rw [Bool.eq_false_iff]; intro e; apply h5; have : (K : Int) = 5 := by simpa using e
                                                     omega
            have f1 : ((K : Int) != 1) = true := by simp only [bne, e1, Bool.not_false]
            have f2 : ((K : Int) != 2) = true := by simp only [bne, e2, Bool.not_false]
            have f4 : ((K : Int) != 4) = true := by simp only [bne, e4, Bool.not_false]
            have f5 : ((K : Int) != 5) = true := by simp only [bne, e5, Bool.not_false]
            have Hkk := Lib.hid hkk
            clear hkk hlaw h1 h2 h4 h5
            go_wp2_with fail
            refine Hkk.out.mono ?_
            rintro e w4 ⟨rfl, b4, b5⟩
            clear b5
            go_wp2
            go_ret
            exact ⟨rfl, b4⟩
end Go.Proofs.YtbcmjinifilamaaDoor
