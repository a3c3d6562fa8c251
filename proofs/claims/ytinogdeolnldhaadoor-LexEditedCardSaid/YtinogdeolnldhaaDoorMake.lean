/- A new scanner: the maker. -/
import Derived.Test.YtinogdeolnldhaaDoorNew
namespace Go.Proofs.YtinogdeolnldhaaDoor
open Go.RowKit Go.WideMaps Go.Maps

theorem keyed84 : Keyed Tryd.prog 84 := int_keyed Tryd.underlying84
theorem key_class (c : Int) (h : (Lit.int .i64 c).wf = true) : keyOf Tryd.prog 84 (.int .i64 c) = some (.int .i64 c) := keyOf_int_mk Tryd.underlying84 h

set_option maxRecDepth 100000 in
set_option maxHeartbeats 800000 in
theorem newScanner_any (w : World) (he : Env w) (h7 : 7 ≤ w.heap.size) :
    Calls Tryd.prog 27 #[] w fun e w' => ∃ S : Scn, e = .returned (.pointer (some ⟨S.sb, 0, none⟩)) ∧ Scan w.heap.size w' S ∧ Below w.heap.size w w' ∧ S.toks = [] ∧ S.tv = .slice none 0 0 ∧ S.coms = [] ∧ S.cv = .slice none 0 0 := by
  have hmm := @run_makeMap Tryd.prog
  go_enter Tryd.func27, Tryd.ntmps27
  go_wp2_with fail
  refine (words_any w he).mono ?_
  rintro e w1 ⟨rfl, rfl⟩
  go_wp2_with fail
  have hcell1 : ∀ j, j < 37 → (w.alloc (.cells (Lx.words.map str).toArray 9)).cell? ⟨w.heap.size, j, none⟩ = some (str (Lx.words.getD j [])) := by
    intro j hj
    rw [World.cell?, show (w.alloc (.cells (Lx.words.map str).toArray 9)).heap[w.heap.size]? = _ from heap_alloc_new w _]
    have hl : Lx.words.length = 37 := by decide
    simp [List.getD, hl, hj]
  have b1 : Below w.heap.size w (w.alloc (.cells (Lx.words.map str).toArray 9)) := (Below.refl _ _).alloc (Nat.le_refl _) _
  have s1 : (w.alloc (.cells (Lx.words.map str).toArray 9)).heap.size = w.heap.size + 1 := by simp
  generalize w.alloc (.cells (Lx.words.map str).toArray 9) = W1 at *
  refine (setOf_any w.heap.size 37 Lx.words W1 (by decide) (by omega) (by omega) (by decide) hcell1).mono ?_
  rintro e w2 ⟨rfl, hset1, b2⟩
  clear hcell1
  have e2 : Env w2 := (he.below b1 h7).below b2 (by omega)
  have z2 : w.heap.size + 1 < w2.heap.size := by have := hset1.lt; omega
  go_wp2_with fail
  refine (signs_any w2 e2).mono ?_
  rintro e w3 ⟨rfl, rfl⟩
  go_wp2_with fail
  have hcell2 : ∀ j, j < 24 → (w2.alloc (.cells (Lx.signs.map str).toArray 9)).cell? ⟨w2.heap.size, j, none⟩ = some (str (Lx.signs.getD j [])) := by
    intro j hj
    rw [World.cell?, show (w2.alloc (.cells (Lx.signs.map str).toArray 9)).heap[w2.heap.size]? = _ from heap_alloc_new w2 _]
    have hl : Lx.signs.length = 24 := by decide
    simp [List.getD, hl, hj]
  have t3 : Turned w2 (w2.alloc (.cells (Lx.signs.map str).toArray 9)) (fun _ => False) := (Turned.refl _ _).alloc _
  have s3 : (w2.alloc (.cells (Lx.signs.map str).toArray 9)).heap.size = w2.heap.size + 1 := by simp
  generalize w2.alloc (.cells (Lx.signs.map str).toArray 9) = W3 at *
  refine (setOf_any w2.heap.size 24 Lx.signs W3 (by decide) (by omega) (by omega) (by decide) hcell2).mono ?_
  rintro e w4 ⟨rfl, hset2, b4⟩
  clear hcell2
  have t4 : Turned W3 w4 (fun _ => False) := ⟨b4.os, b4.tape, b4.output, b4.size, fun k hk _ => b4.block k hk⟩
  have hset1' := (hset1.turned t3 (fun hf => hf)).turned t4 (fun hf => hf)
  have b5 : Below w.heap.size w w4 := ((b1.trans (b2.mono (by omega))).trans (t3.below (B := w.heap.size) (by omega) (fun _ hf => hf.elim))).trans (t4.below (by omega) (fun _ hf => hf.elim))
  have z4 : w2.heap.size + 1 < w4.heap.size := by have := hset2.lt; omega
  rw [s1] at hset1'
  rw [s3] at hset2
  rw [s3]
  clear hset1 b1 b2 b4 t3 t4 he e2 h7
  have m0 := World.ownsMap_made w4 Tryd.prog 84 fnElem
  have g0 := World.grownBy_alloc w4 (.map #[] 0) (some w4.heap.size)
  have s5 : (w4.alloc (.map #[] 0)).heap.size = w4.heap.size + 1 := by simp
  go_wp2
  generalize w4.alloc (.map #[] 0) = V0 at *
  obtain ⟨V1, r1, m1, g1⟩ := m0.update (t := 60) keyed84 Tryd.underlying60 (by unfold maxLen; omega) (key_class 0 (by decide)) (val := .func (.func 51) #[] #[]) (d := .lit (.int .i64 51)) (ps := []) (by simp [fnElem])
  rw [r1]
  clear r1 m0
  go_wp2
  obtain ⟨V2, r2, m2, g2⟩ := m1.update (t := 60) keyed84 Tryd.underlying60 (by unfold maxLen; omega) (key_class 1 (by decide)) (val := .func (.func 52) #[] #[]) (d := .lit (.int .i64 52)) (ps := []) (by simp [fnElem])
  rw [r2]
  clear r2 m1
  go_wp2
  obtain ⟨V3, r3, m3, g3⟩ := m2.update (t := 60) keyed84 Tryd.underlying60 (by unfold maxLen; omega) (key_class 2 (by decide)) (val := .func (.func 53) #[] #[]) (d := .lit (.int .i64 53)) (ps := []) (by simp [fnElem])
  rw [r3]
  clear r3 m2
  go_wp2
  obtain ⟨V4, r4, m4, g4⟩ := m3.update (t := 60) keyed84 Tryd.underlying60 (by unfold maxLen; omega) (key_class 3 (by decide)) (val := .func (.func 54) #[] #[]) (d := .lit (.int .i64 54)) (ps := []) (by simp [fnElem])
  rw [r4]
  clear r4 m3
  go_wp2
  obtain ⟨V5, r5, m5, g5⟩ := m4.update (t := 60) keyed84 Tryd.underlying60 (by unfold maxLen; omega) (key_class 4 (by decide)) (val := .func (.func 55) #[] #[]) (d := .lit (.int .i64 55)) (ps := []) (by simp [fnElem])
  rw [r5]
  clear r5 m4
  go_wp2
  go_ret
  have gA := ((((g0.trans g1).trans g2).trans g3).trans g4).trans g5
  have tA : Turned w4 V5 (fun k => k = w4.heap.size) := Turned.grown (Turned.refl w4 (fun k => k = w4.heap.size)) gA (fun k _ hk => (Option.some.inj hk).symm)
  have tB := tA.alloc (.cells #[.map (some (w.heap.size + 1)), .map (some (w2.heap.size + 1)), .map (some w4.heap.size), .string ⟨#[]⟩, .int .i64 0, .int .i64 0, .slice none 0 0, .slice none 0 0] 63)
  have zw : w.heap.size ≤ V5.heap.size := by have := gA.size; omega
  refine ⟨{ sb := V5.heap.size, mw := w.heap.size + 1, ms := w2.heap.size + 1, mst := w4.heap.size, text := ⟨#[]⟩, from_ := 0, at_ := 0, tv := .slice none 0 0, toks := [], cv := .slice none 0 0, coms := [] }, rfl, ?_, ?_, rfl, rfl, rfl, rfl⟩
  · refine ⟨heap_alloc_new V5 _, ?_, ?_, ?_, World.ownsRow_nil _ _ _ _, World.ownsRow_nil _ _ _ _, zw⟩
    · exact hset1'.turned tB (fun e => by omega)
    · exact hset2.turned tB (fun e => by omega)
    · refine ⟨_, _, m5.alloc _, fun c h0 h4 => ?_⟩
      have h5 : c = 0 ∨ c = 1 ∨ c = 2 ∨ c = 3 ∨ c = 4 := by omega
      rcases h5 with rfl | rfl | rfl | rfl | rfl <;> rfl
  · exact b5.trans (tB.below (by omega) (fun k hk => by subst hk; omega))
end Go.Proofs.YtinogdeolnldhaaDoor
