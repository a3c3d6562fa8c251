/- The reference: one token. -/
import Derived.Test.YtbcmjinifilamaaGreatDoorRSign
import Derived.Test.YtbcmjinifilamaaGreatDoorSaneAll
namespace Go.Proofs.YtbcmjinifilamaaGreatDoor
open Go.RowKit

def OnePost (l : Lx.Bytes) (p : Nat) (w : World) (e : Ending) (w' : World) : Prop :=
  ((∃ k n s len, Lx.cut1 (l.drop p) = .tok k n s len ∧ e = .returned (.tuple #[tokAgg ⟨k, n, s, p, p + len⟩, .bool true])) ∨ (Lx.cut1 (l.drop p) = .bad ∧ ∃ t : ATok, e = .returned (.tuple #[t.val, .bool false]))) ∧ Turned w w' (fun _ => False)

theorem rwordsK (V : World) : Calls Tryz.prog 19 #[] V fun e w' => e = .returned (.slice (some ⟨V.heap.size, 0, none⟩) 37 37) ∧ w'.heap[V.heap.size]? = some (.cells (Lx.words.map str).toArray 9 (0, 0)) ∧ Turned V w' (fun _ => False) := by
  refine (rwords_any V).mono ?_
  rintro e w' ⟨h1, rfl⟩
  exact ⟨h1, heap_alloc_new V _, (Turned.refl V _).alloc _⟩
theorem rsignsK (V : World) : Calls Tryz.prog 21 #[] V fun e w' => e = .returned (.slice (some ⟨V.heap.size, 0, none⟩) 24 24) ∧ w'.heap[V.heap.size]? = some (.cells (Lx.signs.map str).toArray 9 (0, 0)) ∧ Turned V w' (fun _ => False) := by
  refine (rsigns_any V).mono ?_
  rintro e w' ⟨h1, rfl⟩
  exact ⟨h1, heap_alloc_new V _, (Turned.refl V _).alloc _⟩

theorem rinK (V : World) (b n : Nat) (L : List Lx.Bytes) (s : Lx.Bytes) (r : Bool) (hn : L.length = n) (hn2 : n ≤ 1000) (hb : V.heap[b]? = some (.cells (L.map str).toArray 9 (0, 0))) (hr : L.contains s = r) :
    Calls Tryz.prog 77 #[.slice (some ⟨b, 0, none⟩) n n, .string ⟨s.toArray⟩] V fun e w' => e = .returned (.bool r) ∧ Turned V w' (fun _ => False) := by
  refine (in_any b n L s V hn hn2 (lt_of_block hb) (fun j hj => words_at hb j (by rw [hn]; exact hj))).mono ?_
  rintro e w' ⟨h1, h2⟩
  rw [hr] at h1
  exact ⟨h1, h2⟩

theorem rwords_len : Lx.words.length = 37 := by decide

/-- Five stores into one block. -/
theorem store5 {w : World} {Z : Nat} {c0 c1 c2 c3 c4 : Value} {t : TypeId} {z : Nat × Nat} (h : w.heap[Z]? = some (.cells #[c0, c1, c2, c3, c4] t z)) (a0 a1 a2 a3 a4 : Value) :
    (((((w.setCell ⟨Z, 0, none⟩ a0).setCell ⟨Z, 1, none⟩ a1).setCell ⟨Z, 2, none⟩ a2).setCell ⟨Z, 3, none⟩ a3).setCell ⟨Z, 4, none⟩ a4).heap[Z]? = some (.cells #[a0, a1, a2, a3, a4] t z) ∧
    Turned w (((((w.setCell ⟨Z, 0, none⟩ a0).setCell ⟨Z, 1, none⟩ a1).setCell ⟨Z, 2, none⟩ a2).setCell ⟨Z, 3, none⟩ a3).setCell ⟨Z, 4, none⟩ a4) (fun k => k = Z) := by
  refine ⟨?_, ?_⟩
  · have h0 := setCell_block h (i := 0) a0
    have h1 := setCell_block h0 (i := 1) a1
    have h2 := setCell_block h1 (i := 2) a2
    have h3 := setCell_block h2 (i := 3) a3
    have h4 := setCell_block h3 (i := 4) a4
    rw [h4]
    rfl
  · exact (((((Turned.refl w (fun k => k = Z)).setCell (p := ⟨Z, 0, none⟩) (fun _ => rfl) a0).setCell (p := ⟨Z, 1, none⟩) (fun _ => rfl) a1).setCell (p := ⟨Z, 2, none⟩) (fun _ => rfl) a2).setCell (p := ⟨Z, 3, none⟩) (fun _ => rfl) a3).setCell (p := ⟨Z, 4, none⟩) (fun _ => rfl) a4

/-- The end of One: what the result's block holds is returned. -/
theorem one_end {W : World} {Z : Nat} {c0 c1 c2 c3 c4 : Value} {z : Nat × Nat} {tmps : Array Value} {b : Value} {Q : Ending → World → Prop} (hk : W.heap[Z]? = some (.cells #[c0, c1, c2, c3, c4] 43 z))
    (h4 : tmps.getD 4 undef = .pointer (some ⟨Z, 0, none⟩)) (h5 : tmps.getD 5 undef = b) (hq : Q (.returned (.tuple #[.agg #[c0, c1, c2, c3, c4], b])) W) : bodyPost Tryz.prog Tryz.f45 Q Exit.ret ⟨tmps, []⟩ W := by
  have e0 : W.cell? ⟨Z, 0, none⟩ = some c0 := by simp [World.cell?, hk]
  have e1 : W.cell? ⟨Z, 1, none⟩ = some c1 := by simp [World.cell?, hk]
  have e2 : W.cell? ⟨Z, 2, none⟩ = some c2 := by simp [World.cell?, hk]
  have e3 : W.cell? ⟨Z, 3, none⟩ = some c3 := by simp [World.cell?, hk]
  have e4 : W.cell? ⟨Z, 4, none⟩ = some c4 := by simp [World.cell?, hk]
  subst h5
  exact bodyPost_ret (v := .tuple #[.agg #[c0, c1, c2, c3, c4], tmps.getD 5 undef]) (by simp only [Array.getD_eq_getD_getElem?] at h4 ⊢; simp [results, Tryz.results45, go_sem, h4, e0, e1, e2, e3, e4]) rfl hq

set_option maxRecDepth 100000 in
set_option maxHeartbeats 3200000 in
theorem rone_letter (l : Lx.Bytes) (p : Nat) (hl : l.length ≤ 1000000) (hp : p < l.length) (hc : Lx.isLetter l[p] = true) (hb : Lx.isBlank l[p] = false) (w : World) :
    Calls Tryz.prog 45 #[.string ⟨l.toArray⟩, .int .i64 p] w (OnePost l p w) := by
  have hpi : (p : Int) < (l.length : Int) := by omega
  have c1 : ∀ w, Calls Tryz.prog 75 #[.int .u8 ((⟨l.toArray⟩ : ByteArray)[p]'(by simpa [ByteArray.size] using hp)).toNat] w fun e w' => e = .returned (.bool true) ∧ w' = w := fun w => by
    have := rletter_any l[p] w
    rw [hc] at this
    exact this
  have C1 := Lib.hid c1
  have htl : ((l.drop p).takeWhile Lx.isInName).length ≤ l.length - p := by have := Lx.takeWhile_len Lx.isInName (l.drop p); rwa [List.length_drop] at this
  have hcut : Lx.cut1 (l.drop p) = Lx.cutName (l.drop p) := by
    rw [Lx.drop_cons hp, Lx.cut1, if_neg (by simp [hb]), if_pos hc]
  have hst : ((l.drop p).takeWhile Lx.isInName) = (l.drop p).take ((l.drop p).takeWhile Lx.isInName).length := by
    have := List.takeWhile_prefix (p := Lx.isInName) (l := l.drop p)
    exact List.prefix_iff_eq_take.1 this
  unfold Lx.cutName at hcut
  simp only at hcut
  have hN := fun w => rname_any l p hl (Nat.le_of_lt hp) w
  generalize hs : (l.drop p).takeWhile Lx.isInName = s at *
  have hex : (ByteArray.mk l.toArray).extract p (p + s.length) = ⟨s.toArray⟩ := by
    rw [Lib.extract_eq, show p + s.length - p = s.length by omega, ← hst]
  have HN := Lib.hid hN
  have Hcut := Lib.hid hcut
  have hpe : ((p + s.length : Nat) : Int) ≤ (l.length : Int) := by omega
  have hpe2 : (p : Int) ≤ ((p + s.length : Nat) : Int) := by omega
  clear c1 hcut hst hN hs hc hb
  cases hr : Lx.words.contains s with
  | false =>
    have Hr := Lib.hid hr
    clear hr
    go_enter Tryz.func45, Tryz.ntmps45
    go_wp2_with (first | (go_at_call 75; refine (C1.out _).mono ?_; rintro e w' ⟨rfl, rfl⟩) | (go_at_call 76; refine (HN.out _).mono ?_; rintro e w' ⟨rfl, rfl⟩))
    have kZ0 := heap_alloc_new w (.cells #[.int .i64 0, .int .i64 0, .string ⟨#[]⟩, .int .i64 0, .int .i64 0] 43)
    have zA : (w.alloc (.cells #[.int .i64 0, .int .i64 0, .string ⟨#[]⟩, .int .i64 0, .int .i64 0] 43)).heap.size = w.heap.size + 1 := by simp
    have tA : Turned w (w.alloc (.cells #[.int .i64 0, .int .i64 0, .string ⟨#[]⟩, .int .i64 0, .int .i64 0] 43)) (fun _ => False) := (Turned.refl w _).alloc _
    generalize w.alloc (.cells #[.int .i64 0, .int .i64 0, .string ⟨#[]⟩, .int .i64 0, .int .i64 0] 43) = V0 at *
    have kT := heap_alloc_new V0 (.cells #[.int .i64 1, .int .i64 0, .string ⟨s.toArray⟩, .int .i64 p, .int .i64 ((p : Int) + (s.length : Int))] 43)
    rw [zA] at kT
    have kZ := (Below.heap_alloc V0 (.cells #[.int .i64 1, .int .i64 0, .string ⟨s.toArray⟩, .int .i64 p, .int .i64 ((p : Int) + (s.length : Int))] 43) _ (lt_of_block kZ0)).trans kZ0
    have tV := tA.alloc (.cells #[.int .i64 1, .int .i64 0, .string ⟨s.toArray⟩, .int .i64 p, .int .i64 ((p : Int) + (s.length : Int))] 43)
    generalize V0.alloc (.cells #[.int .i64 1, .int .i64 0, .string ⟨s.toArray⟩, .int .i64 p, .int .i64 ((p : Int) + (s.length : Int))] 43) = V at *
    have hYZ0 : w.heap.size ≠ w.heap.size + 1 := by omega
    have hYw0 : ∀ k, k < w.heap.size → k ≠ w.heap.size + 1 := fun k hk => by omega
    clear kZ0 zA tA
    generalize hZe : w.heap.size = Z at *
    generalize hYe : Z + 1 = Y at *
    have HYe := Lib.hid hYe
    have HZe := Lib.hid hZe
    have TV := Lib.hid tV
    have hYZ : Z ≠ Y := hYZ0
    have HYw := Lib.hid hYw0
    clear hZe hYe tV hYZ0 hYw0
    have lZ := lt_of_block kZ
    have lT := lt_of_block kT
    have KZ := Lib.hid kZ
    have KT := Lib.hid kT
    have Sof : ∀ w' : World, Turned V w' (fun _ => False) → w'.cell? ⟨Y, 2, none⟩ = some (.string ⟨s.toArray⟩) ∧ Turned V w' (fun _ => False) := fun w' t => by
      have k1 := (t.block Y lT (fun hf => hf)).trans kT
      exact ⟨by simp [World.cell?, k1], t⟩
    have HSof := Lib.hid Sof
    have q2 := (Sof V (Turned.refl _ _)).1
    have tt : Turned V V.drew (fun _ => False) := (Turned.refl V _).drew
    clear Sof kZ kT
    go_region_held3 (fun w' => w'.cell? ⟨Y, 2, none⟩ = some (.string ⟨s.toArray⟩) ∧ Turned V w' (fun _ => False))
      (first | exact HSof.out _ (by assumption) | exact HSof.out _ (Turned.drew (by assumption)) | exact HSof.out _ (tt.trans t1 (fun _ _ hf => hf)) | exact HSof.out _ ((tt.trans t1 (fun _ _ hf => hf)).trans t2 (fun _ _ hf => hf)))
      (first
        | (go_at_call 19; refine (rwordsK _).mono ?_; rintro e w1 ⟨rfl, kW, t1⟩)
        | (go_at_call 77; refine (rinK _ _ 37 Lx.words s false rwords_len (by omega) kW Hr.out).mono ?_; rintro e w2 ⟨rfl, t2⟩))
    have t3 : Turned V w2 (fun _ => False) := (tt.trans t1 (fun _ _ hf => hf)).trans t2 (fun _ _ hf => hf)
    have kz2 := (t3.block Z lZ (fun hf => hf)).trans KZ.out
    have kt2 := (t3.block Y lT (fun hf => hf)).trans KT.out
    have T3 := Lib.hid (TV.out.trans t3 (fun _ _ hf => hf))
    clear t1 t2 t3 tt kW q2 lZ lT KZ KT TV HSof
    have z0 : w2.cell? ⟨Z, 0, none⟩ = some (.int .i64 0) := by simp [World.cell?, kz2]
    have z1 : w2.cell? ⟨Z, 1, none⟩ = some (.int .i64 0) := by simp [World.cell?, kz2]
    have z2 : w2.cell? ⟨Z, 2, none⟩ = some (.string ⟨#[]⟩) := by simp [World.cell?, kz2]
    have z3 : w2.cell? ⟨Z, 3, none⟩ = some (.int .i64 0) := by simp [World.cell?, kz2]
    have z4 : w2.cell? ⟨Z, 4, none⟩ = some (.int .i64 0) := by simp [World.cell?, kz2]
    have fz : ∀ i, w2.frozen? ⟨Z, i, none⟩ = false := fun i => by simp [World.frozen?, kz2]
    have ft : ∀ i, w2.frozen? ⟨Y, i, none⟩ = false := fun i => by simp [World.frozen?, kt2]
    have r0 : w2.cell? ⟨Y, 0, none⟩ = some (.int .i64 1) := by simp [World.cell?, kt2]
    have r1 : w2.cell? ⟨Y, 1, none⟩ = some (.int .i64 0) := by simp [World.cell?, kt2]
    have r2 : w2.cell? ⟨Y, 2, none⟩ = some (.string ⟨s.toArray⟩) := by simp [World.cell?, kt2]
    have r3 : w2.cell? ⟨Y, 3, none⟩ = some (.int .i64 p) := by simp [World.cell?, kt2]
    have r4 : w2.cell? ⟨Y, 4, none⟩ = some (.int .i64 ((p : Int) + (s.length : Int))) := by simp [World.cell?, kt2]
    have lz2 := lt_of_block kz2
    have lt2 := lt_of_block kt2
    have Kz2 := Lib.hid kz2
    have fz0 := fz 0
    have fz1 := fz 1
    have fz2 := fz 2
    have fz3 := fz 3
    have fz4 := fz 4
    have ft0 := ft 0
    clear kz2 kt2 fz ft
    by_cases h32 : s.length ≤ 32
    · have hd := decide_eq_true (show (p : Int) + (s.length : Int) - (p : Int) ≤ 32 by omega)
      have hc := Hcut.out
      rw [if_pos h32, show Lx.kindOf Lx.words s 1 2 = 1 by unfold Lx.kindOf; rw [Hr.out]; rfl] at hc
      have Hc := Lib.hid hc
      clear hc
      go_wp2
      obtain ⟨g1, g2⟩ := store5 Kz2.out (.int .i64 1) (.int .i64 0) (.string ⟨s.toArray⟩) (.int .i64 p) (.int .i64 ((p : Int) + (s.length : Int)))
      refine one_end g1 rfl rfl ⟨.inl ⟨_, _, _, _, Hc.out, ?_⟩, ?_⟩
      · unfold tokAgg
        simp
      · exact T3.out.trans g2 (fun k hk e => by have := HZe.out; omega)
    · have hd := decide_eq_false (show ¬ (p : Int) + (s.length : Int) - (p : Int) ≤ 32 by omega)
      have hc := Hcut.out
      rw [if_neg h32] at hc
      have Hc := Lib.hid hc
      clear hc
      go_wp2
      obtain ⟨g1, g2⟩ := store5 Kz2.out (.int .i64 1) (.int .i64 0) (.string ⟨s.toArray⟩) (.int .i64 p) (.int .i64 ((p : Int) + (s.length : Int)))
      refine one_end g1 rfl rfl ⟨.inr ⟨Hc.out, ⟨1, 0, s, p, (p : Int) + (s.length : Int)⟩, rfl⟩, ?_⟩
      exact T3.out.trans g2 (fun k hk e => by have := HZe.out; omega)
  | true =>
    have Hr := Lib.hid hr
    clear hr
    go_enter Tryz.func45, Tryz.ntmps45
    go_wp2_with (first | (go_at_call 75; refine (C1.out _).mono ?_; rintro e w' ⟨rfl, rfl⟩) | (go_at_call 76; refine (HN.out _).mono ?_; rintro e w' ⟨rfl, rfl⟩))
    have kZ0 := heap_alloc_new w (.cells #[.int .i64 0, .int .i64 0, .string ⟨#[]⟩, .int .i64 0, .int .i64 0] 43)
    have zA : (w.alloc (.cells #[.int .i64 0, .int .i64 0, .string ⟨#[]⟩, .int .i64 0, .int .i64 0] 43)).heap.size = w.heap.size + 1 := by simp
    have tA : Turned w (w.alloc (.cells #[.int .i64 0, .int .i64 0, .string ⟨#[]⟩, .int .i64 0, .int .i64 0] 43)) (fun _ => False) := (Turned.refl w _).alloc _
    generalize w.alloc (.cells #[.int .i64 0, .int .i64 0, .string ⟨#[]⟩, .int .i64 0, .int .i64 0] 43) = V0 at *
    have kT := heap_alloc_new V0 (.cells #[.int .i64 1, .int .i64 0, .string ⟨s.toArray⟩, .int .i64 p, .int .i64 ((p : Int) + (s.length : Int))] 43)
    rw [zA] at kT
    have kZ := (Below.heap_alloc V0 (.cells #[.int .i64 1, .int .i64 0, .string ⟨s.toArray⟩, .int .i64 p, .int .i64 ((p : Int) + (s.length : Int))] 43) _ (lt_of_block kZ0)).trans kZ0
    have tV := tA.alloc (.cells #[.int .i64 1, .int .i64 0, .string ⟨s.toArray⟩, .int .i64 p, .int .i64 ((p : Int) + (s.length : Int))] 43)
    generalize V0.alloc (.cells #[.int .i64 1, .int .i64 0, .string ⟨s.toArray⟩, .int .i64 p, .int .i64 ((p : Int) + (s.length : Int))] 43) = V at *
    have hYZ0 : w.heap.size ≠ w.heap.size + 1 := by omega
    have hYw0 : ∀ k, k < w.heap.size → k ≠ w.heap.size + 1 := fun k hk => by omega
    clear kZ0 zA tA
    generalize hZe : w.heap.size = Z at *
    generalize hYe : Z + 1 = Y at *
    have HYe := Lib.hid hYe
    have HZe := Lib.hid hZe
    have TV := Lib.hid tV
    have hYZ : Z ≠ Y := hYZ0
    have HYw := Lib.hid hYw0
    clear hZe hYe tV hYZ0 hYw0
    have lZ := lt_of_block kZ
    have lT := lt_of_block kT
    have KZ := Lib.hid kZ
    have KT := Lib.hid kT
    have Sof : ∀ w' : World, Turned V w' (fun _ => False) → w'.cell? ⟨Y, 2, none⟩ = some (.string ⟨s.toArray⟩) ∧ Turned V w' (fun _ => False) := fun w' t => by
      have k1 := (t.block Y lT (fun hf => hf)).trans kT
      exact ⟨by simp [World.cell?, k1], t⟩
    have HSof := Lib.hid Sof
    have q2 := (Sof V (Turned.refl _ _)).1
    have tt : Turned V V.drew (fun _ => False) := (Turned.refl V _).drew
    clear Sof kZ kT
    go_region_held3 (fun w' => w'.cell? ⟨Y, 2, none⟩ = some (.string ⟨s.toArray⟩) ∧ Turned V w' (fun _ => False))
      (first | exact HSof.out _ (by assumption) | exact HSof.out _ (Turned.drew (by assumption)) | exact HSof.out _ (tt.trans t1 (fun _ _ hf => hf)) | exact HSof.out _ ((tt.trans t1 (fun _ _ hf => hf)).trans t2 (fun _ _ hf => hf)))
      (first
        | (go_at_call 19; refine (rwordsK _).mono ?_; rintro e w1 ⟨rfl, kW, t1⟩)
        | (go_at_call 77; refine (rinK _ _ 37 Lx.words s true rwords_len (by omega) kW Hr.out).mono ?_; rintro e w2 ⟨rfl, t2⟩))
    have t3 : Turned V w2 (fun _ => False) := (tt.trans t1 (fun _ _ hf => hf)).trans t2 (fun _ _ hf => hf)
    have kz2 := (t3.block Z lZ (fun hf => hf)).trans KZ.out
    have kt2 := (t3.block Y lT (fun hf => hf)).trans KT.out
    have T3 := Lib.hid (TV.out.trans t3 (fun _ _ hf => hf))
    clear t1 t2 t3 tt kW q2 lZ lT KZ KT TV HSof
    have z0 : w2.cell? ⟨Z, 0, none⟩ = some (.int .i64 0) := by simp [World.cell?, kz2]
    have z1 : w2.cell? ⟨Z, 1, none⟩ = some (.int .i64 0) := by simp [World.cell?, kz2]
    have z2 : w2.cell? ⟨Z, 2, none⟩ = some (.string ⟨#[]⟩) := by simp [World.cell?, kz2]
    have z3 : w2.cell? ⟨Z, 3, none⟩ = some (.int .i64 0) := by simp [World.cell?, kz2]
    have z4 : w2.cell? ⟨Z, 4, none⟩ = some (.int .i64 0) := by simp [World.cell?, kz2]
    have fz : ∀ i, w2.frozen? ⟨Z, i, none⟩ = false := fun i => by simp [World.frozen?, kz2]
    have ft : ∀ i, w2.frozen? ⟨Y, i, none⟩ = false := fun i => by simp [World.frozen?, kt2]
    have r0 : w2.cell? ⟨Y, 0, none⟩ = some (.int .i64 1) := by simp [World.cell?, kt2]
    have r1 : w2.cell? ⟨Y, 1, none⟩ = some (.int .i64 0) := by simp [World.cell?, kt2]
    have r2 : w2.cell? ⟨Y, 2, none⟩ = some (.string ⟨s.toArray⟩) := by simp [World.cell?, kt2]
    have r3 : w2.cell? ⟨Y, 3, none⟩ = some (.int .i64 p) := by simp [World.cell?, kt2]
    have r4 : w2.cell? ⟨Y, 4, none⟩ = some (.int .i64 ((p : Int) + (s.length : Int))) := by simp [World.cell?, kt2]
    have lz2 := lt_of_block kz2
    have lt2 := lt_of_block kt2
    have Kz2 := Lib.hid kz2
    have fz0 := fz 0
    have fz1 := fz 1
    have fz2 := fz 2
    have fz3 := fz 3
    have fz4 := fz 4
    have ft0 := ft 0
    clear kz2 kt2 fz ft
    by_cases h32 : s.length ≤ 32
    · have hd := decide_eq_true (show (p : Int) + (s.length : Int) - (p : Int) ≤ 32 by omega)
      have hc := Hcut.out
      rw [if_pos h32, show Lx.kindOf Lx.words s 1 2 = 2 by unfold Lx.kindOf; rw [Hr.out]; rfl] at hc
      have Hc := Lib.hid hc
      clear hc
      go_wp2
      obtain ⟨g1, g2⟩ := store5 ((Below.heap_setCell w2 ⟨Y, 0, none⟩ (.int .i64 2) _ hYZ).trans Kz2.out) (.int .i64 2) (.int .i64 0) (.string ⟨s.toArray⟩) (.int .i64 p) (.int .i64 ((p : Int) + (s.length : Int)))
      refine one_end g1 rfl rfl ⟨.inl ⟨_, _, _, _, Hc.out, ?_⟩, ?_⟩
      · unfold tokAgg
        simp
      · exact (T3.out.trans ((Turned.refl w2 (fun k => k = Y)).setCell (p := ⟨Y, 0, none⟩) (fun _ => rfl) (.int .i64 2)) (fun k hk e => HYw.out k (by rw [← HZe.out]; exact hk) e)).trans g2 (fun k hk e => by have := HZe.out; omega)
    · have hd := decide_eq_false (show ¬ (p : Int) + (s.length : Int) - (p : Int) ≤ 32 by omega)
      have hc := Hcut.out
      rw [if_neg h32] at hc
      have Hc := Lib.hid hc
      clear hc
      go_wp2
      obtain ⟨g1, g2⟩ := store5 ((Below.heap_setCell w2 ⟨Y, 0, none⟩ (.int .i64 2) _ hYZ).trans Kz2.out) (.int .i64 2) (.int .i64 0) (.string ⟨s.toArray⟩) (.int .i64 p) (.int .i64 ((p : Int) + (s.length : Int)))
      refine one_end g1 rfl rfl ⟨.inr ⟨Hc.out, ⟨2, 0, s, p, (p : Int) + (s.length : Int)⟩, rfl⟩, ?_⟩
      exact (T3.out.trans ((Turned.refl w2 (fun k => k = Y)).setCell (p := ⟨Y, 0, none⟩) (fun _ => rfl) (.int .i64 2)) (fun k hk e => HYw.out k (by rw [← HZe.out]; exact hk) e)).trans g2 (fun k hk e => by have := HZe.out; omega)

end Go.Proofs.YtbcmjinifilamaaGreatDoor
