/- Parts of the proof, one behind the other. -/
import Derived.Test.YtljnmjehokijgaaMg16

/- SigBehind: the walk, over the contracts of sane and Subst. -/
namespace Go.Proofs.Ytljnmjehokijgaa
open Go.RowKit

/-- A list of trees as a value, the trees' rows in blocks of S. -/
def RowSB (w : World) (S : Nat → Prop) (v : Value) (l : List Tm) : Prop := ∃ a cap, v = .slice a l.length cap ∧ l.length ≤ maxLen ∧ TmsS w S l a

/-- Few trees are few. -/
theorem fewB_len {l : List Tm} (h : fewB l = true) : l.length ≤ 6000 := by
  unfold fewB at h
  have h1 := Tm.cnts_size 1000 l 6000 0 h
  have h2 := (Tm.cnts_le 1000 l 6000 0 (by omega)).2.2 h
  have h3 := Tm.sizes_len l
  omega

/-- What Subst has to give: where the trees' rows lie, too. -/
def SubstOk : Prop := ∀ (V : World) (R : Nat → Prop) (t : Tm) (l : List Tm) (va vl : Value), TmS V R t va → RowSB V R vl l →
  Calls Try.prog 21 #[va, vl] V fun e w' => (∃ v, e = .returned (.tuple #[v, .int .i64 (t.subst l).2]) ∧ TmS w' (fun g => R g ∨ V.heap.size ≤ g) (t.subst l).1 v) ∧ Turned V w' (fun _ => False)

set_option maxRecDepth 100000 in
set_option maxHeartbeats 3200000 in
theorem sigBehind_any (hsane : ∀ w, Calls Try.prog 9 #[] w fun e w' => e = .returned (.bool true) ∧ Turned w w' (fun _ => False)) (hsub : SubstOk)
    (w : World) (t : Tm) (l m : List Tm) (vt vl vm : Value) (ht : TmIn w t vt) (hl : RowTm w vl l) (hm : RowTm w vm m) (nl : ∀ n c, vl = .slice none n c → c = 0) (nm : ∀ n c, vm = .slice none n c → c = 0) (hsz : (1 + l.length + m.length) * 40 ≤ 140737488355328)
    (sl : ∀ g off sp n c, vl = .slice (some ⟨g, off, sp⟩) n c → l ≠ [] → sp = none) (sm : ∀ g off sp n c, vm = .slice (some ⟨g, off, sp⟩) n c → m ≠ [] → sp = none) :
    Calls Try.prog 5 #[vt, vl, vm] w fun e w' => e = .returned (.bool true) ∧ Below w.heap.size w w' := by
  obtain ⟨pt, ct, rfl, -⟩ := ht.form
  obtain ⟨al, cl, rfl, hll, rl⟩ := hl
  obtain ⟨am, cm, rfl, hlm, rm⟩ := hm
  obtain ⟨W, hW, tW, hC⟩ := box1 w (.int .i64 t.kind) (.int .i64 t.num) (.slice pt t.kids.length ct) 24
  have HIt := Lib.hid (fun V (hV : Turned w V (fun _ => False)) => TmS.turned (S' := (· < w.heap.size)) hV (fun _ _ _ hf => hf) (fun _ _ h => h) _ (TmIn.toS _ ht))
  have HIl := Lib.hid (fun V (hV : Turned w V (fun _ => False)) => TmsS.turned (S' := (· < w.heap.size)) hV (fun _ _ _ hf => hf) (fun _ _ h => h) _ (TmsIn.toS _ rl))
  have HIm := Lib.hid (fun V (hV : Turned w V (fun _ => False)) => TmsS.turned (S' := (· < w.heap.size)) hV (fun _ _ _ hf => hf) (fun _ _ h => h) _ (TmsIn.toS _ rm))
  have HW := Lib.hid hW
  have HC := Lib.hid hC
  have TW := Lib.hid tW
  have Hsub := Lib.hid hsub
  have Hsane := Lib.hid (hsane W)
  have Hll := Lib.hid hll
  have Hlm := Lib.hid hlm
  have HNl := Lib.hid (fun h => nl l.length cl (by rw [h]) : al = none → cl = 0)
  have HNm := Lib.hid (fun h => nm m.length cm (by rw [h]) : am = none → cm = 0)
  have HSl := Lib.hid (fun g off sp h => sl g off sp l.length cl (by rw [h]) : ∀ g off sp, al = some ⟨g, off, sp⟩ → l ≠ [] → sp = none)
  have HSm := Lib.hid (fun g off sp h => sm g off sp m.length cm (by rw [h]) : ∀ g off sp, am = some ⟨g, off, sp⟩ → m ≠ [] → sp = none)
  have hfin : ∀ V, Turned W V (fun _ => False) → Below w.heap.size w V := fun V hV => (tW.trans hV (fun _ _ hf => hf)).below (Nat.le_refl _) (fun _ hf => hf.elim)
  have HFin := Lib.hid hfin
  clear hsub hsane ht rl rm hW hC tW hll hlm nl nm sl sm hfin
  go_enter Try.func5, Try.ntmps5
  go_wp2_with fail
  rw [← HW.out]
  refine Hsane.out.mono ?_
  rintro e w1 ⟨rfl, t1⟩
  obtain ⟨c0, c1, c2, l1⟩ := HC.out w1 t1
  have T1 := Lib.hid t1
  have tw1 := TW.out.trans t1 (fun _ _ hf => hf)
  have hO1 : OwnTT (w1.alloc (.cells #[.int .i64 t.kind, .int .i64 t.num, .slice pt t.kids.length ct] 24)) w1.heap.size (· < w.heap.size) (.slice (some ⟨w1.heap.size, 0, none⟩) 1 1) [t] := ownTT_one (HIt.out w1 tw1) (Nat.le_refl _)
  have hap1 : TmsS (w1.alloc (.cells #[.int .i64 t.kind, .int .i64 t.num, .slice pt t.kids.length ct] 24)) (fun k => k < w.heap.size ∧ (Value.slice (some ⟨w1.heap.size, 0, none⟩) 1 1).ownBlock ≠ some k) l al := by
    refine TmsS.turned (D := fun _ => False) (Turned.refl _ _) (fun _ _ _ hf => hf) (fun k _ hk => ⟨hk, ?_⟩) _ (HIl.out _ (tw1.alloc _))
    have := tw1.size
    simp only [Value.ownBlock, ne_eq, Option.some.injEq]
    omega
  have hB1 : w1.heap.size ≤ (w1.alloc (.cells #[.int .i64 t.kind, .int .i64 t.num, .slice pt t.kids.length ct] 24)).heap.size := by simp
  have HO1 := Lib.hid hO1
  have HA1 := Lib.hid hap1
  have hlen1 : ([t].length + l.length) * 40 ≤ 140737488355328 := by simp; omega
  clear t1 tw1 hO1 hap1
  generalize t.kind = tk at *
  generalize t.num = tn at *
  generalize t.kids.length = tq at *
  have Hw1 := Lib.hid (show W.heap.size ≤ w1.heap.size from by have := T1.out.size; omega)
  have TwA := Lib.hid (show Turned W (w1.alloc (.cells #[.int .i64 tk, .int .i64 tn, .slice pt tq ct] 24)) (fun _ => False) from T1.out.alloc _)
  have HwW := Lib.hid (show w.heap.size ≤ W.heap.size from by have := TW.out.size; omega)
  have hlen2 : (([t] ++ l).length + m.length) * 40 ≤ 140737488355328 := by simp; omega
  go_wp2_with (at_builtin; first
    | (refine append_terms _ (by rfl) _ _ (by rfl) w1.heap.size (· < w.heap.size) (.slice (some ⟨w1.heap.size, 0, none⟩) 1 1) [t] l (by rfl) HO1.out al cl (by rfl) HNl.out HA1.out HSl.out hlen1 hB1 ?_; intro v3 w3 hO3 t3; go_loud (have u3 : Turned W w3 (fun _ => False) := TwA.out.trans t3 (fun i hi e => by have := Hw1.out; simp only [Value.ownBlock, Option.some.injEq] at e; omega)); go_loud (have hA3 : TmsS w3 (fun k => k < w.heap.size ∧ v3.ownBlock ≠ some k) m am := TmsS.turned (D := fun _ => False) (Turned.refl _ _) (fun _ _ _ hf => hf) (fun k _ hk => ⟨hk, fun e => by have := Hw1.out; have := HwW.out; have := (hO3.own_le e).1; omega⟩) _ (HIm.out _ (TW.out.trans u3 (fun _ _ hf => hf)))); go_loud (have hB3 : w1.heap.size ≤ w3.heap.size := by (have := t3.size; simp at this; omega)); have HO3 := Lib.hid hO3; have HA3 := Lib.hid hA3; have U3 := Lib.hid u3; clear hO3 hA3 t3 u3)
    | (go_loud (refine append_terms _ (by rfl) _ _ (by rfl) w1.heap.size (· < w.heap.size) v3 ([t] ++ l) m (by rfl) HO3.out am cm (by rfl) HNm.out HA3.out HSm.out hlen2 hB3 ?_); intro v4 w4 hO4 t4; go_loud (have u4 : Turned W w4 (fun _ => False) := U3.out.trans t4 (fun i hi e => by have := Hw1.out; have := (HO3.out.own_le e).1; omega)); go_loud (have HR4 := Lib.hid (hO4.rowS (S' := fun _ => True) (fun _ _ _ => trivial) (fun _ _ => trivial))); have U4 := Lib.hid u4; clear hO4 t4 u4))
  refine (few_any _ _ w4 (by obtain ⟨a4, k4, hv4, hl4, hr4⟩ := HR4.out; exact ⟨a4, k4, hv4, hl4, TmsS.toIn _ hr4⟩)).mono ?_
  rintro e w5 ⟨rfl, t5⟩
  have U5 := Lib.hid (U4.out.trans t5 (fun _ _ hf => hf))
  clear t5 HR4 HO3 HA3 U3 U4 hB3
  generalize hb5 : fewB _ = b5
  cases b5
  · go_wp2_with fail
    go_ret
    exact ⟨rfl, HFin.out _ U5.out⟩
  have Hl6 := Lib.hid (show l.length ≤ 6000 from by have := fewB_len hb5; simp at this; omega)
  clear hb5
  go_wp2_with fail
  refine (rall_any m _ w5 ⟨_, _, rfl, Hlm.out, TmsS.toIn _ (HIm.out _ (TW.out.trans U5.out (fun _ _ hf => hf)))⟩).mono ?_
  rintro e w6 ⟨rfl, t6⟩
  have U6 := Lib.hid (U5.out.trans t6 (fun _ _ hf => hf))
  clear t6 U5
  generalize hall : m.all Tm.isTree = b6
  cases b6
  · go_wp2_with fail
    go_ret
    exact ⟨rfl, HFin.out _ U6.out⟩
  obtain ⟨d0, d1, d2, l6⟩ := HC.out w6 U6.out
  go_wp2_with fail
  generalize hx : t.subst l = xs
  refine (Hsub.out w6 (· < w.heap.size) t l _ _ (HIt.out w6 (TW.out.trans U6.out (fun _ _ hf => hf))) ⟨al, cl, rfl, Hll.out, HIl.out w6 (TW.out.trans U6.out (fun _ _ hf => hf))⟩).mono ?_
  rw [hx]
  obtain ⟨x, ex⟩ := xs
  rintro e w7 ⟨⟨v7, rfl, hx7⟩, t7⟩
  obtain ⟨px, cx, rfl⟩ := hx7.form
  have U7 := Lib.hid (U6.out.trans t7 (fun _ _ hf => hf))
  have h67 := t7.size
  have HX7 := Lib.hid hx7
  clear d0 d1 d2 l6 hx7 t7
  go_wp2_with fail
  · go_ret
    exact ⟨rfl, HFin.out _ (U7.out.alloc _)⟩
  have ex0 : ex = 0 := by simpa using (show (ex != 0) = false by assumption)
  subst ex0
  obtain ⟨w8, hw8⟩ : ∃ w8, w8 = w7.alloc (.cells #[.int .i64 x.kind, .int .i64 x.num, .slice px x.kids.length cx] 24) := ⟨_, rfl⟩
  have U8 := Lib.hid (show Turned W w8 (fun _ => False) by rw [hw8]; exact U7.out.alloc _)
  have k8 : w8.heap[w7.heap.size]? = some (.cells #[.int .i64 x.kind, .int .i64 x.num, .slice px x.kids.length cx] 24 (0, 0)) := by rw [hw8]; exact heap_alloc_new _ _
  have hX8 : TmS w8 (fun g => g < w.heap.size ∨ w6.heap.size ≤ g ∧ g < w7.heap.size) x (.agg #[.int .i64 x.kind, .int .i64 x.num, .slice px x.kids.length cx]) := by
    rw [hw8]
    exact TmS.turned (D := fun _ => False) ((Turned.refl _ _).alloc _) (fun _ _ _ hf => hf) (fun k hk h => h.imp id (fun h => ⟨h, hk⟩)) _ HX7.out
  rw [← hw8]
  have Hw8 := Lib.hid (show w8.heap.size = w7.heap.size + 1 by rw [hw8]; simp)
  have Hw67 := Lib.hid (show w6.heap.size ≤ w7.heap.size from h67)
  generalize hxm : x.subst m = xms
  refine (Hsub.out w8 (fun g => g < w.heap.size ∨ w6.heap.size ≤ g ∧ g < w7.heap.size) x m _ _ hX8 ⟨am, cm, rfl, Hlm.out, TmsS.turned (D := fun _ => False) (Turned.refl _ _) (fun _ _ _ hf => hf) (fun _ _ h => .inl h) _ (HIm.out w8 (TW.out.trans U8.out (fun _ _ hf => hf)))⟩).mono ?_
  rw [hxm]
  obtain ⟨xm, em⟩ := xms
  rintro e w9 ⟨⟨v9, rfl, hx9⟩, t9⟩
  obtain ⟨pm, cpm, rfl⟩ := hx9.form
  have k9 := (t9.block _ (lt_of_block k8) (fun hf => hf)).trans k8
  have f9 : ∀ i, w9.frozen? ⟨w7.heap.size, i, none⟩ = false := fun i => by simp [World.frozen?, k9]
  have l9 := lt_of_block k9
  have q0 : w9.cell? ⟨w7.heap.size, 0, none⟩ = some (.int .i64 x.kind) := by simp [World.cell?, k9]
  have q1 : w9.cell? ⟨w7.heap.size, 1, none⟩ = some (.int .i64 x.num) := by simp [World.cell?, k9]
  have q2 : w9.cell? ⟨w7.heap.size, 2, none⟩ = some (.slice px x.kids.length cx) := by simp [World.cell?, k9]
  have U9 := Lib.hid (U8.out.trans t9 (fun _ _ hf => hf))
  have Hw9 := Lib.hid t9.size
  have HX9 := Lib.hid hx9
  clear hx9 t9 hX8 hw8 k8
  go_wp2_with fail
  obtain ⟨kA, tA⟩ := store3 k9 (.int .i64 xm.kind) (.int .i64 xm.num) (.slice pm xm.kids.length cpm)
  generalize hw10 : (((w9.setCell ⟨w7.heap.size, 0, none⟩ (.int .i64 xm.kind)).setCell ⟨w7.heap.size, 1, none⟩ (.int .i64 xm.num)).setCell ⟨w7.heap.size, 2, none⟩ (.slice pm xm.kids.length cpm)) = w10 at kA tA ⊢
  have Hw7 := Lib.hid (show W.heap.size ≤ w7.heap.size from U7.out.size)
  have U10 := Lib.hid (U9.out.trans tA (fun i hi e => by have := Hw7.out; omega))
  have h10 : w10.heap.size = w9.heap.size := by rw [← hw10]; simp
  have hX10 : TmS w10 (fun g => g < w10.heap.size ∧ g ≠ w7.heap.size) xm (.agg #[.int .i64 xm.kind, .int .i64 xm.num, .slice pm xm.kids.length cpm]) := by
    have hh := Hw8.out; have hg := Hw7.out; have hv := HwW.out
    have hs : w.heap.size < W.heap.size ∨ True := .inr trivial
    refine TmS.turned tA (fun j _ hj e => ?_) (fun j hj h => ?_) _ HX9.out
    · subst e; rcases hj with (h | h) | h <;> omega
    · rcases h with (h | h) | h <;> constructor <;> omega
  have HX10 := Lib.hid hX10
  have k10 : (w10.alloc (.cells #[] 24)).heap[w7.heap.size]? = some (.cells #[.int .i64 xm.kind, .int .i64 xm.num, .slice pm xm.kids.length cpm] 24 (0, 0)) := (((Turned.refl w10 (fun _ => False)).alloc _).block _ (lt_of_block kA) (fun hf => hf)).trans kA
  have K10 := Lib.hid k10
  have Hw10 := Lib.hid (show w7.heap.size < w10.heap.size from lt_of_block kA)
  have hlw : w.heap.size ≤ w10.heap.size := by have := HwW.out; have := Hw7.out; have := Hw10.out; omega
  have Hlw := Lib.hid hlw
  rw [← h10]
  clear kA tA hw10 h10 hX10 k10 k9 f9 l9 q0 q1 q2 HX9 U9 HX7 h67 hlw
  go_loopw [48, 9] (fun i u wr => ∃ k : Nat, k ≤ l.length ∧ i = .int .i64 k ∧ OwnTT wr w10.heap.size (fun g => g < w.heap.size ∨ w10.heap.size ≤ g) u ((l.take k).map fun y => (y.subst m).1) ∧ (∀ y ∈ l.take k, (y.subst m).2 = 0) ∧
      wr.heap[w7.heap.size]? = some (.cells #[.int .i64 xm.kind, .int .i64 xm.num, .slice pm xm.kids.length cpm] 24 (0, 0)) ∧ TmS wr (fun g => g < w10.heap.size ∧ g ≠ w7.heap.size) xm (.agg #[.int .i64 xm.kind, .int .i64 xm.num, .slice pm xm.kids.length cpm]) ∧ Turned W wr (fun _ => False) ∧ w10.heap.size ≤ wr.heap.size) (fun i _ _ => l.length - (intOf i).toNat)
  case atStart => exact ⟨0, Nat.zero_le _, rfl, ownTT_empty w10 _ (Nat.le_refl _), fun y hy => by simp at hy, K10.out, TmS.turned (D := fun _ => False) ((Turned.refl _ _).alloc _) (fun _ _ _ hf => hf) (fun _ _ h => h) _ HX10.out, U10.out.alloc _, by simp⟩
  case round =>
    obtain ⟨k, hk, rfl, hor, hz, kx, hxr, ht, hsz10⟩ := hrel
    by_cases hlt : k < l.length
    · have hki : (k : Int) < (l.length : Int) := by omega
      have hll := Hll.out
      unfold maxLen at hll
      have hrl := HIl.out wr (TW.out.trans ht (fun _ _ hf => hf))
      obtain ⟨gl, ol, sa, sc, rfl, lgl, p0, p1, p2, pt2⟩ := tmsS_at2 hrl k hlt
      go_wp2_with fail
      obtain ⟨wy, hwy⟩ : ∃ wy, wy = wr.alloc (.cells #[.int .i64 l[k].kind, .int .i64 l[k].num, .slice sa l[k].kids.length sc] 24) := ⟨_, rfl⟩
      rw [← hwy]
      have uy : Turned wr wy (fun _ => False) := by rw [hwy]; exact (Turned.refl _ _).alloc _
      generalize hzz : l[k].subst m = zz
      refine (Hsub.out wy (fun g => g < w.heap.size) l[k] m _ _ (TmS.turned uy (fun _ _ _ hf => hf) (fun _ _ h => h) _ pt2) ⟨am, cm, rfl, Hlm.out, HIm.out wy (TW.out.trans (ht.trans uy (fun _ _ hf => hf)) (fun _ _ hf => hf))⟩).mono ?_
      rw [hzz]
      obtain ⟨z, ez⟩ := zz
      rintro e wz ⟨⟨vz, rfl, hzS⟩, tz⟩
      obtain ⟨pz, cz, rfl⟩ := hzS.form
      have uz : Turned wr wz (fun _ => False) := uy.trans tz (fun _ _ hf => hf)
      obtain ⟨wb, hwb⟩ : ∃ wb, wb = wz.alloc (.cells #[.int .i64 z.kind, .int .i64 z.num, .slice pz z.kids.length cz] 24) := ⟨_, rfl⟩
      have ub : Turned wr wb (fun _ => False) := by rw [hwb]; exact uz.alloc _
      have hwr : w10.heap.size ≤ wr.heap.size := hsz10
      obtain ⟨hA, hB, hC⟩ := put_one (R := fun g => g < w.heap.size) (c0 := .int .i64 z.kind) (c1 := .int .i64 z.num) (c2 := .slice pz z.kids.length cz) (t := z) hor ub (by
        rw [hwb]
        exact TmS.turned (D := fun _ => False) ((Turned.refl _ _).alloc _) (fun _ _ _ hf => hf) (fun j hj h => h.imp id (fun h => by have := uy.size; omega)) _ hzS) (fun j hj => by have := Hlw.out; omega) hwr
      have hG := heap_alloc_new wb (.cells #[.int .i64 z.kind, .int .i64 z.num, .slice pz z.kids.length cz] 24)
      have kb : wb.heap[wz.heap.size]? = some (.cells #[.int .i64 z.kind, .int .i64 z.num, .slice pz z.kids.length cz] 24 (0, 0)) := by rw [hwb]; exact heap_alloc_new _ _
      have r0 : wb.cell? ⟨wz.heap.size, 0, none⟩ = some (.int .i64 z.kind) := by simp [World.cell?, kb]
      have r1 : wb.cell? ⟨wz.heap.size, 1, none⟩ = some (.int .i64 z.num) := by simp [World.cell?, kb]
      have r2 : wb.cell? ⟨wz.heap.size, 2, none⟩ = some (.slice pz z.kids.length cz) := by simp [World.cell?, kb]
      have lb := lt_of_block kb
      have HA := Lib.hid hA
      have HB := Lib.hid hB
      have HG := Lib.hid hG
      have Hub := Lib.hid ub
      have Hwb := Lib.hid hwb
      have Hor := Lib.hid hor
      have Hz := Lib.hid hz
      have Kx := Lib.hid kx
      have Hxr := Lib.hid hxr
      have Ht := Lib.hid ht
      have Uz := Lib.hid uz
      clear hA hB hG ub hor hz kx hxr ht p0 p1 p2 pt2 lgl hrl hzS uy tz hwy hwb uz kb
      have hlen : ((l.take k).map fun y => (y.subst m).1).length ≤ 1000000 := by have := Hl6.out; simp; omega
      go_upto_region 14 with fail
      rw [← Hwb.out]
      go_wp2_with (at_builtin; go_loud (refine append_term _ (by rfl) _ _ (by rfl) w10.heap.size (fun g => g < w.heap.size ∨ w10.heap.size ≤ g) u9 ((l.take k).map fun y => (y.subst m).1) z (by rfl) HA.out wb.heap.size (.int .i64 z.kind) (.int .i64 z.num) (.slice pz z.kids.length cz) (by rfl) HG.out HB.out hlen hC (wb.heap.size + 1) (by simp) ?_); intro g5 cap5 w5 ho5 ht5 hat5 hl5; have HO5 := Lib.hid ho5; have HT5 := Lib.hid ht5; clear ho5 ht5 hat5)
      · go_ret
        exact ⟨rfl, HFin.out _ (Ht.out.trans Hub.out (fun _ _ hf => hf))⟩
      have ez0 : ez = 0 := by simpa using (show (ez != 0) = false by assumption)
      subst ez0
      have htk : (l.take (k + 1)).map (fun y => (y.subst m).1) = (l.take k).map (fun y => (y.subst m).1) ++ [z] := by rw [List.take_succ_eq_append_getElem hlt, List.map_append]; simp [hzz]
      have hTa : Turned wr (wb.alloc (.cells #[.int .i64 z.kind, .int .i64 z.num, .slice pz z.kids.length cz] 24)) (fun _ => False) := Hub.out.alloc _
      have hT5 : Turned wr w5 (fun j => u9.ownBlock = some j) := (hTa.mono (fun _ _ hf => hf.elim)).trans HT5.out (fun _ _ h => h)
      have hgo : ∀ j, u9.ownBlock = some j → w10.heap.size ≤ j := fun j e => (Hor.out.own_le e).1
      have hW10 := Hw10.out
      have hW7 := Hw7.out
      have s1 := HO5.out
      have hlk : ((l.take k).map fun y => (y.subst m).1).length = k := by simp; omega
      rw [← htk, hlk] at s1
      have s2 : ∀ y ∈ l.take (k + 1), (y.subst m).2 = 0 := by
        intro y hy
        rw [List.take_succ_eq_append_getElem hlt, List.mem_append] at hy
        rcases hy with hy | hy
        · exact Hz.out y hy
        · simp only [List.mem_singleton] at hy
          subst hy
          rw [hzz]
      have s3 := (hT5.block _ (lt_of_block Kx.out) (fun e => by have := hgo _ e; omega)).trans Kx.out
      have s4 := TmS.turned hT5 (fun j _ hj e => by have := hgo _ e; omega) (S' := fun g => g < w10.heap.size ∧ g ≠ w7.heap.size) (fun _ _ h => h) _ Hxr.out
      have s5 : Turned W w5 (fun _ => False) := Ht.out.trans hT5 (fun i hi e => by have := hgo _ e; omega)
      have s6 : w10.heap.size ≤ w5.heap.size := Nat.le_trans hwr hT5.size
      have S1 := Lib.hid s1
      have S2 := Lib.hid s2
      have S3 := Lib.hid s3
      have S4 := Lib.hid s4
      have S5 := Lib.hid s5
      clear s1 s2 s3 s4 s5 hTa hT5 hgo htk r0 r1 r2 lb
      go_wp2
      go_roundw
      case rel => exact ⟨k + 1, by omega, by go_num, S1.out, S2.out, S3.out, S4.out, S5.out, s6⟩
      case measure => simp [intOf]; omega
    · obtain rfl : k = l.length := by omega
      rw [List.take_of_length_le (Nat.le_refl _)] at hor hz
      obtain ⟨pb, cb, hv, hln, hrow⟩ := hor.rowS (S' := fun g => g < w.heap.size ∨ w10.heap.size ≤ g) (fun _ _ h => h.1) (fun j e => .inr (hor.own_le e).1)
      obtain ⟨d0, d1, d2, l6⟩ := HC.out wr ht
      have hbe := Tm.behind hx hall hz
      rw [hxm] at hbe
      have HU := Lib.hid (show ∀ V, Turned wr V (fun _ => False) → Turned W V (fun _ => False) from fun V hV => ht.trans hV (fun _ _ hf => hf))
      have Hc2 := Hsub.out wr (fun g => g < w.heap.size ∨ w10.heap.size ≤ g) t (l.map fun y => (y.subst m).1) _ _ (TmS.turned (D := fun _ => False) (Turned.refl _ _) (fun _ _ _ hf => hf) (fun _ _ h => .inl h) _ (HIt.out wr (TW.out.trans ht (fun _ _ hf => hf)))) ⟨pb, cb, hv, hln, hrow⟩
      rw [← hbe] at Hc2
      have HC2 := Lib.hid Hc2
      have Kx := Lib.hid kx
      have Hxr := Lib.hid hxr
      clear hor hz hrow hln hbe Hc2 kx hxr ht hv
      go_wp2_with fail
      refine HC2.out.mono ?_
      rintro e wy ⟨⟨vy, rfl, hyS⟩, ty⟩
      obtain ⟨py, cy, rfl⟩ := hyS.form
      have e0 := (ty.block _ (lt_of_block Kx.out) (fun hf => hf)).trans Kx.out
      have q0 : wy.cell? ⟨w7.heap.size, 0, none⟩ = some (.int .i64 xm.kind) := by simp [World.cell?, e0]
      have q1 : wy.cell? ⟨w7.heap.size, 1, none⟩ = some (.int .i64 xm.num) := by simp [World.cell?, e0]
      have q2 : wy.cell? ⟨w7.heap.size, 2, none⟩ = some (.slice pm xm.kids.length cpm) := by simp [World.cell?, e0]
      have l9 := lt_of_block e0
      obtain ⟨wv, hwv⟩ : ∃ wv, wv = wy.alloc (.cells #[.int .i64 xm.kind, .int .i64 xm.num, .slice py xm.kids.length cy] 24) := ⟨_, rfl⟩
      have uv : Turned wy wv (fun _ => False) := by rw [hwv]; exact (Turned.refl _ _).alloc _
      have Hsm := Lib.hid (rsame_any xm xm (.agg #[.int .i64 xm.kind, .int .i64 xm.num, .slice pm xm.kids.length cpm]) (.agg #[.int .i64 xm.kind, .int .i64 xm.num, .slice py xm.kids.length cy]) wv (TmIn.turned (ty.trans uv (fun _ _ hf => hf)) _ (TmS.toIn _ Hxr.out)) (TmIn.turned uv _ (TmS.toIn _ hyS)))
      have Uv := Lib.hid (HU.out wv (ty.trans uv (fun _ _ hf => hf)))
      have Hwv := Lib.hid hwv
      clear hyS ty hwv uv e0
      go_wp2_with fail
      rw [← Hwv.out]
      refine Hsm.out.mono ?_
      rw [(Tm.same_iff xm xm).2 rfl]
      rintro e wf ⟨rfl, tf⟩
      have Uf := Lib.hid (Uv.out.trans tf (fun _ _ hf => hf))
      clear tf
      go_wp2_with fail
      go_ret
      exact ⟨rfl, HFin.out _ Uf.out⟩
end Go.Proofs.Ytljnmjehokijgaa
