/- Parts of the proof, one behind the other. -/
import Derived.Deep.Cut
import Derived.Deep.CutRange
import Derived.Test.YtljnmjehokijgaaMg11

/- equate. -/
namespace Go.Proofs.Ytljnmjehokijgaa
open Go.RowKit

/-- Lists are not too long. -/
def Lens (nd : List Nd) : Prop := ∀ x ∈ nd, x.l.length ≤ 1000000

theorem Lens.setB {nd : List Nd} (h : Lens nd) (a b : Int) : Lens (Un.setB nd a b) := by
  unfold Un.setB
  cases hx : nd[a.toNat]? with
  | none => exact h
  | some x =>
    intro y hy
    rcases List.mem_or_eq_of_mem_set hy with h1 | h1
    · exact h y h1
    · rw [h1]; exact h x (List.mem_of_getElem? hx)

theorem Un.bind_at {F : Nat} {s s2 : Un} {a b : Int} {r : Bool} (h : Un.bind F s a b = some (s2, r)) : ∃ m c, Un.look s.nd a F (List.replicate s.nd.length false) b = some (m, c) ∧ ((c = true ∧ s2 = s ∧ r = false) ∨ (c = false ∧ s2 = ⟨Un.setB s.nd a b, s.var, s.c, s.p⟩ ∧ r = true)) := by
  unfold Un.bind at h
  cases hq : Un.look s.nd a F (List.replicate s.nd.length false) b with
  | none => rw [hq] at h; cases h
  | some X =>
    obtain ⟨m, c⟩ := X
    rw [hq] at h
    refine ⟨m, c, rfl, ?_⟩
    cases c with
    | true =>
      simp only [Option.some.injEq, Prod.mk.injEq] at h
      exact .inl ⟨rfl, h.1.symm, h.2.symm⟩
    | false =>
      simp only [Option.some.injEq, Prod.mk.injEq] at h
      exact .inr ⟨rfl, h.1.symm, h.2.symm⟩

/-- What equate does with the nodes that stand in the end. -/
def Un.meet (F f : Nat) (s : Un) (i j : Int) (x y : Nd) : Option (Un × Bool) :=
  if i = j ∧ x.k = 1 then some (s.one, true) else
  if y.k = 1 ∧ (x.k ≠ 1 ∨ x.n < y.n) then Un.bind F s.one j i else
  if x.k = 1 then Un.bind F s.one i j else
  if x.n ≠ y.n ∨ x.l.length ≠ y.l.length then some (s.one, false) else Un.eqs (Un.equate F f) x.l y.l s.one

theorem Un.equate_at {F f : Nat} {s s2 : Un} {a b : Int} {r : Bool} (h : Un.equate F (f + 1) s a b = some (s2, r)) : (20000 < s.p + 1 ∧ s2 = s.one ∧ r = false) ∨
    (s.p + 1 ≤ 20000 ∧ ∃ (i j : Nat) (x y : Nd), Un.fin s.nd F a = some (i : Int) ∧ Un.fin s.nd F b = some (j : Int) ∧ s.nd[i]? = some x ∧ s.nd[j]? = some y ∧ Un.meet F f s i j x y = some (s2, r)) := by
  simp only [Un.equate] at h
  by_cases h0 : 20000 < s.p + 1
  · rw [if_pos h0] at h
    simp only [Option.some.injEq, Prod.mk.injEq] at h
    exact .inl ⟨h0, h.1.symm, h.2.symm⟩
  · rw [if_neg h0] at h
    refine .inr ⟨by omega, ?_⟩
    cases ha : Un.fin s.nd F a with
    | none => rw [ha] at h; cases h
    | some a2 =>
      rw [ha] at h
      cases hb : Un.fin s.nd F b with
      | none => rw [hb] at h; cases h
      | some b2 =>
        rw [hb] at h
        obtain ⟨i, x, rfl, hx, -⟩ := Un.fin_lt F a a2 ha
        obtain ⟨j, y, rfl, hy, -⟩ := Un.fin_lt F b b2 hb
        simp only [Int.toNat_natCast, hx, hy] at h
        exact ⟨i, j, x, y, rfl, rfl, hx, hy, h⟩

mutual
theorem Un.equate_bound {F : Nat} : ∀ (f : Nat) (s s2 : Un) (a b : Int) (r : Bool), Un.equate F f s a b = some (s2, r) → Lens s.nd → 0 ≤ s.p → s.p ≤ 20000 → Lens s2.nd ∧ 0 ≤ s2.p ∧ s2.p ≤ 20001 ∧ (r = true → s2.p ≤ 20000)
  | 0, _, _, _, _, _, h, _, _, _ => by cases h
  | f + 1, s, s2, a, b, r, h, hl, h0, h1 => by
    have hone : ∀ X Y, Un.bind F s.one X Y = some (s2, r) → s.p + 1 ≤ 20000 → Lens s2.nd ∧ 0 ≤ s2.p ∧ s2.p ≤ 20001 ∧ (r = true → s2.p ≤ 20000) := fun X Y hq hp => by
      obtain ⟨m, c, -, ⟨-, rfl, rfl⟩ | ⟨-, rfl, rfl⟩⟩ := Un.bind_at hq
      · exact ⟨hl, by simp only [Un.one]; omega, by simp only [Un.one]; omega, fun h => by cases h⟩
      · exact ⟨hl.setB _ _, by simp only [Un.one]; omega, by simp only [Un.one]; omega, fun _ => by simp only [Un.one]; omega⟩
    rcases Un.equate_at h with ⟨h2, rfl, rfl⟩ | ⟨h2, i, j, x, y, -, -, hx, hy, hm⟩
    · exact ⟨hl, by simp only [Un.one]; omega, by simp only [Un.one]; omega, fun h => by cases h⟩
    · unfold Un.meet at hm
      split at hm
      · simp only [Option.some.injEq, Prod.mk.injEq] at hm
        obtain ⟨rfl, rfl⟩ := hm
        exact ⟨hl, by simp only [Un.one]; omega, by simp only [Un.one]; omega, fun _ => by simp only [Un.one]; omega⟩
      · split at hm
        · exact hone _ _ hm h2
        · split at hm
          · exact hone _ _ hm h2
          · split at hm
            · simp only [Option.some.injEq, Prod.mk.injEq] at hm
              obtain ⟨rfl, rfl⟩ := hm
              exact ⟨hl, by simp only [Un.one]; omega, by simp only [Un.one]; omega, fun h => by cases h⟩
            · exact Un.eqs_bound f x.l y.l s.one s2 r hm hl (by simp only [Un.one]; omega) (by simp only [Un.one]; omega)
theorem Un.eqs_bound {F : Nat} : ∀ (f : Nat) (l m : List Int) (s s2 : Un) (r : Bool), Un.eqs (Un.equate F f) l m s = some (s2, r) → Lens s.nd → 0 ≤ s.p → s.p ≤ 20000 → Lens s2.nd ∧ 0 ≤ s2.p ∧ s2.p ≤ 20001 ∧ (r = true → s2.p ≤ 20000)
  | f, a :: l, b :: m, s, s2, r, h, hl, h0, h1 => by
    simp only [Un.eqs] at h
    cases hq : Un.equate F f s a b with
    | none => rw [hq] at h; cases h
    | some X =>
      obtain ⟨s3, r3⟩ := X
      have hb := Un.equate_bound f s s3 a b r3 hq hl h0 h1
      rw [hq] at h
      cases r3 with
      | true => exact Un.eqs_bound f l m s3 s2 r h hb.1 hb.2.1 (hb.2.2.2 rfl)
      | false =>
        simp only [Option.some.injEq, Prod.mk.injEq] at h
        obtain ⟨rfl, rfl⟩ := h
        exact hb
  | _, [], _, s, s2, r, h, hl, h0, h1 => by
    simp only [Un.eqs, Option.some.injEq, Prod.mk.injEq] at h
    obtain ⟨rfl, rfl⟩ := h
    exact ⟨hl, h0, by omega, fun _ => h1⟩
  | _, _ :: _, [], s, s2, r, h, hl, h0, h1 => by
    simp only [Un.eqs, Option.some.injEq, Prod.mk.injEq] at h
    obtain ⟨rfl, rfl⟩ := h
    exact ⟨hl, h0, by omega, fun _ => h1⟩
end

/-- One more pair was looked at. -/
theorem UnB.setP {w0 : World} {bu bm g cap : Nat} {s : Un} {w : World} (h : UnB w0 bu bm g cap s w) (p : Int) : UnB w0 bu bm g cap ⟨s.nd, s.var, s.c, p⟩ (w.setCell ⟨bu, 2, none⟩ (.int .i64 p)) ∧ Turned w (w.setCell ⟨bu, 2, none⟩ (.int .i64 p)) (fun k => k = bu ∨ k = g) := by
  have ts : Turned w (w.setCell ⟨bu, 2, none⟩ (.int .i64 p)) (fun k => k = bu) := Turned.setCell (D := fun k => k = bu) (Turned.refl _ _) (p := ⟨bu, 2, none⟩) (fun _ => rfl) _
  have hlo := h.lo
  obtain ⟨n1, n2, n3⟩ := h.ne
  obtain ⟨F, f1, f2⟩ := h.hm
  have hk : KeepsB 3 w (w.setCell ⟨bu, 2, none⟩ (.int .i64 p)) := ⟨ts.size, fun b c hb => (ts.block b (lt_of_block hb) (fun e => by rw [e, h.hu] at hb; simp at hb)).trans hb⟩
  refine ⟨⟨h.turned.trans ts (fun i hi e => by omega), ?_, h.hn.turned ts (fun e => n1 e.symm) hk, ⟨F, f1.turned ts (fun e => n2 e.symm), f2⟩, h.lo, h.lo2, h.lo3, h.hl⟩, ts.mono (fun _ _ e => .inl e)⟩
  rw [setCell_block h.hu]
  rfl

/-- A variable becomes a node. -/
theorem UnB.setB {w0 : World} {bu bm g cap : Nat} {s : Un} {w : World} (h : UnB w0 bu bm g cap s w) {i : Nat} {x : Nd} (hx : s.nd[i]? = some x) (b : Int) : UnB w0 bu bm g cap ⟨Un.setB s.nd i b, s.var, s.c, s.p⟩ (w.setCell ⟨g, i * 6 + 3, none⟩ (.int .i64 b)) ∧ Turned w (w.setCell ⟨g, i * 6 + 3, none⟩ (.int .i64 b)) (fun k => k = bu ∨ k = g) := by
  have ts : Turned w (w.setCell ⟨g, i * 6 + 3, none⟩ (.int .i64 b)) (fun k => k = g) := Turned.setCell (D := fun k => k = g) (Turned.refl _ _) (p := ⟨g, i * 6 + 3, none⟩) (fun _ => rfl) _
  have hlo := h.lo2
  obtain ⟨n1, n2, n3⟩ := h.ne
  obtain ⟨F, f1, f2⟩ := h.hm
  obtain ⟨c, c1, c2⟩ := h.hn
  have hk : KeepsB 3 w (w.setCell ⟨g, i * 6 + 3, none⟩ (.int .i64 b)) := ⟨ts.size, fun k c' hb => (ts.block k (lt_of_block hb) (fun e => by rw [e, c1] at hb; simp at hb)).trans hb⟩
  have hset : Un.setB s.nd i b = s.nd.set i { x with b := b } := by unfold Un.setB; rw [Int.toNat_natCast, hx]
  have hil := (List.getElem?_eq_some_iff.1 hx).1
  refine ⟨⟨h.turned.trans ts (fun k hi e => by omega), ?_, ⟨_, setCell_block c1 _, fun j y hy => ?_⟩, ⟨F, f1.turned ts (fun e => n3 e.symm), f2⟩, h.lo, h.lo2, h.lo3, ?_⟩, ts.mono (fun _ _ e => .inr e)⟩
  · show _ = some (Obj.cells #[.slice (some ⟨g, 0, none⟩) (Un.setB s.nd i b).length cap, .map (some bm), .int .i64 s.p] _ _)
    rw [hset, List.length_set]
    exact (ts.block bu (lt_of_block h.hu) n1).trans h.hu
  · have hy2 : (Un.setB s.nd i b)[j]? = some y := hy
    rw [hset] at hy2
    by_cases e : j = i
    · subst e
      rw [List.getElem?_set_self hil] at hy2
      simp only [Option.some.injEq] at hy2
      subst hy2
      obtain ⟨v, a0, a1, a2, a3, a4, a5, hr⟩ := c2 j x hx
      have hsz := (Array.getElem?_eq_some_iff.1 a3).1
      refine ⟨v, ?_, ?_, ?_, Array.getElem?_setIfInBounds_self_of_lt hsz, ?_, ?_, hr.keeps hk⟩ <;> (rw [Array.getElem?_setIfInBounds_ne (by omega)]; assumption)
    · rw [List.getElem?_set_ne (fun z => e z.symm)] at hy2
      obtain ⟨v, a0, a1, a2, a3, a4, a5, hr⟩ := c2 j y hy2
      refine ⟨v, ?_, ?_, ?_, ?_, ?_, ?_, hr.keeps hk⟩ <;> (rw [Array.getElem?_setIfInBounds_ne (by omega)]; assumption)
  · show (Un.setB s.nd i b).length ≤ 1000000
    rw [hset, List.length_set]; exact h.hl
end Go.Proofs.Ytljnmjehokijgaa

/- equate: the walk. -/
namespace Go.Proofs.Ytljnmjehokijgaa
open Go.RowKit

/-- The cells of a node, written out. -/
abbrev cellsN (x : Nd) (q : Option Addr) (c : Nat) : Array Value := #[.int .i64 x.k, .int .i64 x.n, .slice q x.l.length c, .int .i64 x.b, .int .i64 x.e1, .int .i64 x.e2]

theorem RowB.two {w w' : World} {bu g : Nat} {c1 c2 : Array Value} {v : Value} {l : List Int} (h : RowB w v l) (t : Turned w w' (fun k => k = bu ∨ k = g)) (hu : w.heap[bu]? = some (.cells c1 93 (0, 0))) (hg : w.heap[g]? = some (.cells c2 113 (0, 0))) : RowB w' v l :=
  h.turned t (fun k hk e => by
    obtain ⟨c, hc⟩ := h.tag hk
    rcases e with e | e
    · rw [e, hu] at hc; simp at hc
    · rw [e, hg] at hc; simp at hc)

set_option maxRecDepth 100000 in
set_option maxHeartbeats 3200000 in
theorem equate_any (w0 : World) (bu bm g cap F : Nat) : ∀ (f : Nat) (s s2 : Un) (a b : Int) (r : Bool) (w : World), Un.equate F f s a b = some (s2, r) → UnB w0 bu bm g cap s w → Lens s.nd → 0 ≤ s.p → s.p ≤ 20000 →
    Calls Try.prog 67 #[.pointer (some ⟨bu, 0, none⟩), .int .i64 a, .int .i64 b] w fun e w' => e = .returned (.bool r) ∧ UnB w0 bu bm g cap s2 w' ∧ Turned w w' (fun k => k = bu ∨ k = g) := by
  intro f
  induction f with
  | zero => intro s s2 a b r w h; cases h
  | succ f ih =>
  intro s s2 a b r w h hU hlen hp0 hp1
  obtain ⟨-, -, q2, q3, q4, q5, -⟩ := hU.at0
  have q5' := q5 2
  have e0 : IntKind.i64.wrap (s.p + 1) = s.p + 1 := IntWalk.i64_in _ (by omega)
  obtain ⟨hV, tV⟩ := hU.setP (s.p + 1)
  have HV := Lib.hid hV
  have TV := Lib.hid tV
  have Ih := Lib.hid ih
  have Hlen := Lib.hid hlen
  have Hh := Lib.hid (Un.equate_at h)
  clear hU hV tV ih hlen h q5
  go_enter Try.func67, Try.ntmps67
  go_upto_region 2 with fail
  clear q2 q3 q4 q5' e0
  have hV := HV.out
  have tV := TV.out
  generalize w.setCell ⟨bu, 2, none⟩ (.int .i64 (s.p + 1)) = V at *
  obtain ⟨q0, -, q2, q3, q4, -, -⟩ := hV.at0
  have HV := Lib.hid hV
  have TV := Lib.hid tV
  clear hV tV
  simp only at q2
  rcases Hh.out with ⟨h20, rfl, rfl⟩ | ⟨h20, i, j, x, y, hi, hj, hx, hy, hm⟩
  · clear Hh
    go_wp2
    go_ret
    exact ⟨rfl, HV.out, TV.out⟩
  have h20' : ¬ (20000 : Int) < s.p + 1 := by omega
  have Hea := Lib.hid (end_any w0 bu bm g cap _ V HV.out F a i hi)
  have Heb := Lib.hid (end_any w0 bu bm g cap _ V HV.out F b j hj)
  have Hm := Lib.hid hm
  have hix : (i : Int) < (s.nd.length : Int) := by have := (List.getElem?_eq_some_iff.1 hx).1; omega
  have hjy : (j : Int) < (s.nd.length : Int) := by have := (List.getElem?_eq_some_iff.1 hy).1; omega
  obtain ⟨qx, cx, x0, x1, x2, x3, x4, x5, hrx⟩ := HV.out.cells (show (⟨s.nd, s.var, s.c, s.p + 1⟩ : Un).nd[i]? = some x from hx)
  obtain ⟨qy, cy, y0, y1, y2, y3, y4, y5, hry⟩ := HV.out.cells (show (⟨s.nd, s.var, s.c, s.p + 1⟩ : Un).nd[j]? = some y from hy)
  have Hx := Lib.hid hx
  have Hy := Lib.hid hy
  have Hrx := Lib.hid hrx
  have Hry := Lib.hid hry
  clear Hh hi hj hm hrx hry hx hy
  go_wp2_with fail
  refine Hea.out.mono ?_
  rintro e w1 ⟨rfl, rfl⟩
  clear Hea
  go_wp2_with fail
  refine Heb.out.mono ?_
  rintro e w1 ⟨rfl, rfl⟩
  clear Heb
  go_upto_region 5 with fail
  go_cut [7, 8] from 28 to 41 (fun p7 p8 wx => ∃ X Y : Nat, p7 = .pointer (some ⟨X, 0, none⟩) ∧ p8 = .pointer (some ⟨Y, 0, none⟩) ∧ wx.heap[X]? = some (.cells (cellsN x qx cx) 113 (0, 0)) ∧ wx.heap[Y]? = some (.cells (cellsN y qy cy) 113 (0, 0)) ∧ w1.heap.size ≤ X ∧ w1.heap.size ≤ Y ∧ Turned w1 wx (fun _ => False))
  case first =>
    go_region
    all_goals
      go_wp2_with fail
      clear x0 x1 x2 x3 x4 x5 y0 y1 y2 y3 y4 y5 q0 q2 q3 q4
      go_meet
      first
      | exact ⟨_, _, rfl, rfl, (show ((w1.alloc (.cells (cellsN x qx cx) 113)).alloc (.cells (cellsN y qy cy) 113)).heap[w1.heap.size]? = _ from alloc_keep (heap_alloc_new _ _)), (show ((w1.alloc (.cells (cellsN x qx cx) 113)).alloc (.cells (cellsN y qy cy) 113)).heap[w1.heap.size + 1]? = _ from alloc_at (by simp)), Nat.le_refl _, by omega, (((Turned.refl w1 _).alloc _).alloc _).drew⟩
      | exact ⟨_, _, rfl, rfl, (show ((w1.alloc (.cells (cellsN y qy cy) 113)).alloc (.cells (cellsN x qx cx) 113)).heap[w1.heap.size + 1]? = _ from alloc_at (by simp)), (show ((w1.alloc (.cells (cellsN y qy cy) 113)).alloc (.cells (cellsN x qx cx) 113)).heap[w1.heap.size]? = _ from alloc_keep (heap_alloc_new _ _)), by omega, Nat.le_refl _, (((Turned.refl w1 _).alloc _).alloc _).drew⟩
  case rest =>
    obtain ⟨X, Y, rfl, rfl, kX, kY, lX, lY, tC⟩ := hcut
    have HC := Lib.hid (HV.out.step tC)
    have TC := Lib.hid (TV.out.trans (tC.mono (E := fun k => k = bu ∨ k = g) (fun _ _ hf => hf.elim)) (fun _ _ h => h))
    obtain ⟨b0, b1, b2, b3, b4⟩ := box6 kX
    obtain ⟨d0, d1, d2, d3, d4⟩ := box6 kY
    have HKX := Lib.hid kX
    have HKY := Lib.hid kY
    have Hrx2 := Lib.hid (Hrx.out.turned tC (fun _ _ hf => hf))
    have Hry2 := Lib.hid (Hry.out.turned tC (fun _ _ hf => hf))
    have hgX : g < X ∧ bu < X ∧ g < Y ∧ bu < Y := by omega
    clear kX kY tC q0 q2 q3 q4 x0 x1 x2 x3 x4 x5 y0 y1 y2 y3 y4 y5 HV TV Hrx Hry h20'
    have hm := Hm.out
    unfold Un.meet at hm
    clear Hm
    by_cases hxk : x.k = 1
    · have e1 : (x.k == 1) = true := by simpa using hxk
      have e1' : (x.k != 1) = false := by simpa using hxk
      by_cases hij : i = j
      · subst hij
        rw [if_pos ⟨rfl, hxk⟩] at hm
        simp only [Option.some.injEq, Prod.mk.injEq] at hm
        obtain ⟨rfl, rfl⟩ := hm
        have e2 : ((i : Int) == (i : Int)) = true := beq_self_eq_true _
        go_wp2
        go_ret
        exact ⟨rfl, HC.out, TC.out⟩
      · rw [if_neg (fun h => hij (by omega))] at hm
        have e2 : ((i : Int) == (j : Int)) = false := by rw [beq_eq_false_iff_ne]; omega
        by_cases hyk : y.k = 1
        · have e3 : (y.k == 1) = true := by simpa using hyk
          by_cases hlt : x.n < y.n
          · rw [if_pos ⟨hyk, .inr hlt⟩] at hm
            have Hq := Lib.hid hm
            clear hm hij hyk hxk
            have hq := Hq.out
            obtain ⟨m, c, hl, hc⟩ := Un.bind_at hq
            have Hw := Lib.hid (within_any w0 bu bm g cap _ wc HC.out Hlen.out F j i m c hl)
            have Hcc := Lib.hid hc
            clear hq hl hc Hq
            go_wp2_with fail
            refine Hw.out.mono ?_
            rintro e w2 ⟨rfl, t2⟩
            have hU2 := HC.out.step t2
            have T2 := Lib.hid (TC.out.trans (t2.mono (E := fun k => k = bu ∨ k = g) (fun _ _ hf => hf.elim)) (fun _ _ h => h))
            obtain ⟨q0, -, -, q3, q4, -, q6⟩ := hU2.at0
            have q6' := q6 (j * 6 + 3)
            obtain ⟨qa, ca, -, -, -, z3, -, -, -⟩ := hU2.cells (show (⟨s.nd, s.var, s.c, s.p + 1⟩ : Un).nd[j]? = some y from Hy.out)
            simp only at q0
            obtain ⟨n1, n2⟩ := hU2.setB (show (⟨s.nd, s.var, s.c, s.p + 1⟩ : Un).nd[j]? = some y from Hy.out) (i : Int)
            have N0 := Lib.hid hU2
            have N1 := Lib.hid n1
            have N2 := Lib.hid (T2.out.trans n2 (fun _ _ h => h))
            clear t2 hU2 q6 n1 n2 Hw b0 b1 b2 b3 b4 d0 d1 d2 d3 d4
            cases c
            · rcases Hcc.out with ⟨h, -⟩ | ⟨-, rfl, rfl⟩
              · cases h
              · clear Hcc
                go_wp2
                go_ret
                exact ⟨rfl, N1.out, N2.out⟩
            · rcases Hcc.out with ⟨-, rfl, rfl⟩ | ⟨h, -⟩
              · clear Hcc
                go_wp2
                go_ret
                exact ⟨rfl, N0.out, T2.out⟩
              · cases h
          · rw [if_neg (fun h => h.2.elim (fun h => h hxk) (fun h => hlt h)), if_pos hxk] at hm
            have Hq := Lib.hid hm
            clear hm hij hyk hxk
            have hq := Hq.out
            obtain ⟨m, c, hl, hc⟩ := Un.bind_at hq
            have Hw := Lib.hid (within_any w0 bu bm g cap _ wc HC.out Hlen.out F i j m c hl)
            have Hcc := Lib.hid hc
            clear hq hl hc Hq
            go_wp2_with fail
            refine Hw.out.mono ?_
            rintro e w2 ⟨rfl, t2⟩
            have hU2 := HC.out.step t2
            have T2 := Lib.hid (TC.out.trans (t2.mono (E := fun k => k = bu ∨ k = g) (fun _ _ hf => hf.elim)) (fun _ _ h => h))
            obtain ⟨q0, -, -, q3, q4, -, q6⟩ := hU2.at0
            have q6' := q6 (i * 6 + 3)
            obtain ⟨qa, ca, -, -, -, z3, -, -, -⟩ := hU2.cells (show (⟨s.nd, s.var, s.c, s.p + 1⟩ : Un).nd[i]? = some x from Hx.out)
            simp only at q0
            obtain ⟨n1, n2⟩ := hU2.setB (show (⟨s.nd, s.var, s.c, s.p + 1⟩ : Un).nd[i]? = some x from Hx.out) (j : Int)
            have N0 := Lib.hid hU2
            have N1 := Lib.hid n1
            have N2 := Lib.hid (T2.out.trans n2 (fun _ _ h => h))
            clear t2 hU2 q6 n1 n2 Hw b0 b1 b2 b3 b4 d0 d1 d2 d3 d4
            cases c
            · rcases Hcc.out with ⟨h, -⟩ | ⟨-, rfl, rfl⟩
              · cases h
              · clear Hcc
                go_wp2
                go_ret
                exact ⟨rfl, N1.out, N2.out⟩
            · rcases Hcc.out with ⟨-, rfl, rfl⟩ | ⟨h, -⟩
              · clear Hcc
                go_wp2
                go_ret
                exact ⟨rfl, N0.out, T2.out⟩
              · cases h
        · have e3 : (y.k == 1) = false := by simpa using hyk
          rw [if_neg (fun h => hyk h.1), if_pos hxk] at hm
          have Hq := Lib.hid hm
          clear hm hij hyk hxk
          have hq := Hq.out
          obtain ⟨m, c, hl, hc⟩ := Un.bind_at hq
          have Hw := Lib.hid (within_any w0 bu bm g cap _ wc HC.out Hlen.out F i j m c hl)
          have Hcc := Lib.hid hc
          clear hq hl hc Hq
          go_wp2_with fail
          refine Hw.out.mono ?_
          rintro e w2 ⟨rfl, t2⟩
          have hU2 := HC.out.step t2
          have T2 := Lib.hid (TC.out.trans (t2.mono (E := fun k => k = bu ∨ k = g) (fun _ _ hf => hf.elim)) (fun _ _ h => h))
          obtain ⟨q0, -, -, q3, q4, -, q6⟩ := hU2.at0
          have q6' := q6 (i * 6 + 3)
          obtain ⟨qa, ca, -, -, -, z3, -, -, -⟩ := hU2.cells (show (⟨s.nd, s.var, s.c, s.p + 1⟩ : Un).nd[i]? = some x from Hx.out)
          simp only at q0
          obtain ⟨n1, n2⟩ := hU2.setB (show (⟨s.nd, s.var, s.c, s.p + 1⟩ : Un).nd[i]? = some x from Hx.out) (j : Int)
          have N0 := Lib.hid hU2
          have N1 := Lib.hid n1
          have N2 := Lib.hid (T2.out.trans n2 (fun _ _ h => h))
          clear t2 hU2 q6 n1 n2 Hw b0 b1 b2 b3 b4 d0 d1 d2 d3 d4
          cases c
          · rcases Hcc.out with ⟨h, -⟩ | ⟨-, rfl, rfl⟩
            · cases h
            · clear Hcc
              go_wp2
              go_ret
              exact ⟨rfl, N1.out, N2.out⟩
          · rcases Hcc.out with ⟨-, rfl, rfl⟩ | ⟨h, -⟩
            · clear Hcc
              go_wp2
              go_ret
              exact ⟨rfl, N0.out, T2.out⟩
            · cases h
    · have e1 : (x.k == 1) = false := by simpa using hxk
      have e1' : (x.k != 1) = true := by simpa using hxk
      rw [if_neg (fun h => hxk h.2)] at hm
      have hij : ((i : Int) == (j : Int)) = true ∨ ((i : Int) == (j : Int)) = false := by cases ((i : Int) == (j : Int)) <;> simp
      by_cases hyk : y.k = 1
      · have e3 : (y.k == 1) = true := by simpa using hyk
        rw [if_pos ⟨hyk, .inl hxk⟩] at hm
        have Hq := Lib.hid hm
        clear hm hyk hxk
        rcases hij with e2 | e2
        all_goals
          have hq := Hq.out
          obtain ⟨m, c, hl, hc⟩ := Un.bind_at hq
          have Hw := Lib.hid (within_any w0 bu bm g cap _ wc HC.out Hlen.out F j i m c hl)
          have Hcc := Lib.hid hc
          clear hq hl hc Hq
          go_wp2_with fail
          refine Hw.out.mono ?_
          rintro e w2 ⟨rfl, t2⟩
          have hU2 := HC.out.step t2
          have T2 := Lib.hid (TC.out.trans (t2.mono (E := fun k => k = bu ∨ k = g) (fun _ _ hf => hf.elim)) (fun _ _ h => h))
          obtain ⟨q0, -, -, q3, q4, -, q6⟩ := hU2.at0
          have q6' := q6 (j * 6 + 3)
          obtain ⟨qa, ca, -, -, -, z3, -, -, -⟩ := hU2.cells (show (⟨s.nd, s.var, s.c, s.p + 1⟩ : Un).nd[j]? = some y from Hy.out)
          simp only at q0
          obtain ⟨n1, n2⟩ := hU2.setB (show (⟨s.nd, s.var, s.c, s.p + 1⟩ : Un).nd[j]? = some y from Hy.out) (i : Int)
          have N0 := Lib.hid hU2
          have N1 := Lib.hid n1
          have N2 := Lib.hid (T2.out.trans n2 (fun _ _ h => h))
          clear t2 hU2 q6 n1 n2 Hw b0 b1 b2 b3 b4 d0 d1 d2 d3 d4
          cases c
          · rcases Hcc.out with ⟨h, -⟩ | ⟨-, rfl, rfl⟩
            · cases h
            · clear Hcc
              go_wp2
              go_ret
              exact ⟨rfl, N1.out, N2.out⟩
          · rcases Hcc.out with ⟨-, rfl, rfl⟩ | ⟨h, -⟩
            · clear Hcc
              go_wp2
              go_ret
              exact ⟨rfl, N0.out, T2.out⟩
            · cases h
      · have e3 : (y.k == 1) = false := by simpa using hyk
        rw [if_neg (fun h => hyk h.1), if_neg hxk] at hm
        clear hxk hyk
        by_cases hn : x.n = y.n
        rotate_left 1
        · rw [if_pos (.inl hn)] at hm
          simp only [Option.some.injEq, Prod.mk.injEq] at hm
          obtain ⟨rfl, rfl⟩ := hm
          have e4 : (x.n == y.n) = false := by simpa using hn
          have e4' : (x.n != y.n) = true := by simpa using hn
          clear hn
          rcases hij with e2 | e2
          all_goals
            go_wp2
            go_ret
            exact ⟨rfl, HC.out, TC.out⟩
        have e4 : (x.n == y.n) = true := by simpa using hn
        have e4' : (x.n != y.n) = false := by simpa using hn
        by_cases hll : x.l.length = y.l.length
        rotate_left 1
        · rw [if_pos (.inr hll)] at hm
          simp only [Option.some.injEq, Prod.mk.injEq] at hm
          obtain ⟨rfl, rfl⟩ := hm
          have e5 : ((x.l.length : Int) == (y.l.length : Int)) = false := by rw [beq_eq_false_iff_ne]; omega
          have e5' : ((x.l.length : Int) != (y.l.length : Int)) = true := by simp only [bne, e5]; rfl
          clear hn hll
          rcases hij with e2 | e2
          all_goals
            go_wp2
            go_ret
            exact ⟨rfl, HC.out, TC.out⟩
        have e5 : ((x.l.length : Int) == (y.l.length : Int)) = true := by rw [hll]; exact beq_self_eq_true _
        have e5' : ((x.l.length : Int) != (y.l.length : Int)) = false := by simp only [bne, e5]; rfl
        rw [if_neg (fun h => h.elim (fun h => h hn) (fun h => h hll))] at hm
        have Hm := Lib.hid hm
        have Hll := Lib.hid hll
        have hxl := Hlen.out x (List.mem_of_getElem? Hx.out)
        clear hm hn hll
        rcases hij with e2 | e2
        all_goals
          go_wp2
          clear e1 e1' e2 e3 e4 e4' e5 e5' b0 b1 b2 b3 b4 d0 d1 d2 d3 d4
          go_loopw [102] (fun i wr => ∃ (k : Nat) (sk : Un), k ≤ x.l.length ∧ i = .int .i64 k ∧ Un.eqs (Un.equate F f) (x.l.drop k) (y.l.drop k) sk = some (s2, r) ∧ UnB w0 bu bm g cap sk wr ∧ Lens sk.nd ∧ 0 ≤ sk.p ∧ sk.p ≤ 20000 ∧ Turned wc wr (fun k => k = bu ∨ k = g)) (fun i _ => x.l.length - (intOf i).toNat)
          case atStart => exact ⟨0, _, Nat.zero_le _, rfl, Hm.out, HC.out, Hlen.out, by simp only [Un.one]; omega, by simp only [Un.one]; omega, Turned.refl _ _⟩
          case round =>
            obtain ⟨k, sk, hk, rfl, hq, hUk, hlk, hk0, hk1, tk⟩ := hrel
            by_cases hlt : k < x.l.length
            · have hlty : k < y.l.length := by rw [← Hll.out]; exact hlt
              have hki : (k : Int) < (x.l.length : Int) := by omega
              have hkj : (k : Int) < (y.l.length : Int) := by omega
              obtain ⟨cg, hcg, -⟩ := HC.out.hn
              have hrx := Hrx2.out.two tk HC.out.hu hcg
              have hry := Hry2.out.two tk HC.out.hu hcg
              obtain ⟨gx, ox, rfl, lgx, vx⟩ := hrx.row.at k hlt
              obtain ⟨gy, oy, rfl, lgy, vy⟩ := hry.row.at k hlty
              have kX := (tk.block X (lt_of_block HKX.out) (by omega)).trans HKX.out
              have kY := (tk.block Y (lt_of_block HKY.out) (by omega)).trans HKY.out
              obtain ⟨-, -, b2, -, b4⟩ := box6 kX
              obtain ⟨-, -, d2, -, d4⟩ := box6 kY
              rw [List.drop_eq_getElem_cons hlt, List.drop_eq_getElem_cons hlty] at hq
              simp only [Un.eqs] at hq
              cases hg : Un.equate F f sk x.l[k] y.l[k] with
              | none => rw [hg] at hq; cases hq
              | some Z =>
                obtain ⟨sz, rz⟩ := Z
                rw [hg] at hq
                have hbd := Un.equate_bound f sk sz _ _ rz hg hlk hk0 hk1
                have Hc := Lib.hid (fun V (hV : Turned wr V (fun _ => False)) => Ih.out sk sz _ _ rz V hg (hUk.step hV) hlk hk0 hk1)
                have Hqq := Lib.hid hq
                have Hbd := Lib.hid hbd
                have Tk := Lib.hid tk
                have tt : Turned wr wr.drew (fun _ => False) := (Turned.refl wr _).drew
                clear hg hq hbd hUk hlk hk0 hk1 tk hrx hry kX kY hcg
                generalize x.l[k] = xe at *
                generalize y.l[k] = ye at *
                go_upto_region 20 with fail
                go_region_law (first
                  | (go_simp; go_at_call 67; refine (Hc.out _ tt).mono ?_; rintro e w5 ⟨rfl, hU5, t5⟩; have H5 := Lib.hid hU5; have T5 := Lib.hid (Tk.out.trans ((tt.mono (E := fun k => k = bu ∨ k = g) (fun _ _ hf => hf.elim)).trans t5 (fun _ _ h => h)) (fun _ _ h => h)); clear hU5 t5))
                all_goals
                  clear b2 b4 d2 d4 vx vy lgx lgy tt
                  cases rz
                  · have hq2 := Hqq.out
                    simp only [Option.some.injEq, Prod.mk.injEq] at hq2
                    obtain ⟨rfl, rfl⟩ := hq2
                    have Hfin := Lib.hid (TC.out.trans T5.out (fun _ _ h => h))
                    clear Hqq
                    go_wp2
                    go_ret
                    exact ⟨rfl, H5.out, Hfin.out⟩
                  · have hq2 := Hqq.out
                    simp only at hq2
                    have Hq2 := Lib.hid hq2
                    clear Hqq hq2
                    go_wp2
                    go_roundw
                    case rel => exact ⟨k + 1, sz, by omega, by go_num, Hq2.out, H5.out, Hbd.out.1, Hbd.out.2.1, Hbd.out.2.2.2 rfl, T5.out⟩
                    case measure => simp [intOf]; omega
            · obtain rfl : k = x.l.length := by omega
              rw [List.drop_of_length_le (Nat.le_refl _)] at hq
              simp only [Un.eqs, Option.some.injEq, Prod.mk.injEq] at hq
              obtain ⟨rfl, rfl⟩ := hq
              have Hu := Lib.hid hUk
              have Hfin := Lib.hid (TC.out.trans tk (fun _ _ h => h))
              clear hUk tk
              go_wp2
              go_ret
              exact ⟨rfl, Hu.out, Hfin.out⟩
end Go.Proofs.Ytljnmjehokijgaa

/- extent: how great the tree of a node is. -/
namespace Go.Proofs.Ytljnmjehokijgaa
open Go.RowKit

/-- The same nodes but for what is known of their extents. -/
def Like (nd nd2 : List Nd) : Prop := nd.length = nd2.length ∧ ∀ (i : Nat) (y : Nd), nd2[i]? = some y → ∃ x, nd[i]? = some x ∧ x.k = y.k ∧ x.n = y.n ∧ x.l = y.l ∧ x.b = y.b
/-- What is known is so. -/
def Memo (nd : List Nd) (F : Nat) (nd2 : List Nd) : Prop := ∀ (i : Nat) (y : Nd), nd2[i]? = some y → 0 < y.e1 → ∃ f, Un.ext nd F f i = some (y.e1, y.e2)

theorem Like.refl (nd : List Nd) : Like nd nd := ⟨rfl, fun _ y h => ⟨y, h, rfl, rfl, rfl, rfl⟩⟩

theorem Like.fin {nd nd2 : List Nd} (h : Like nd nd2) : ∀ (f : Nat) (a : Int), Un.fin nd f a = Un.fin nd2 f a
  | 0, _ => rfl
  | f + 1, a => by
    simp only [Un.fin]
    by_cases h0 : a < 0
    · rw [if_pos h0, if_pos h0]
    · rw [if_neg h0, if_neg h0]
      cases hy : nd2[a.toNat]? with
      | none =>
        have : nd[a.toNat]? = none := by
          rw [List.getElem?_eq_none_iff] at hy ⊢
          rw [h.1]; exact hy
        rw [this]
      | some y =>
        obtain ⟨x, hx, -, -, -, hb⟩ := h.2 _ y hy
        rw [hx]
        simp only [hb]
        split
        · exact Like.fin h f _
        · rfl

theorem Un.exts_mono {g g2 : Int → Option (Int × Int)} (h : ∀ i e, g i = some e → g2 i = some e) : ∀ (l : List Int) (a e : Int × Int), Un.exts g l a = some e → Un.exts g2 l a = some e
  | [], _, _, hq => hq
  | i :: l, a, e, hq => by
    simp only [Un.exts] at hq ⊢
    cases hg : g i with
    | none => rw [hg] at hq; cases hq
    | some x => rw [hg] at hq; rw [h i x hg]; exact Un.exts_mono h l _ e hq

theorem Un.ext_succ {nd : List Nd} {F f : Nat} {a : Int} {e : Int × Int} (h : Un.ext nd F (f + 1) a = some e) : ∃ (i : Nat) (x : Nd) (e2 : Int × Int), Un.fin nd F a = some (i : Int) ∧ nd[i]? = some x ∧ Un.exts (Un.ext nd F f) x.l (1, 1) = some e2 ∧ e = (min e2.1 2001, e2.2) := by
  simp only [Un.ext] at h
  cases ha : Un.fin nd F a with
  | none => rw [ha] at h; cases h
  | some a2 =>
    rw [ha] at h
    obtain ⟨i, x, rfl, hx, -⟩ := Un.fin_lt F a a2 ha
    simp only [Int.toNat_natCast, hx] at h
    cases hq : Un.exts (Un.ext nd F f) x.l (1, 1) with
    | none => rw [hq] at h; cases h
    | some e2 =>
      rw [hq] at h
      simp only [Option.some.injEq] at h
      exact ⟨i, x, e2, rfl, hx, hq, h.symm⟩

theorem Un.ext_mono {nd : List Nd} {F : Nat} : ∀ (f f2 : Nat), f ≤ f2 → ∀ (a : Int) (e : Int × Int), Un.ext nd F f a = some e → Un.ext nd F f2 a = some e
  | 0, _, _, _, _, h => by cases h
  | f + 1, f2, hf, a, e, h => by
    obtain ⟨f3, rfl⟩ : ∃ f3, f2 = f3 + 1 := ⟨f2 - 1, by omega⟩
    obtain ⟨i, x, e2, h1, h2, h3, rfl⟩ := Un.ext_succ h
    have h4 := Un.exts_mono (g2 := Un.ext nd F f3) (fun i e he => Un.ext_mono f f3 (by omega) i e he) _ _ _ h3
    simp only [Un.ext, h1, Int.toNat_natCast, h2, h4]

theorem Un.ext_one {nd : List Nd} {F f f2 : Nat} {a : Int} {e e2 : Int × Int} (h : Un.ext nd F f a = some e) (h2 : Un.ext nd F f2 a = some e2) : e = e2 := by
  have h3 := Un.ext_mono f (max f f2) (by omega) a e h
  have h4 := Un.ext_mono f2 (max f f2) (by omega) a e2 h2
  rw [h3] at h4
  simpa using h4

/-- What it is of a node that became another one is what it is of that one. -/
theorem Un.ext_fin {nd : List Nd} {F f : Nat} {a b : Int} {e : Int × Int} (ha : Un.fin nd F a = some b) (h : Un.ext nd F f a = some e) (hb : Un.fin nd F b = some b) : Un.ext nd F f b = some e := by
  cases f with
  | zero => cases h
  | succ f =>
    simp only [Un.ext, ha] at h
    simp only [Un.ext, hb]
    exact h

theorem Un.fin_fin {nd : List Nd} {F : Nat} {a b : Int} (h : Un.fin nd F a = some b) : Un.fin nd F b = some b := by
  obtain ⟨i, x, rfl, hx, hb⟩ := Un.fin_lt F a b h
  cases F with
  | zero => cases h
  | succ F =>
    simp only [Un.fin, Int.toNat_natCast, hx]
    rw [if_neg (by omega), if_neg (by omega)]

theorem Un.exts_bound {g : Int → Option (Int × Int)} {B : Int} (hg : ∀ i e, g i = some e → 1 ≤ e.1 ∧ e.1 ≤ 2001 ∧ 1 ≤ e.2 ∧ e.2 ≤ B) : ∀ (l : List Int) (a e : Int × Int), Un.exts g l a = some e → a.1 ≤ e.1 ∧ e.1 ≤ a.1 + 2001 * l.length ∧ a.2 ≤ e.2 ∧ (a.2 ≤ B + 1 → e.2 ≤ B + 1)
  | [], a, e, h => by
    simp only [Un.exts, Option.some.injEq] at h
    subst h
    exact ⟨by omega, by simp, by omega, fun h => h⟩
  | i :: l, a, e, h => by
    simp only [Un.exts] at h
    cases hi : g i with
    | none => rw [hi] at h; cases h
    | some x =>
      rw [hi] at h
      obtain ⟨b1, b2, b3, b4⟩ := hg i x hi
      have := Un.exts_bound hg l _ e h
      simp only [List.length_cons] at this ⊢
      omega

theorem Un.ext_bound {nd : List Nd} {F : Nat} : ∀ (f : Nat) (a : Int) (e : Int × Int), Un.ext nd F f a = some e → 1 ≤ e.1 ∧ e.1 ≤ 2001 ∧ 1 ≤ e.2 ∧ e.2 ≤ f
  | 0, _, _, h => by cases h
  | f + 1, a, e, h => by
    obtain ⟨i, x, e2, -, -, h3, rfl⟩ := Un.ext_succ h
    have hb := Un.exts_bound (B := f) (fun i e he => Un.ext_bound f i e he) _ _ _ h3
    simp only at hb ⊢
    omega

theorem Un.exts_snoc {g : Int → Option (Int × Int)} : ∀ (l : List Int) (i : Int) (a e : Int × Int), Un.exts g (l ++ [i]) a = some e → ∃ e1 e2, Un.exts g l a = some e1 ∧ g i = some e2 ∧ e = (e1.1 + e2.1, max e1.2 (e2.2 + 1))
  | [], i, a, e, h => by
    simp only [List.nil_append, Un.exts] at h
    cases hi : g i with
    | none => rw [hi] at h; cases h
    | some x =>
      rw [hi] at h
      simp only [Option.some.injEq] at h
      exact ⟨a, x, rfl, rfl, h.symm⟩
  | j :: l, i, a, e, h => by
    simp only [List.cons_append, Un.exts] at h ⊢
    cases hj : g j with
    | none => rw [hj] at h; cases h
    | some x => rw [hj] at h; exact Un.exts_snoc l i _ e h

theorem Un.exts_take {g : Int → Option (Int × Int)} : ∀ (l m : List Int) (a e : Int × Int), Un.exts g (l ++ m) a = some e → ∃ e1, Un.exts g l a = some e1
  | [], _, a, _, _ => ⟨a, rfl⟩
  | j :: l, m, a, e, h => by
    simp only [List.cons_append, Un.exts] at h ⊢
    cases hj : g j with
    | none => rw [hj] at h; cases h
    | some x => rw [hj] at h; exact Un.exts_take l m _ e h

/-- The unifier stays where none of its blocks turn. -/
theorem UnB.turn {w0 : World} {bu bm g cap : Nat} {s : Un} {w w' : World} {D : Nat → Prop} (h : UnB w0 bu bm g cap s w) (t : Turned w w' D) (hD : ∀ k, k < w.heap.size → D k → w0.heap.size ≤ k ∧ ∃ c T, T ≠ 113 ∧ T ≠ 93 ∧ T ≠ 3 ∧ w.heap[k]? = some (.cells c T (0, 0))) : UnB w0 bu bm g cap s w' := by
  obtain ⟨F, h3, h4⟩ := h.hm
  obtain ⟨cg, hg, h5⟩ := h.hn
  have hnot : ∀ (k : Nat) (c : Array Value) (T : TypeId), (T = 113 ∨ T = 93 ∨ T = 3) → w.heap[k]? = some (.cells c T (0, 0)) → ¬ D k := fun k c T hT hk hDk => by
    obtain ⟨-, c2, T2, n1, n2, n3, hk2⟩ := hD k (lt_of_block hk) hDk
    rw [hk] at hk2
    simp only [Option.some.injEq, Obj.cells.injEq] at hk2
    rcases hT with e | e | e <;> rw [e] at hk2
    · exact n1 hk2.2.1.symm
    · exact n2 hk2.2.1.symm
    · exact n3 hk2.2.1.symm
  refine ⟨h.turned.trans t (fun i hi e => by have := (hD i (Nat.lt_of_lt_of_le hi h.turned.size) e).1; omega), (t.block _ (lt_of_block h.hu) (hnot _ _ _ (.inr (.inl rfl)) h.hu)).trans h.hu, h.hn.turned t (hnot _ _ _ (.inl rfl) hg) ⟨t.size, fun k c hk => (t.block k (lt_of_block hk) (hnot _ _ _ (.inr (.inr rfl)) hk)).trans hk⟩, ⟨F, h3.turned t (fun e => ?_), h4⟩, h.lo, h.lo2, h.lo3, h.hl⟩
  obtain ⟨es, cc, hb⟩ := h3.block
  obtain ⟨-, c2, T2, -, -, -, hk2⟩ := hD bm (lt_of_block hb) e
  rw [hb] at hk2
  cases hk2

/-- What is known of a node is laid down. -/
def Un.setE (nd : List Nd) (i : Nat) (e : Int × Int) : List Nd := match nd[i]? with
  | none => nd
  | some x => nd.set i { x with e1 := e.1, e2 := e.2 }

theorem Like.setE {nd nd2 : List Nd} (h : Like nd nd2) (i : Nat) (e : Int × Int) : Like nd (Un.setE nd2 i e) := by
  unfold Un.setE
  cases hx : nd2[i]? with
  | none => exact h
  | some x =>
    refine ⟨by rw [List.length_set]; exact h.1, fun j y hy => ?_⟩
    by_cases hj : j = i
    · subst hj
      rw [List.getElem?_set_self (List.getElem?_eq_some_iff.1 hx).1] at hy
      simp only [Option.some.injEq] at hy
      subst hy
      exact h.2 j x hx
    · rw [List.getElem?_set_ne (fun z => hj z.symm)] at hy
      exact h.2 j y hy

theorem Memo.setE {nd nd2 : List Nd} {F : Nat} (h : Memo nd F nd2) (i : Nat) (e : Int × Int) (he : ∃ f, Un.ext nd F f i = some e) : Memo nd F (Un.setE nd2 i e) := by
  unfold Un.setE
  cases hx : nd2[i]? with
  | none => exact h
  | some x =>
    intro j y hy h0
    by_cases hj : j = i
    · subst hj
      rw [List.getElem?_set_self (List.getElem?_eq_some_iff.1 hx).1] at hy
      simp only [Option.some.injEq] at hy
      subst hy
      exact he
    · rw [List.getElem?_set_ne (fun z => hj z.symm)] at hy
      exact h j y hy h0

theorem UnB.setE {w0 : World} {bu bm g cap : Nat} {s : Un} {w : World} (h : UnB w0 bu bm g cap s w) {i : Nat} {x : Nd} (hx : s.nd[i]? = some x) (e : Int × Int) :
    UnB w0 bu bm g cap ⟨Un.setE s.nd i e, s.var, s.c, s.p⟩ ((w.setCell ⟨g, i * 6 + 4, none⟩ (.int .i64 e.1)).setCell ⟨g, i * 6 + 5, none⟩ (.int .i64 e.2)) ∧ Turned w ((w.setCell ⟨g, i * 6 + 4, none⟩ (.int .i64 e.1)).setCell ⟨g, i * 6 + 5, none⟩ (.int .i64 e.2)) (fun k => k = g) := by
  have ts : Turned w ((w.setCell ⟨g, i * 6 + 4, none⟩ (.int .i64 e.1)).setCell ⟨g, i * 6 + 5, none⟩ (.int .i64 e.2)) (fun k => k = g) := (Turned.setCell (D := fun k => k = g) (Turned.refl _ _) (p := ⟨g, i * 6 + 4, none⟩) (fun _ => rfl) _).setCell (p := ⟨g, i * 6 + 5, none⟩) (fun _ => rfl) _
  have hlo := h.lo2
  obtain ⟨n1, n2, n3⟩ := h.ne
  obtain ⟨F, f1, f2⟩ := h.hm
  obtain ⟨c, c1, c2⟩ := h.hn
  have hk : KeepsB 3 w ((w.setCell ⟨g, i * 6 + 4, none⟩ (.int .i64 e.1)).setCell ⟨g, i * 6 + 5, none⟩ (.int .i64 e.2)) := ⟨ts.size, fun k c' hb => (ts.block k (lt_of_block hb) (fun e => by rw [e, c1] at hb; simp at hb)).trans hb⟩
  have hset : Un.setE s.nd i e = s.nd.set i { x with e1 := e.1, e2 := e.2 } := by unfold Un.setE; rw [hx]
  have hil := (List.getElem?_eq_some_iff.1 hx).1
  refine ⟨⟨h.turned.trans ts (fun k hi e => by omega), ?_, ⟨_, setCell_block (setCell_block c1 _) _, fun j y hy => ?_⟩, ⟨F, f1.turned ts (fun e => n3 e.symm), f2⟩, h.lo, h.lo2, h.lo3, ?_⟩, ts⟩
  · show _ = some (Obj.cells #[.slice (some ⟨g, 0, none⟩) (Un.setE s.nd i e).length cap, .map (some bm), .int .i64 s.p] _ _)
    rw [hset, List.length_set]
    exact (ts.block bu (lt_of_block h.hu) n1).trans h.hu
  · have hy2 : (Un.setE s.nd i e)[j]? = some y := hy
    rw [hset] at hy2
    by_cases ej : j = i
    · subst ej
      rw [List.getElem?_set_self hil] at hy2
      simp only [Option.some.injEq] at hy2
      subst hy2
      obtain ⟨v, a0, a1, a2, a3, a4, a5, hr⟩ := c2 j x hx
      have hs4 := (Array.getElem?_eq_some_iff.1 a4).1
      have hs5 := (Array.getElem?_eq_some_iff.1 a5).1
      refine ⟨v, ?_, ?_, ?_, ?_, ?_, ?_, hr.keeps hk⟩
      · rw [Array.getElem?_setIfInBounds_ne (by omega), Array.getElem?_setIfInBounds_ne (by omega)]; exact a0
      · rw [Array.getElem?_setIfInBounds_ne (by omega), Array.getElem?_setIfInBounds_ne (by omega)]; exact a1
      · rw [Array.getElem?_setIfInBounds_ne (by omega), Array.getElem?_setIfInBounds_ne (by omega)]; exact a2
      · rw [Array.getElem?_setIfInBounds_ne (by omega), Array.getElem?_setIfInBounds_ne (by omega)]; exact a3
      · rw [Array.getElem?_setIfInBounds_ne (by omega), Array.getElem?_setIfInBounds_self_of_lt hs4]
      · rw [Array.getElem?_setIfInBounds_self_of_lt (by simp; omega)]
    · rw [List.getElem?_set_ne (fun z => ej z.symm)] at hy2
      obtain ⟨v, a0, a1, a2, a3, a4, a5, hr⟩ := c2 j y hy2
      refine ⟨v, ?_, ?_, ?_, ?_, ?_, ?_, hr.keeps hk⟩ <;> (rw [Array.getElem?_setIfInBounds_ne (by omega), Array.getElem?_setIfInBounds_ne (by omega)]; assumption)
  · show (Un.setE s.nd i e).length ≤ 1000000
    rw [hset, List.length_set]; exact h.hl
end Go.Proofs.Ytljnmjehokijgaa

/- extent: the walk. -/
namespace Go.Proofs.Ytljnmjehokijgaa
open Go.RowKit

theorem RowB.one {w w' : World} {Z : Nat} {c : Array Value} {T : TypeId} {v : Value} {l : List Int} (h : RowB w v l) (t : Turned w w' (fun k => k = Z)) (hT : T ≠ 3) (hZ : w.heap[Z]? = some (.cells c T (0, 0))) : RowB w' v l :=
  h.turned t (fun k hk e => by
    obtain ⟨c2, hc⟩ := h.tag hk
    rw [e, hZ] at hc
    simp only [Option.some.injEq, Obj.cells.injEq] at hc
    exact hT hc.2.1)

/-- What extent gives: the extent; more may be known behind it. -/
def ExtN (w0 : World) (bu bm g cap F : Nat) (nd : List Nd) (s : Un) (w : World) (X : Int × Int) (e : Ending) (w' : World) : Prop :=
  e = .returned (.agg #[.int .i64 X.1, .int .i64 X.2]) ∧ ∃ nd2, UnB w0 bu bm g cap ⟨nd2, s.var, s.c, s.p⟩ w' ∧ Like nd nd2 ∧ Memo nd F nd2 ∧ Turned w w' (fun k => k = g)

theorem UnB.turnE {w0 : World} {bu bm g cap : Nat} {s : Un} {w w' : World} {Z : Nat} {c : Array Value} {T : TypeId} (h : UnB w0 bu bm g cap s w) (t : Turned w w' (fun k => k = Z)) (hlo : w0.heap.size ≤ Z) (n1 : T ≠ 113) (n2 : T ≠ 93) (n3 : T ≠ 3) (hZ : w.heap[Z]? = some (.cells c T (0, 0))) : UnB w0 bu bm g cap s w' :=
  h.turn t (fun k _ e => by subst e; exact ⟨hlo, c, T, n1, n2, n3, hZ⟩)

/-- The extent is stored into the result's cells. -/
theorem extN_put {w0 : World} {bu bm g cap F : Nat} {nd nd2 : List Nd} {s : Un} {w V : World} {c : Array Value} {x y : Int} (hU : UnB w0 bu bm g cap ⟨nd2, s.var, s.c, s.p⟩ V) (hL : Like nd nd2) (hM : Memo nd F nd2) (t : Turned w V (fun k => k = g)) (hw : w0.heap.size ≤ w.heap.size) (hk : V.heap[w.heap.size]? = some (.cells c 83 (0, 0))) :
    ExtN w0 bu bm g cap F nd s w (x, y) (.returned (.agg #[.int .i64 x, .int .i64 y])) ((V.setCell ⟨w.heap.size, 0, none⟩ (.int .i64 x)).setCell ⟨w.heap.size, 1, none⟩ (.int .i64 y)) := by
  have ts : Turned V ((V.setCell ⟨w.heap.size, 0, none⟩ (.int .i64 x)).setCell ⟨w.heap.size, 1, none⟩ (.int .i64 y)) (fun k => k = w.heap.size) := (Turned.setCell (D := fun k => k = w.heap.size) (Turned.refl _ _) (p := ⟨w.heap.size, 0, none⟩) (fun _ => rfl) _).setCell (p := ⟨w.heap.size, 1, none⟩) (fun _ => rfl) _
  exact ⟨rfl, nd2, hU.turnE ts hw (by decide) (by decide) (by decide) hk, hL, hM, t.trans ts (fun i hi e => by omega)⟩

set_option maxRecDepth 100000 in
set_option maxHeartbeats 3200000 in
theorem extent_any (w0 : World) (bu bm g cap F : Nat) (nd : List Nd) (hlen : Lens nd) : ∀ (f : Nat) (s : Un) (a : Int) (e : Int × Int) (w : World), Un.ext nd F f a = some e → f ≤ 1000000 → UnB w0 bu bm g cap s w → Like nd s.nd → Memo nd F s.nd →
    Calls Try.prog 86 #[.pointer (some ⟨bu, 0, none⟩), .int .i64 a] w (ExtN w0 bu bm g cap F nd s w e) := by
  intro f
  induction f with
  | zero => intro s a e w h; cases h
  | succ f ih =>
  intro s a e w h hf hU hL hM
  obtain ⟨i, x, e2, hfin, hx, hex, he⟩ := Un.ext_succ h
  obtain ⟨W, hW⟩ : ∃ W, W = w.alloc (.cells #[.int .i64 0, .int .i64 0] 83) := ⟨_, rfl⟩
  have tW : Turned w W (fun _ => False) := by rw [hW]; exact (Turned.refl _ _).alloc _
  have k0 : W.heap[w.heap.size]? = some (.cells #[.int .i64 0, .int .i64 0] 83 (0, 0)) := by rw [hW]; exact heap_alloc_new _ _
  have hUW := hU.step tW
  obtain ⟨q0, -, -, q3, q4, -, -⟩ := hUW.at0
  have hend := end_any w0 bu bm g cap s W hUW F a i (by rw [← hL.fin]; exact hfin)
  obtain ⟨y, hy⟩ : ∃ y, s.nd[i]? = some y := by
    have h1 := (List.getElem?_eq_some_iff.1 hx).1
    rw [hL.1] at h1
    exact ⟨_, List.getElem?_eq_getElem h1⟩
  obtain ⟨x', hx', hk1, hk2, hk3, hk4⟩ := hL.2 i y hy
  rw [hx] at hx'
  cases hx'
  have hixl : (i : Int) < (s.nd.length : Int) := by have := (List.getElem?_eq_some_iff.1 hy).1; omega
  obtain ⟨q, c, -, -, y2, -, y4, y5, hr⟩ := hUW.cells hy
  have hgl : g < w.heap.size := by obtain ⟨cg, hcg, -⟩ := hU.hn; exact lt_of_block hcg
  have hfi : Un.ext nd F (f + 1) i = some e := Un.ext_fin hfin h (Un.fin_fin hfin)
  have HUW := Lib.hid hUW
  have Hw0 := Lib.hid hU.turned.size
  have HL := Lib.hid hL
  have HM := Lib.hid hM
  have HW := Lib.hid hW
  have TW := Lib.hid tW
  have Hend := Lib.hid hend
  have Hy := Lib.hid hy
  have Hr := Lib.hid hr
  have Ih := Lib.hid ih
  have K0 := Lib.hid k0
  have Hfi := Lib.hid hfi
  have Hex := Lib.hid hex
  have Hlen := Lib.hid (hlen x (List.mem_of_getElem? hx))
  clear hU hL hM hW tW hend hy hr ih hUW k0 h hfin hfi hex hx
  go_enter Try.func86, Try.ntmps86
  go_upto_region 1 with fail
  rw [← HW.out]
  go_wp2_with fail
  refine Hend.out.mono ?_
  rintro ee w1 ⟨rfl, rfl⟩
  clear Hend
  obtain ⟨V, hV⟩ : ∃ V, V = w1.alloc (.cells #[.int .i64 y.e1, .int .i64 y.e2] 83) := ⟨_, rfl⟩
  have tV : Turned w1 V (fun _ => False) := by rw [hV]; exact (Turned.refl _ _).alloc _
  have k1 : V.heap[w1.heap.size]? = some (.cells #[.int .i64 y.e1, .int .i64 y.e2] 83 (0, 0)) := by rw [hV]; exact heap_alloc_new _ _
  have HV := Lib.hid hV
  have TV := Lib.hid tV
  have K1 := Lib.hid k1
  have HUV := Lib.hid (HUW.out.step tV)
  have K0V := Lib.hid (turn_keep tV K0.out)
  clear hV tV k1
  go_upto_region 3 with fail
  rw [← HV.out]
  have HY2 := Lib.hid y2
  clear q0 q3 q4 y2 y4 y5
  obtain ⟨b0, b1, b2, b3, b4⟩ := boxE K1.out
  by_cases hpos : 0 < y.e1
  · obtain ⟨f2, hf2⟩ := HM.out i y Hy.out hpos
    have heq := Un.ext_one Hfi.out hf2
    obtain ⟨c0, c1, c2, c3, c4⟩ := boxE K0V.out
    obtain ⟨g1, g2⟩ := store2 K0V.out (.int .i64 y.e1) (.int .i64 y.e2)
    have G1 := Lib.hid g1
    have Hfin := Lib.hid (show ExtN w0 bu bm g cap F nd s w e (.returned (.agg #[.int .i64 y.e1, .int .i64 y.e2])) ((V.setCell ⟨w.heap.size, 0, none⟩ (.int .i64 y.e1)).setCell ⟨w.heap.size, 1, none⟩ (.int .i64 y.e2)) from by
      rw [heq]
      exact extN_put HUV.out HL.out HM.out ((TW.out.trans TV.out (fun _ _ hf => hf)).mono (fun _ _ hf => hf.elim)) Hw0.out K0V.out)
    clear g1 g2 heq hf2
    go_wp2
    exact bodyPost_ret (results_ext rfl G1.out rfl) rfl Hfin.out
  have hpos' : ¬ (0 : Int) < y.e1 := hpos
  have Hex2 := Lib.hid (show Un.exts (Un.ext nd F f) y.l (1, 1) = some e2 by rw [← hk3]; exact Hex.out)
  have hyl : y.l.length ≤ 1000000 := by rw [← hk3]; exact Hlen.out
  obtain ⟨U, hU⟩ : ∃ U, U = V.alloc (.cells #[.int .i64 1, .int .i64 1] 83) := ⟨_, rfl⟩
  have tU : Turned V U (fun _ => False) := by rw [hU]; exact (Turned.refl _ _).alloc _
  have k2 : U.heap[V.heap.size]? = some (.cells #[.int .i64 1, .int .i64 1] 83 (0, 0)) := by rw [hU]; exact heap_alloc_new _ _
  have HU := Lib.hid hU
  have HUU := Lib.hid (HUV.out.step tU)
  have K2 := Lib.hid k2
  have K0U := Lib.hid (turn_keep tU K0V.out)
  have TU := Lib.hid ((TW.out.trans TV.out (fun _ _ hf => hf)).trans tU (fun _ _ hf => hf))
  have HrU := Lib.hid (Hr.out.turned ((TV.out).trans tU (fun _ _ hf => hf)) (fun _ _ hf => hf))
  have hVl : w.heap.size < V.heap.size := lt_of_block K0V.out
  have heq2 : U.cell? ⟨g, i * 6 + 2, none⟩ = some (.slice q y.l.length c) := ((TV.out.trans tU (fun _ _ hf => hf)).cell (p := ⟨g, i * 6 + 2, none⟩) (Nat.lt_of_lt_of_le hgl TW.out.size) (fun hf => hf)).trans HY2.out
  clear hU tU k2 hpos K1 HV TV TW K0 Hr HUW HY2
  obtain ⟨q0, -, -, q3, q4, -, -⟩ := HUU.out.at0
  go_upto_region 6 with fail
  rw [← HU.out]
  go_wp2
  clear q0 q3 q4 heq2 hpos' b0 b1 b2 b3 b4
  go_loopw [34] (fun i' wr => ∃ (k : Nat) (ndk : List Nd) (A : Int × Int), k ≤ y.l.length ∧ i' = .int .i64 k ∧ Un.exts (Un.ext nd F f) (y.l.take k) (1, 1) = some A ∧ wr.heap[V.heap.size]? = some (.cells #[.int .i64 A.1, .int .i64 A.2] 83 (0, 0)) ∧ wr.heap[w.heap.size]? = some (.cells #[.int .i64 0, .int .i64 0] 83 (0, 0)) ∧
      UnB w0 bu bm g cap ⟨ndk, s.var, s.c, s.p⟩ wr ∧ Like nd ndk ∧ Memo nd F ndk ∧ RowB wr (.slice q y.l.length c) y.l ∧ Turned w wr (fun k => k = g)) (fun i' _ => y.l.length - (intOf i').toNat)
  case atStart => exact ⟨0, s.nd, (1, 1), Nat.zero_le _, rfl, rfl, K2.out, K0U.out, HUU.out, HL.out, HM.out, HrU.out, TU.out.mono (fun _ _ hf => hf.elim)⟩
  case round =>
    obtain ⟨k, ndk, A, hk, rfl, hA, kA, k0, hUk, hLk, hMk, hrk, tk⟩ := hrel
    by_cases hlt : k < y.l.length
    · have hki : (k : Int) < (y.l.length : Int) := by omega
      obtain ⟨ga, oa, rfl, lga, xa⟩ := hrk.row.at k hlt
      obtain ⟨A2, hA2⟩ := Un.exts_take (y.l.take (k + 1)) (y.l.drop (k + 1)) _ _ (by rw [List.take_append_drop]; exact Hex2.out)
      have hA2' := hA2
      rw [List.take_succ_eq_append_getElem hlt] at hA2'
      obtain ⟨B, E, hB, hE, hA2e⟩ := Un.exts_snoc _ _ _ _ hA2'
      rw [hA] at hB
      simp only [Option.some.injEq] at hB
      subst hB
      have hAb := Un.exts_bound (B := f) (fun i e he => Un.ext_bound f i e he) _ _ _ hA
      have hEb := Un.ext_bound f _ _ hE
      have htl : (y.l.take k).length ≤ 1000000 := by rw [List.length_take]; omega
      simp only at hAb
      obtain ⟨v0, v1, v2, v3, v4⟩ := boxE kA
      have Hcall := Lib.hid (fun X (hX : Turned wr X (fun _ => False)) => Ih.out ⟨ndk, s.var, s.c, s.p⟩ y.l[k] E X hE (by omega) (hUk.step hX) hLk hMk)
      have KA := Lib.hid kA
      have K0' := Lib.hid k0
      have Hrk := Lib.hid hrk
      have Tk := Lib.hid tk
      have HA2 := Lib.hid hA2
      have Hcg := Lib.hid hUk.hn
      have tt : Turned wr wr.drew (fun _ => False) := (Turned.refl wr _).drew
      have b1 : 0 ≤ A.1 := by omega
      have b2 : A.1 ≤ 4000000000 := by omega
      have b3 : 0 ≤ E.1 := by omega
      have b4 : E.1 ≤ 4000000000 := by omega
      have b5 : 0 ≤ E.2 := by omega
      have b6 : E.2 ≤ 4000000000 := by omega
      clear kA k0 hUk hLk hMk hrk tk hA hA2 hA2' hE hAb hEb htl
      obtain ⟨a0, a1⟩ := A
      obtain ⟨y0, y1⟩ := E
      simp only at b1 b2 b3 b4 b5 b6 v0 v1 hA2e
      subst hA2e
      generalize y.l[k] = ye at *
      go_upto_region 9 with fail
      go_region_law (first
        | (go_simp; go_at_call 86; refine (Hcall.out _ tt).mono ?_; rintro ee w2 ⟨rfl, nd2, hU2, hL2, hM2, t1⟩; have t2 : Turned wr w2 (fun k => k = g) := (tt.mono (E := fun k => k = g) (fun _ _ hf => hf.elim)).trans t1 (fun _ _ h => h); have k52 := (t2.block _ (lt_of_block KA.out) (by omega)).trans KA.out; obtain ⟨m0, m1, m2, m3, m4⟩ := boxE k52; have T2 := Lib.hid t2; have H2 := Lib.hid (And.intro hU2 (And.intro hL2 hM2)); have K52 := Lib.hid k52; clear t1 t2 k52 hU2 hL2 hM2)
        | (go_simp; go_at_call 80; refine (with_any a0 a1 y0 y1 _ b1 b2 b3 b4 b5 b6).mono ?_; rintro ee w3 ⟨rfl, t3⟩; have k53 := turn_keep t3 K52.out; obtain ⟨n0, n1, n2, n3, n4⟩ := boxE k53; have T3 := Lib.hid (T2.out.trans (t3.mono (E := fun k => k = g) (fun _ _ hf => hf.elim)) (fun _ _ h => h)); have H3 := Lib.hid (H2.out.1.step t3); have K53 := Lib.hid k53; clear t3 k53))
      all_goals
        obtain ⟨g1, g2⟩ := store2 K53.out (.int .i64 (a0 + y0)) (.int .i64 (max a1 (y1 + 1)))
        obtain ⟨cg, hcg, -⟩ := Hcg.out
        have N5 := Lib.hid g1
        have hk0 := (T3.out.block _ (lt_of_block K0'.out) (by omega)).trans K0'.out
        have N0 := Lib.hid ((g2.block _ (lt_of_block hk0) (by omega)).trans hk0)
        have NU := Lib.hid (H3.out.turnE g2 (by have := Hw0.out; omega) (by decide) (by decide) (by decide) K53.out)
        have NR := Lib.hid (((Hrk.out.one T3.out (by decide) hcg)).one g2 (by decide) K53.out)
        have NT := Lib.hid ((Tk.out.trans T3.out (fun _ _ h => h)).trans g2 (fun i hi e => by omega))
        clear g1 g2 tt m0 m1 m2 m3 m4 n0 n1 n2 n3 n4 v0 v1 v2 v3 v4 xa lga hcg hk0
        go_wp2
        go_roundw
        case rel => exact ⟨k + 1, nd2, (a0 + y0, max a1 (y1 + 1)), by omega, by go_num, HA2.out, N5.out, N0.out, NU.out, H2.out.2.1, H2.out.2.2, NR.out, NT.out⟩
        case measure => simp [intOf]; omega
    · obtain rfl : k = y.l.length := by omega
      rw [List.take_of_length_le (Nat.le_refl _), Hex2.out] at hA
      simp only [Option.some.injEq] at hA
      subst hA
      obtain ⟨v0, v1, v2, v3, v4⟩ := boxE kA
      have KA := Lib.hid kA
      have K0' := Lib.hid k0
      have HUk := Lib.hid hUk
      have HLk := Lib.hid hLk
      have HMk := Lib.hid hMk
      have Tk := Lib.hid tk
      clear kA k0 hUk hLk hMk hrk tk
      obtain ⟨z1, z2⟩ := e2
      simp only at he v0 v1
      obtain ⟨y', hy'⟩ : ∃ y', ndk[i]? = some y' := by
        have h1 := (List.getElem?_eq_some_iff.1 Hy.out).1
        rw [← HL.out.1, HLk.out.1] at h1
        exact ⟨_, List.getElem?_eq_getElem h1⟩
      have hix2 : (i : Int) < (ndk.length : Int) := by have := (List.getElem?_eq_some_iff.1 hy').1; omega
      go_upto_region 12 with fail
      rw [show (if 2001 < z1 then 2001 else z1) = min z1 2001 by split <;> omega]
      generalize min z1 2001 = m at *
      have ts : Turned wr (wr.setCell ⟨V.heap.size, 0, none⟩ (.int .i64 m)) (fun k => k = V.heap.size) := Turned.setCell (D := fun k => k = V.heap.size) (Turned.refl _ _) (p := ⟨V.heap.size, 0, none⟩) (fun _ => rfl) _
      have o1 : (wr.setCell ⟨V.heap.size, 0, none⟩ (.int .i64 m)).heap[V.heap.size]? = some (.cells #[.int .i64 m, .int .i64 z2] 83 (0, 0)) := by
        rw [setCell_block KA.out (i := 0)]
        rfl
      have hU1 := HUk.out.turnE ts (by have := Hw0.out; omega) (by decide) (by decide) (by decide) KA.out
      have o0 := (ts.block _ (lt_of_block K0'.out) (by omega)).trans K0'.out
      have t1 := Tk.out.trans ts (fun i hi e => by omega)
      generalize wr.setCell ⟨V.heap.size, 0, none⟩ (.int .i64 m) = X1 at *
      clear v0 v1 v2 v3 v4
      obtain ⟨q0, -, -, q3, q4, -, q6⟩ := hU1.at0
      have q64 := q6 (i * 6 + 4)
      have q65 := q6 (i * 6 + 5)
      obtain ⟨qq, cc, -, -, -, -, x4, x5, -⟩ := hU1.cells (show (⟨ndk, s.var, s.c, s.p⟩ : Un).nd[i]? = some y' from hy')
      simp only at q0
      obtain ⟨v0, v1, v2, v3, v4⟩ := boxE o1
      obtain ⟨n1, n2⟩ := hU1.setE (show (⟨ndk, s.var, s.c, s.p⟩ : Un).nd[i]? = some y' from hy') (m, z2)
      simp only at n1 n2
      rw [show i * 6 + 5 = i * 6 + 4 + 1 from rfl] at n1 n2
      have N1 := Lib.hid n1
      have o0' := (n2.block _ (lt_of_block o0) (by omega)).trans o0
      have o1' := (n2.block _ (lt_of_block o1) (by omega)).trans o1
      have N2 := Lib.hid (t1.trans n2 (fun _ _ h => h))
      have O0 := Lib.hid o0'
      have O1 := Lib.hid o1'
      have HL2 := Lib.hid (HLk.out.setE i (m, z2))
      have HM2 := Lib.hid (HMk.out.setE i (m, z2) ⟨f + 1, by rw [Hfi.out, he]⟩)
      clear ts o0 o1 t1 hU1 q6 n1 n2 o0' o1' hy' KA K0' HUk HLk HMk Tk
      go_region
      all_goals
        go_upto_region 13 with fail
        have N1' := N1.out
        have N2' := N2.out
        have O0' := O0.out
        have O1' := O1.out
        clear N1 N2 O0 O1 q0 q3 q4 q64 q65 x4 x5 v0 v1 v2 v3 v4
        generalize (X1.setCell ⟨g, i * 6 + 4, none⟩ (.int .i64 m)).setCell ⟨g, i * 6 + 4 + 1, none⟩ (.int .i64 z2) = Y0 at *
        have td : Turned Y0 Y0.drew (fun _ => False) := (Turned.refl Y0 _).drew
        replace N1' := N1'.step td
        replace N2' := N2'.trans (td.mono (E := fun k => k = g) (fun _ _ hf => hf.elim)) (fun _ _ h => h)
        replace O0' := turn_keep td O0'
        replace O1' := turn_keep td O1'
        clear td
        generalize Y0.drew = Y at *
        obtain ⟨v0, v1, v2, v3, v4⟩ := boxE O1'
        obtain ⟨c0, c1, c2, c3, c4⟩ := boxE O0'
        obtain ⟨g1, g2⟩ := store2 O0' (.int .i64 m) (.int .i64 z2)
        have G1 := Lib.hid g1
        have Hfin := Lib.hid (extN_put (x := m) (y := z2) N1' HL2.out HM2.out N2' Hw0.out O0')
        rw [← he] at Hfin
        clear g1 g2 N1' N2' O0' O1'
        go_wp2
        exact bodyPost_ret (results_ext rfl G1.out rfl) rfl Hfin.out
end Go.Proofs.Ytljnmjehokijgaa

/- tree: the tree of a node. -/
namespace Go.Proofs.Ytljnmjehokijgaa
open Go.RowKit

theorem Un.tree_succ {nd : List Nd} {F f : Nat} {a : Int} {t : Tm} (h : Un.tree nd F (f + 1) a = some t) : ∃ (i : Nat) (x : Nd) (l : List Tm), Un.fin nd F a = some (i : Int) ∧ nd[i]? = some x ∧ Un.trees (Un.tree nd F f) x.l = some l ∧ t = .node x.k x.n l := by
  simp only [Un.tree] at h
  cases ha : Un.fin nd F a with
  | none => rw [ha] at h; cases h
  | some a2 =>
    rw [ha] at h
    obtain ⟨i, x, rfl, hx, -⟩ := Un.fin_lt F a a2 ha
    simp only [Int.toNat_natCast, hx] at h
    cases hq : Un.trees (Un.tree nd F f) x.l with
    | none => rw [hq] at h; cases h
    | some l =>
      rw [hq] at h
      simp only [Option.some.injEq] at h
      exact ⟨i, x, l, rfl, hx, hq, h.symm⟩

theorem Un.trees_snoc {g : Int → Option Tm} : ∀ (l : List Int) (i : Int) (m : List Tm), Un.trees g (l ++ [i]) = some m → ∃ m1 t, Un.trees g l = some m1 ∧ g i = some t ∧ m = m1 ++ [t]
  | [], i, m, h => by
    simp only [List.nil_append, Un.trees] at h
    cases hi : g i with
    | none => rw [hi] at h; cases h
    | some x =>
      rw [hi] at h
      simp only [Option.some.injEq] at h
      exact ⟨[], x, rfl, rfl, h.symm⟩
  | j :: l, i, m, h => by
    simp only [List.cons_append, Un.trees] at h ⊢
    cases hj : g j with
    | none => rw [hj] at h; cases h
    | some x =>
      rw [hj] at h
      cases hq : Un.trees g (l ++ [i]) with
      | none => rw [hq] at h; cases h
      | some m2 =>
        rw [hq] at h
        simp only [Option.some.injEq] at h
        obtain ⟨m1, t, h1, h2, rfl⟩ := Un.trees_snoc l i m2 hq
        exact ⟨x :: m1, t, by rw [h1], h2, h.symm⟩

theorem Un.trees_take {g : Int → Option Tm} : ∀ (l m : List Int) (r : List Tm), Un.trees g (l ++ m) = some r → ∃ r1, Un.trees g l = some r1
  | [], _, _, _ => ⟨[], rfl⟩
  | j :: l, m, r, h => by
    simp only [List.cons_append, Un.trees] at h ⊢
    cases hj : g j with
    | none => rw [hj] at h; cases h
    | some x =>
      rw [hj] at h
      cases hq : Un.trees g (l ++ m) with
      | none => rw [hq] at h; cases h
      | some r2 =>
        obtain ⟨r1, h1⟩ := Un.trees_take l m r2 hq
        exact ⟨x :: r1, by rw [h1]⟩

theorem Un.trees_length {g : Int → Option Tm} : ∀ (l : List Int) (r : List Tm), Un.trees g l = some r → r.length = l.length
  | [], r, h => by simp only [Un.trees, Option.some.injEq] at h; subst h; rfl
  | j :: l, r, h => by
    simp only [Un.trees] at h
    cases hj : g j with
    | none => rw [hj] at h; cases h
    | some x =>
      rw [hj] at h
      cases hq : Un.trees g l with
      | none => rw [hq] at h; cases h
      | some r2 =>
        rw [hq] at h
        simp only [Option.some.injEq] at h
        rw [← h, List.length_cons, List.length_cons, Un.trees_length l r2 hq]

set_option maxRecDepth 100000 in
set_option maxHeartbeats 3200000 in
theorem treeU_any (w0 : World) (bu bm g cap F : Nat) (nd : List Nd) (hlen : Lens nd) : ∀ (f : Nat) (s : Un) (a : Int) (t : Tm) (w : World), Un.tree nd F f a = some t → UnB w0 bu bm g cap s w → Like nd s.nd →
    Calls Try.prog 87 #[.pointer (some ⟨bu, 0, none⟩), .int .i64 a] w (NewT w t) := by
  intro f
  induction f with
  | zero => intro s a t w h; cases h
  | succ f ih =>
  intro s a t w h hU hL
  obtain ⟨i, x, l, hfin, hx, hl, rfl⟩ := Un.tree_succ h
  obtain ⟨y, hy⟩ : ∃ y, s.nd[i]? = some y := by
    have h1 := (List.getElem?_eq_some_iff.1 hx).1
    rw [hL.1] at h1
    exact ⟨_, List.getElem?_eq_getElem h1⟩
  obtain ⟨x', hx', hk1, hk2, hk3, hk4⟩ := hL.2 i y hy
  rw [hx] at hx'
  cases hx'
  rw [hk1, hk2]
  have hyl : y.l.length ≤ 1000000 := by rw [← hk3]; exact hlen x (List.mem_of_getElem? hx)
  rw [hk3] at hl
  obtain ⟨W, hW⟩ : ∃ W, W = w.alloc (.cells #[.int .i64 0, .int .i64 0, .slice none 0 0] 24) := ⟨_, rfl⟩
  have tW : Turned w W (fun _ => False) := by rw [hW]; exact (Turned.refl _ _).alloc _
  have k4 : W.heap[w.heap.size]? = some (.cells #[.int .i64 0, .int .i64 0, .slice none 0 0] 24 (0, 0)) := by rw [hW]; exact heap_alloc_new _ _
  have hWs : W.heap.size = w.heap.size + 1 := by rw [hW]; simp
  have hUW := hU.step tW
  obtain ⟨q0, -, -, q3, q4, -, -⟩ := hUW.at0
  have hend := fun V (hV : Turned W V (fun _ => False)) => end_any w0 bu bm g cap s V (hUW.step hV) F a i (by rw [← hL.fin]; exact hfin)
  have hixl : (i : Int) < (s.nd.length : Int) := by have := (List.getElem?_eq_some_iff.1 hy).1; omega
  obtain ⟨q, c, y0, y1, y2, y3, y4, y5, hr⟩ := hUW.cells hy
  have HUW := Lib.hid hUW
  have HW := Lib.hid hW
  have TW := Lib.hid tW
  have K4 := Lib.hid k4
  have Hend := Lib.hid hend
  have Hr := Lib.hid hr
  have HL := Lib.hid hL
  have Ih := Lib.hid ih
  have Hl := Lib.hid hl
  have HWs := Lib.hid hWs
  have tt : Turned W W.drew (fun _ => False) := (Turned.refl W _).drew
  clear hWs hU hL hW tW k4 hUW hend hr ih h hl hfin hx hy
  go_enter Try.func87, Try.ntmps87
  go_upto_region 1 with fail
  rw [← HW.out]
  go_cut [5] from 9 to 17 (fun p5 wx => ∃ X : Nat, p5 = .pointer (some ⟨X, 0, none⟩) ∧ wx.heap[X]? = some (.cells #[.int .i64 y.k, .int .i64 y.n, .slice q y.l.length c, .int .i64 y.b, .int .i64 y.e1, .int .i64 y.e2] 113 (0, 0)) ∧ W.heap.size ≤ X ∧ Turned W wx (fun _ => False))
  case first =>
    go_region_law (first
      | (go_simp; go_at_call 84; refine (Hend.out _ (by repeat (first | assumption | exact Turned.refl _ _ | apply Turned.alloc | apply Turned.drew))).mono ?_; rintro e w1 ⟨rfl, rfl⟩))
    all_goals
      go_wp2_with fail
      clear y0 y1 y2 y3 y4 y5 q0 q3 q4
      go_meet
      exact ⟨_, rfl, (show (W.alloc (.cells #[.int .i64 y.k, .int .i64 y.n, .slice q y.l.length c, .int .i64 y.b, .int .i64 y.e1, .int .i64 y.e2] 113)).heap[W.heap.size]? = _ from heap_alloc_new _ _), Nat.le_refl _, ((Turned.refl W _).alloc _).drew⟩
  case rest =>
    obtain ⟨X, rfl, kX, lX, tC⟩ := hcut
    obtain ⟨b0, b1, b2, b3, b4⟩ := box6 kX
    obtain ⟨V, hV⟩ : ∃ V, V = wc.alloc (.cells #[.int .i64 y.k, .int .i64 y.n, .slice none 0 0] 24) := ⟨_, rfl⟩
    have tV : Turned wc V (fun _ => False) := by rw [hV]; exact (Turned.refl _ _).alloc _
    have k5 : V.heap[wc.heap.size]? = some (.cells #[.int .i64 y.k, .int .i64 y.n, .slice none 0 0] 24 (0, 0)) := by rw [hV]; exact heap_alloc_new _ _
    have k4V := turn_keep tV (turn_keep tC K4.out)
    have hbx : X ≠ wc.heap.size := by omega
    have hBw : w.heap.size < wc.heap.size := by have := HWs.out; have := tC.size; omega
    obtain ⟨-, -, b2V, -, b4V⟩ := box6 (turn_keep tV kX)
    have HV := Lib.hid hV
    have K5 := Lib.hid k5
    have K4V := Lib.hid k4V
    have TC := Lib.hid (TW.out.trans tC (fun _ _ hf => hf))
    have TV := Lib.hid tV
    have HUC := Lib.hid (HUW.out.step tC)
    have HrC := Lib.hid (Hr.out.turned tC (fun _ _ hf => hf))
    have hVs : wc.heap.size + 1 ≤ V.heap.size := by have := lt_of_block k5; omega
    clear kX tC hV tV k5 k4V y0 y1 y2 y3 y4 y5 q0 q3 q4 HUW TW K4 Hend Hr hixl tt
    go_upto_region 3 with fail
    rw [← HV.out]
    clear b0 b1 b2 b3 b4
    go_wp2
    clear b2V b4V
    go_loopw [26] (fun i' wr => ∃ (k : Nat) (u : Value) (L : List Tm), k ≤ y.l.length ∧ i' = .int .i64 k ∧ Un.trees (Un.tree nd F f) (y.l.take k) = some L ∧ OwnTT wr (wc.heap.size + 1) (fun g => False ∨ wc.heap.size + 1 ≤ g) u L ∧
        wr.heap[wc.heap.size]? = some (.cells #[.int .i64 y.k, .int .i64 y.n, u] 24 (0, 0)) ∧ wr.heap[w.heap.size]? = some (.cells #[.int .i64 0, .int .i64 0, .slice none 0 0] 24 (0, 0)) ∧ Turned wc wr (fun _ => False)) (fun i' _ => y.l.length - (intOf i').toNat)
    case atStart => exact ⟨0, _, [], Nat.zero_le _, rfl, rfl, OwnT.nil _ _ _, K5.out, K4V.out, TV.out⟩
    case round =>
      obtain ⟨k, u, L, hk, rfl, hLk, hor, k5, k4, ht⟩ := hrel
      have c50 : wr.cell? ⟨wc.heap.size, 0, none⟩ = some (.int .i64 y.k) := by simp [World.cell?, k5]
      have c51 : wr.cell? ⟨wc.heap.size, 1, none⟩ = some (.int .i64 y.n) := by simp [World.cell?, k5]
      have c52 : wr.cell? ⟨wc.heap.size, 2, none⟩ = some u := by simp [World.cell?, k5]
      have l5 := lt_of_block k5
      by_cases hlt : k < y.l.length
      · have hki : (k : Int) < (y.l.length : Int) := by omega
        obtain ⟨ga, oa, rfl, lga, xa⟩ := (HrC.out.turned ht (fun _ _ hf => hf)).row.at k hlt
        obtain ⟨L2, hL2⟩ := Un.trees_take (y.l.take (k + 1)) (y.l.drop (k + 1)) _ (by rw [List.take_append_drop]; exact Hl.out)
        have hL2' := hL2
        rw [List.take_succ_eq_append_getElem hlt] at hL2'
        obtain ⟨L1, t, hL1, hte, hL2e⟩ := Un.trees_snoc _ _ _ hL2'
        rw [hLk] at hL1
        simp only [Option.some.injEq] at hL1
        subst hL1
        have hlk : L.length = k := by rw [Un.trees_length _ _ hLk, List.length_take]; omega
        obtain ⟨ua, uc, hu⟩ := hor.form
        rw [hlk] at hu
        subst hu
        have Hcall := Lib.hid (fun Z (hZ : Turned wr Z (fun _ => False)) => Ih.out s y.l[k] t Z hte ((HUC.out.step ht).step hZ) HL.out)
        have Hor := Lib.hid hor
        have K5' := Lib.hid k5
        have K4' := Lib.hid k4
        have Ht := Lib.hid ht
        have Hlk := Lib.hid hlk
        have HL2 := Lib.hid (show Un.trees (Un.tree nd F f) (y.l.take (k + 1)) = some (L ++ [t]) by rw [hL2, hL2e])
        have tt : Turned wr wr.drew (fun _ => False) := (Turned.refl wr _).drew
        clear hor k5 k4 ht hlk c50 c51 hL2 hL2' hL2e hte hLk
        have hwr3 : wc.heap.size + 1 ≤ wr.heap.size := by omega
        generalize y.l[k] = ye at *
        go_upto_region 6 with fail
        go_region_law (first
          | (go_simp; go_at_call 87; refine (Hcall.out _ tt).mono ?_; rintro e w1 ⟨v1, rfl, hv1, t1⟩; obtain ⟨q1, cq1, rfl⟩ := hv1.form; have d52 : w1.cell? ⟨wc.heap.size, 2, none⟩ = some (.slice ua k uc) := (t1.cell (p := ⟨wc.heap.size, 2, none⟩) l5 (fun hf => hf)).trans c52;
             have l51 : wc.heap.size < w1.heap.size := Nat.lt_of_lt_of_le l5 t1.size; obtain ⟨hA, hB, hC⟩ := put_one (R := fun _ => False) Hor.out (tt.trans t1 (fun _ _ hf => hf)) (TmS.mono (fun j _ hj => Or.inr hj) _ hv1) (fun j hj => hj.elim) hwr3; have hG := heap_alloc_new w1 (.cells #[.int .i64 t.kind, .int .i64 t.num, .slice q1 t.kids.length cq1] 24); have HA := Lib.hid hA; have HB := Lib.hid hB; have HG := Lib.hid hG; have HT2 := Lib.hid (show Turned wr (w1.alloc (.cells #[.int .i64 t.kind, .int .i64 t.num, .slice q1 t.kids.length cq1] 24)) (fun _ => False) from (tt.trans t1 (fun _ _ hf => hf)).alloc _); clear hA hB hG hv1)
          | (refine step_append_term _ (by rfl) _ _ (by rfl) (wc.heap.size + 1) _ (.slice ua k uc) _ t (by rfl) HA.out w1.heap.size (.int .i64 t.kind) (.int .i64 t.num) (.slice q1 t.kids.length cq1) (by rfl) HG.out HB.out (by rw [Hlk.out]; omega) hC (w1.heap.size + 1) (by simp) ?_; intro g5 cap5 w5 ho5 ht5 hat5 hl5; obtain ⟨m5, m6, m7⟩ := put_two (R := fun _ => False) (Z := wc.heap.size) ho5 HT2.out ht5 (fun j e => (Hor.out.own_le e).1) (by omega) (fun j hj => hj.elim) K5'.out (.slice (some ⟨g5, 0, none⟩) (L.length + 1) cap5); have e52 : w5.cell? ⟨wc.heap.size, 2, none⟩ = some (.slice ua k uc) := (by simp [World.cell?, m5]); have f52 : w5.frozen? ⟨wc.heap.size, 2, none⟩ = false := (by simp [World.frozen?, m5]); have l52 := lt_of_block m5; have M6 := Lib.hid m6; have M7 := Lib.hid m7; have HT5 := Lib.hid ht5; clear m5 m6 m7 ho5 ht5))
        all_goals
          obtain ⟨n1, n2⟩ := put_three HT2.out HT5.out (fun j e => (Hor.out.own_le e).1) (show wc.heap.size < wc.heap.size + 1 by omega) (.slice (some ⟨g5, 0, none⟩) (L.length + 1) cap5)
          have N4 := Lib.hid (n1 _ _ (by omega) (by omega) K4'.out)
          have NT := Lib.hid (n2 wc Ht.out (by omega))
          clear n1 n2 e52 f52 l52 d52 l51 t1 tt xa lga c52 l5 hat5 hl5 hC
          go_wp2
          go_roundw
          case rel => exact ⟨k + 1, _, _, by omega, by go_num, HL2.out, M6.out, M7.out, N4.out, NT.out⟩
          case measure => simp [intOf]; omega
      · obtain rfl : k = y.l.length := by omega
        rw [List.take_of_length_le (Nat.le_refl _), Hl.out] at hLk
        simp only [Option.some.injEq] at hLk
        subst hLk
        obtain ⟨ua, uc, hu⟩ := hor.form
        subst hu
        have f10 : wr.frozen? ⟨w.heap.size, 0, none⟩ = false := by simp [World.frozen?, k4]
        have f11 : wr.frozen? ⟨w.heap.size, 1, none⟩ = false := by simp [World.frozen?, k4]
        have f12 : wr.frozen? ⟨w.heap.size, 2, none⟩ = false := by simp [World.frozen?, k4]
        have c10 : wr.cell? ⟨w.heap.size, 0, none⟩ = some (.int .i64 0) := by simp [World.cell?, k4]
        have c11 : wr.cell? ⟨w.heap.size, 1, none⟩ = some (.int .i64 0) := by simp [World.cell?, k4]
        have c12 : wr.cell? ⟨w.heap.size, 2, none⟩ = some (.slice none 0 0) := by simp [World.cell?, k4]
        obtain ⟨g1, g2⟩ := store3 k4 (.int .i64 y.k) (.int .i64 y.n) (.slice ua l.length uc)
        have hT : Turned w (((wr.setCell ⟨w.heap.size, 0, none⟩ (.int .i64 y.k)).setCell ⟨w.heap.size, 1, none⟩ (.int .i64 y.n)).setCell ⟨w.heap.size, 2, none⟩ (.slice ua l.length uc)) (fun _ => False) := (TC.out.trans ht (fun _ _ hf => hf)).trans g2 (fun i hi e => by omega)
        obtain ⟨pa, pc, hv, hln, hrow⟩ := hor.rowS (S' := fun g => wc.heap.size + 1 ≤ g) (fun _ _ h => h.1.elim (fun hf => hf.elim) (fun h => h)) (fun j e => (hor.own_le e).1)
        have hfin : NewT w (.node y.k y.n l) (.returned (.agg #[.int .i64 y.k, .int .i64 y.n, .slice ua l.length uc])) (((wr.setCell ⟨w.heap.size, 0, none⟩ (.int .i64 y.k)).setCell ⟨w.heap.size, 1, none⟩ (.int .i64 y.n)).setCell ⟨w.heap.size, 2, none⟩ (.slice ua l.length uc)) :=
          ⟨_, rfl, ⟨pa, pc, by rw [hv], hln, TmsS.turned g2 (fun j _ hj e => by omega) (fun j _ hj => by omega) _ hrow⟩, hT⟩
        have Hfin := Lib.hid hfin
        have G1 := Lib.hid g1
        have l4 := lt_of_block k4
        clear hor k4 ht g1 g2 hT hv hln hrow hfin k5
        go_wp2
        exact bodyPost_ret (results_term rfl G1.out rfl) rfl Hfin.out
end Go.Proofs.Ytljnmjehokijgaa

/- solution. -/
namespace Go.Proofs.Ytljnmjehokijgaa
open Go.RowKit

theorem UnB.turnR {w0 : World} {bu bm g cap : Nat} {s : Un} {w w' : World} {r : Nat} (h : UnB w0 bu bm g cap s w) (t : Turned w w' (fun k => k = r)) (hr : ∀ (j : Nat) (c : Array Value) (T : TypeId) (z : Nat × Nat), w.heap[j]? = some (.cells c T z) → j ≠ r) (hm : bm ≠ r) (lo : w0.heap.size ≤ r) : UnB w0 bu bm g cap s w' := by
  obtain ⟨F, h3, h4⟩ := h.hm
  obtain ⟨cg, hg, h5⟩ := h.hn
  exact ⟨h.turned.trans t (fun i hi e => by omega), (t.block _ (lt_of_block h.hu) (hr _ _ _ _ h.hu)).trans h.hu, h.hn.turned t (hr _ _ _ _ hg) ⟨t.size, fun k c hk => (t.block k (lt_of_block hk) (hr _ _ _ _ hk)).trans hk⟩, ⟨F, h3.turned t hm, h4⟩, h.lo, h.lo2, h.lo3, h.hl⟩

theorem Un.allOk_at {s : Un} {F : Nat} : ∀ {l : List Int} {b : Bool}, Un.allOk s F l = some b → ∀ n ∈ l, ∀ i, s.var n = some i → ∃ e, Un.ext s.nd F F i = some e ∧ (b = true → extOk e = true)
  | [], _, _, n, hn, _, _ => by cases hn
  | m :: l, b, h, n, hn, i, hi => by
    simp only [Un.allOk] at h
    cases hm : s.var m with
    | none =>
      rw [hm] at h
      rcases List.mem_cons.1 hn with rfl | hn
      · rw [hm] at hi; cases hi
      · exact Un.allOk_at h n hn i hi
    | some j =>
      rw [hm] at h
      simp only at h
      cases he : Un.ext s.nd F F j with
      | none => rw [he] at h; cases h
      | some e =>
        rw [he] at h
        cases hb : Un.allOk s F l with
        | none => rw [hb] at h; cases h
        | some b2 =>
          rw [hb] at h
          simp only [Option.some.injEq] at h
          subst h
          rcases List.mem_cons.1 hn with rfl | hn
          · rw [hm] at hi
            simp only [Option.some.injEq] at hi
            subst hi
            exact ⟨e, he, fun h => by simp only [Bool.and_eq_true] at h; exact h.1⟩
          · obtain ⟨e2, h1, h2⟩ := Un.allOk_at hb n hn i hi
            exact ⟨e2, h1, fun h => h2 (by simp only [Bool.and_eq_true] at h; exact h.2)⟩

theorem Un.allOk_false {s : Un} {F : Nat} : ∀ {l : List Int}, Un.allOk s F l = some false → ∃ n ∈ l, ∃ i e, s.var n = some i ∧ Un.ext s.nd F F i = some e ∧ extOk e = false
  | [], h => by simp [Un.allOk] at h
  | m :: l, h => by
    simp only [Un.allOk] at h
    cases hm : s.var m with
    | none =>
      rw [hm] at h
      obtain ⟨n, hn, i, e, h1⟩ := Un.allOk_false h
      exact ⟨n, .tail _ hn, i, e, h1⟩
    | some j =>
      rw [hm] at h
      simp only at h
      cases he : Un.ext s.nd F F j with
      | none => rw [he] at h; cases h
      | some e =>
        rw [he] at h
        cases hb : Un.allOk s F l with
        | none => rw [hb] at h; cases h
        | some b2 =>
          rw [hb] at h
          simp only [Option.some.injEq, Bool.and_eq_false_iff] at h
          rcases h with h | h
          · exact ⟨m, .head _, j, e, hm, he, h⟩
          · subst h
            obtain ⟨n, hn, i, e, h1⟩ := Un.allOk_false hb
            exact ⟨n, .tail _ hn, i, e, h1⟩

theorem mem_upTo {n x : Int} : x ∈ upTo n ↔ 0 ≤ x ∧ x < n := by
  unfold upTo
  rw [List.mem_map]
  constructor
  · rintro ⟨i, hi, rfl⟩
    rw [List.mem_range] at hi
    omega
  · rintro ⟨h1, h2⟩
    exact ⟨x.toNat, by rw [List.mem_range]; omega, by omega⟩

theorem Un.became_length {s : Un} {F : Nat} : ∀ {l : List Int} {r : List Tm}, Un.became s F l = some r → r.length = l.length
  | [], r, h => by simp only [Un.became, Option.some.injEq] at h; subst h; rfl
  | m :: l, r, h => by
    simp only [Un.became] at h
    cases hq : Un.became s F l with
    | none => rw [hq] at h; split at h <;> (rename_i h1; first | (cases h; done) | skip) <;> simp_all
    | some r2 =>
      rw [hq] at h
      split at h
      · rename_i t m2 ht hm
        simp only [Option.some.injEq] at hm h
        subst hm
        rw [← h, List.length_cons, List.length_cons, Un.became_length hq]
      · cases h

theorem Un.became_at {s : Un} {F : Nat} : ∀ {l : List Int} {r : List Tm}, Un.became s F l = some r → ∀ (j : Nat) (n : Int), l[j]? = some n → ∃ t, r[j]? = some t ∧ (s.var n = none → t = Tm.node 1 n []) ∧ (∀ i, s.var n = some i → Un.tree s.nd F F i = some t)
  | [], _, _, j, n, h => by simp at h
  | m :: l, r, h, j, n, hj => by
    simp only [Un.became] at h
    split at h
    · rename_i t m2 ht hm
      simp only [Option.some.injEq] at h
      subst h
      cases j with
      | zero =>
        simp only [List.getElem?_cons_zero, Option.some.injEq] at hj
        subst hj
        refine ⟨t, rfl, fun h0 => ?_, fun i hi => ?_⟩
        · rw [h0] at ht; simp only [Option.some.injEq] at ht; exact ht.symm
        · rw [hi] at ht; exact ht
      | succ j =>
        simp only [List.getElem?_cons_succ] at hj ⊢
        exact Un.became_at hm j n hj
    · cases h

theorem upTo_length (n : Nat) : (upTo (n : Int)).length = n := by simp [upTo]
theorem upTo_at (n j : Nat) (h : j < n) : (upTo (n : Int))[j]? = some (j : Int) := by simp [upTo, h]

set_option maxRecDepth 100000 in
set_option maxHeartbeats 3200000 in
theorem solution_any (w0 : World) (bu bm g cap F : Nat) (s : Un) (w : World) (hF : F ≤ 1000000) (hlen : Lens s.nd) (hU : UnB w0 bu bm g cap s w) (hM : Memo s.nd F s.nd) (top : Int) (ht0 : -1 ≤ top) (ht1 : top ≤ 4000) (hdom : ∀ x i, s.var x = some i → 0 ≤ x ∧ x ≤ top) (L : List Tm) (bb : Bool) (er : Int) (h : Un.solve s F top = some (L, bb, er)) :
    Calls Try.prog 68 #[.pointer (some ⟨bu, 0, none⟩), .int .i64 top] w fun e w' => ∃ v, e = .returned (.tuple #[v, .int .i64 er]) ∧ RowTm w' v L ∧ Turned w w' (fun k => k = g) := by
  obtain ⟨b, hall⟩ : ∃ b, Un.allOk s F (upTo (top + 1)) = some b := by
    unfold Un.solve at h
    cases hq : Un.allOk s F (upTo (top + 1)) with
    | none => rw [hq] at h; cases h
    | some b => exact ⟨b, rfl⟩
  obtain ⟨Fm, hF1, hF2⟩ := hU.hm
  obtain ⟨-, q1, -, q3, q4, -, -⟩ := hU.at0
  obtain ⟨W, left, cnt, hrange, hrg, hleft, tW, hWs⟩ := hF1.range intKeyed (t := 88) (e := 3) (by kernel_rfl)
  have hbm : bm < w.heap.size := hF1.lt
  have HUW := Lib.hid (hU.step tW)
  have TW := Lib.hid tW
  have Hrg := Lib.hid hrg
  have Hall := Lib.hid hall
  have Hh := Lib.hid h
  have Hdom := Lib.hid hdom
  have HF2 := Lib.hid hF2
  have Hlen := Lib.hid hlen
  have HM := Lib.hid hM
  have Hw0 := Lib.hid hU.turned.size
  have hat := fun (x i : Int) (hx : s.var x = some i) => Un.allOk_at hall x (mem_upTo.2 (by have := hdom x i hx; omega)) i hx
  have Hat := Lib.hid hat
  have Hleft := Lib.hid hleft
  have hgl : g < w.heap.size := by obtain ⟨cg, hcg, -⟩ := hU.hn; exact lt_of_block hcg
  clear hF1 hF2 hrg hleft tW hU hall h hdom hM hat hWs
  go_enter Try.func68, Try.ntmps68
  go_wp2
  clear q1 q3 q4 hrange
  go_loopw [7] (fun _ wr => ∃ left cnt nd2, RangV wr 3 bm w.heap.size s.c Fm left cnt ∧ UnB w0 bu bm g cap ⟨nd2, s.var, s.c, s.p⟩ wr ∧ Like s.nd nd2 ∧ Memo s.nd F nd2 ∧ Turned w wr (fun k => k = g) ∧ (∀ x i, s.var x = some i → left (.int .i64 x) = false → ∃ e, Un.ext s.nd F F i = some e ∧ extOk e = true)) (fun _ wr => wr.rangeLeft bm w.heap.size)
  case atStart =>
    refine ⟨left, cnt, s.nd, Hrg.out, HUW.out, Like.refl _, HM.out, TW.out.mono (fun _ _ hf => hf.elim), fun x i hx hl => ?_⟩
    have hd := Hdom.out x i hx
    rw [Hleft.out _ (intLit (by omega) (by omega)), HF2.out x, hx] at hl
    cases hl
  case round =>
    obtain ⟨left2, cnt2, nd2, hrg, hUk, hLk, hMk, htk, hok⟩ := hrel
    rcases hrg.next intKeyed 0 with ⟨h0, hl, hnx⟩ | ⟨key, v, kl, wn, cnt', hkey, hlk, hv, hnx, hrg', hlt, tn, hen⟩
    · generalize wr = wo at *
      have hb : b = true := by
        cases hb : b with
        | true => rfl
        | false =>
          have ha := Hall.out
          rw [hb] at ha
          obtain ⟨x, -, i, e, h1, h2, h3⟩ := Un.allOk_false ha
          obtain ⟨e2, h4, h5⟩ := hok x i h1 (hl _)
          rw [Un.ext_one h2 h4, h5] at h3
          cases h3
      obtain ⟨n, hn⟩ : ∃ n : Nat, top + 1 = n := ⟨(top + 1).toNat, by omega⟩
      have hbec : Un.became s F (upTo (n : Int)) = some L ∧ bb = true ∧ er = 0 := by
        have hh := Hh.out
        unfold Un.solve at hh
        rw [Hall.out, hb] at hh
        simp only at hh
        rw [hn] at hh
        cases hq : Un.became s F (upTo (n : Int)) with
        | none => rw [hq] at hh; cases hh
        | some L2 =>
          rw [hq] at hh
          simp only [Option.some.injEq, Prod.mk.injEq] at hh
          exact ⟨by rw [hh.1], hh.2.1.symm, hh.2.2.symm⟩
      obtain ⟨hbe, rfl, rfl⟩ := hbec
      have hLl : L.length = n := by rw [Un.became_length hbe, upTo_length]
      have hwn : IntKind.i64.wrap (top + 1) = (n : Int) := by rw [hn]; exact IntWalk.i64_in _ (by omega)
      have hnle : n ≤ 1000000 := by omega
      have hmk := run_makeTerms n hnle wo
      obtain ⟨X, hX⟩ : ∃ X, X = wo.alloc (.cells (madeCells #[.int .i64 0, .int .i64 0, .slice none 0 0] (n * 3)) 24) := ⟨_, rfl⟩
      have tX : Turned wo X (fun _ => False) := by rw [hX]; exact (Turned.refl _ _).alloc _
      have hrow0 : RowOf X wo.heap.size (fun g => wo.heap.size + 1 ≤ g) n (fun _ => Tm.zero) := RowOf.made (by rw [hX]; exact heap_alloc_new _ _)
      have HX := Lib.hid hX
      have TX := Lib.hid tX
      have Hrow0 := Lib.hid hrow0
      have HUk := Lib.hid hUk
      have HLk := Lib.hid hLk
      have Htk := Lib.hid htk
      have Hbe := Lib.hid hbe
      have Hn := Lib.hid hn
      have hXs : wo.heap.size + 1 ≤ X.heap.size := by rw [hX]; simp
      clear hrg hMk hok hl Hall Hh Hat hX tX hrow0 hUk hLk htk hbe hn Hrg HM Hleft HUW TW hb
      go_upto_region 7 with fail
      rw [← HX.out]
      go_wp2
      go_loopw [31] (fun i' wr => ∃ k : Nat, k ≤ n ∧ i' = .int .i64 k ∧ RowOf wr wo.heap.size (fun g => wo.heap.size + 1 ≤ g) n (fun j => if j < k then (L[j]?).getD Tm.zero else Tm.zero) ∧ Turned wo wr (fun _ => False)) (fun i' _ => n - (intOf i').toNat)
      case atStart => exact ⟨0, Nat.zero_le _, rfl, Hrow0.out.congr (fun j _ => by simp), TX.out⟩
      case round =>
        obtain ⟨k, hk, rfl, hrow, htq⟩ := hrel
        by_cases hlt : k < n
        · have hki : (k : Int) < (n : Int) := by omega
          have hUq := HUk.out.step htq
          obtain ⟨-, q1, -, q3, q4, -, -⟩ := hUq.at0
          obtain ⟨Fq, hFq1, hFq2⟩ := hUq.hm
          have hlk := hFq1.look_ok (t := 88) (e := 3) intKeyed (by kernel_rfl) (zero_int wr) (intKey (n := (k : Int)) ⟨by omega, by omega⟩)
          rw [hFq2] at hlk
          simp only at hlk
          obtain ⟨t, hLt, hv1, hv2⟩ := Un.became_at Hbe.out k (k : Int) (upTo_at n k hlt)
          have Hput := Lib.hid (fun (wz : World) (tz : Turned wr wz (fun _ => False)) (a0 a1 a2 : Value) (hT : TmS wz (fun g => wo.heap.size + 1 ≤ g) t (.agg #[a0, a1, a2])) => show RowOf (set3 wz wo.heap.size (k * 3) a0 a1 a2) wo.heap.size (fun g => wo.heap.size + 1 ≤ g) n (fun j => if j < k + 1 then (L[j]?).getD Tm.zero else Tm.zero) ∧ Turned wo (set3 wz wo.heap.size (k * 3) a0 a1 a2) (fun _ => False) by
            have hs := set3_turned wz wo.heap.size (k * 3) a0 a1 a2
            refine ⟨((hrow.turned tz (fun hf => hf) (fun _ _ _ hf => hf)).put (by omega) hlt hT).congr (fun j hj => ?_), (htq.trans tz (fun _ _ hf => hf)).trans hs (fun i hi e => by omega)⟩
            by_cases hjk : j = k
            · subst hjk; simp [hLt]
            · by_cases hjl : j < k
              · rw [if_neg hjk, if_pos hjl, if_pos (by omega)]
              · rw [if_neg hjk, if_neg hjl, if_neg (by omega)])
          have Hcells := Lib.hid (fun (wz : World) (tz : Turned wr wz (fun _ => False)) => (hrow.turned tz (fun hf => hf) (fun _ _ _ hf => hf)).cells k hlt)
          have Htq := Lib.hid htq
          have HUq := Lib.hid hUq
          have hzq : wo.heap.size + 1 ≤ wr.heap.size := by obtain ⟨c, hc, -⟩ := hrow; exact lt_of_block hc
          clear hrow htq hUq hFq1 hFq2
          cases hvar : s.var (k : Int) with
          | some i =>
            rw [hvar] at hlk
            simp only [Option.map_some, Option.getD_some, Option.isSome_some] at hlk
            have Hc := Lib.hid (treeU_any w0 bu bm g cap F s.nd Hlen.out F _ i t wr (hv2 i hvar) HUq.out HLk.out)
            clear hv1 hv2 hvar
            go_wp2_with fail
            refine Hc.out.mono ?_
            rintro e w2 ⟨v2, rfl, ht2, t2⟩
            obtain ⟨qa, ca, rfl⟩ := ht2.form
            obtain ⟨z0, z1, z2, m0, m1, m2, m3, m4, m5, m6⟩ := Hcells.out w2 t2
            obtain ⟨n1, n2⟩ := Hput.out w2 t2 _ _ _ (TmS.mono (fun j _ hj => by omega) _ ht2)
            have N1 := Lib.hid n1
            have N2 := Lib.hid n2
            clear n1 n2 t2 ht2 q1 q3 q4 hlk
            unfold set3 at N1 N2
            generalize t.kind = tk at *
            generalize t.num = tn at *
            generalize t.kids.length = tl at *
            go_wp2
            go_roundw
            case rel => exact ⟨k + 1, by omega, by go_num, N1.out, N2.out⟩
            case measure => simp [intOf]; omega
          | none =>
            rw [hvar] at hlk
            simp only [Option.map_none, Option.getD_none, Option.isSome_none] at hlk
            have ht := hv1 hvar
            subst ht
            have Hc := Lib.hid (sigVariable_any (k : Int) wr)
            clear hv1 hv2 hvar
            go_wp2_with fail
            refine Hc.out.mono ?_
            rintro e w2 ⟨v2, rfl, ht2, t2⟩
            obtain ⟨qa, ca, rfl⟩ := ht2.form
            obtain ⟨z0, z1, z2, m0, m1, m2, m3, m4, m5, m6⟩ := Hcells.out w2 t2
            obtain ⟨n1, n2⟩ := Hput.out w2 t2 _ _ _ (show TmS w2 (fun g => wo.heap.size + 1 ≤ g) (Tm.node 1 (k : Int) []) _ from TmS.mono (fun j _ hj => by omega) _ ht2)
            have N1 := Lib.hid n1
            have N2 := Lib.hid n2
            clear n1 n2 t2 ht2 q1 q3 q4 hlk
            unfold set3 at N1 N2
            generalize (Tm.leaf (k : Int)).kind = tk at *
            generalize (Tm.leaf (k : Int)).num = tn at *
            generalize (Tm.leaf (k : Int)).kids.length = tl at *
            go_wp2
            go_roundw
            case rel => exact ⟨k + 1, by omega, by go_num, N1.out, N2.out⟩
            case measure => simp [intOf]; omega
        · obtain rfl : k = n := by omega
          have hrows := (hrow.congr (g' := fun j => (L[j]?).getD Tm.zero) (fun j hj => by simp [hj])).rows
          have hLmap : (List.range k).map (fun j => (L[j]?).getD Tm.zero) = L := by
            refine List.ext_getElem (by simp [hLl]) fun j h1 h2 => ?_
            simp [List.getElem?_eq_getElem h2]
          rw [hLmap] at hrows
          have Hfin := Lib.hid (show ∃ v, Ending.returned (.tuple #[.slice (some ⟨wo.heap.size, 0, none⟩) k k, .int .i64 0]) = .returned (.tuple #[v, .int .i64 0]) ∧ RowTm wr v L ∧ Turned w wr (fun k => k = g) from ⟨_, rfl, ⟨_, k, by rw [hLl], by rw [hLl]; unfold maxLen; omega, hrows⟩, Htk.out.trans (htq.mono (E := fun k => k = g) (fun _ _ hf => hf.elim)) (fun _ _ h => h)⟩)
          clear hrow htq hrows
          go_wp2
          go_ret2
          exact Hfin.out
    · obtain ⟨x, rfl, rfl, hx1, hx2⟩ := intKey_inv hkey
      obtain ⟨i, hi, rfl⟩ : ∃ i, s.var x = some i ∧ v = .int .i64 i := by
        rw [HF2.out x] at hv
        cases hq : s.var x with
        | none => rw [hq] at hv; cases hv
        | some i => rw [hq] at hv; simp only [Option.map_some, Option.some.injEq] at hv; exact ⟨i, rfl, hv.symm⟩
      obtain ⟨e, he, hbt⟩ := Hat.out x i hi
      have hUn := hUk.turnR tn (fun j c T z hj => (hrg.blocks j c T z hj).2) (by omega) Hw0.out
      have Hc := Lib.hid (extent_any w0 bu bm g cap F s.nd Hlen.out F _ i e wn he hF hUn hLk hMk)
      have Hrg := Lib.hid hrg'
      have Tn := Lib.hid (htk.trans tn (fun i hi e => by omega))
      have Hok := Lib.hid hok
      have Hi := Lib.hid hi
      have He := Lib.hid he
      have Hlt := Lib.hid hlt
      have Hrl := Lib.hid hrg.left_eq
      have Hbt := Lib.hid hbt
      clear hrg hUk hLk hMk htk hok hlk hv hrg' tn hkey hi he hUn hlt hbt
      obtain ⟨e1, e2⟩ := e
      go_wp2_with fail
      refine Hc.out.mono ?_
      rintro ee w2 ⟨rfl, nd3, hU3, hL3, hM3, t3⟩
      have H3 := Lib.hid hU3
      have L3 := Lib.hid hL3
      have M3 := Lib.hid hM3
      have hbg : bm ≠ g := fun e => hU3.ne.2.2 e.symm
      have R3 := Lib.hid (Hrg.out.turned t3 hbg (by omega))
      have T3 := Lib.hid (Tn.out.trans t3 (fun _ _ h => h))
      clear hU3 hL3 hM3 t3
      go_wp2_with fail
      refine (extTree_any e1 e2 w2).mono ?_
      rintro ee w4 ⟨rfl, t4⟩
      have H4 := Lib.hid (H3.out.step t4)
      have R4 := Lib.hid (R3.out.turned t4 (fun hf => hf) (fun hf => hf))
      have T4 := Lib.hid (T3.out.trans (t4.mono (E := fun k => k = g) (fun _ _ hf => hf.elim)) (fun _ _ h => h))
      clear t4 H3 R3 T3
      cases hoke : (decide (e1 ≤ 2000) && decide (e2 ≤ 200)) with
      | false =>
        have hb : b = false := by
          cases hb : b with
          | false => rfl
          | true => have := Hbt.out hb; unfold extOk at this; simp only at this; rw [hoke] at this; cases this
        obtain ⟨rfl, rfl, rfl⟩ : L = [] ∧ bb = false ∧ er = 2 := by
          have hh := Hh.out
          unfold Un.solve at hh
          rw [Hall.out, hb] at hh
          simp only [Option.some.injEq, Prod.mk.injEq] at hh
          exact ⟨hh.1.symm, hh.2.1.symm, hh.2.2.symm⟩
        have Hfin := Lib.hid (show ∃ v, Ending.returned (.tuple #[.slice none 0 0, .int .i64 2]) = .returned (.tuple #[v, .int .i64 2]) ∧ RowTm w4 v [] ∧ Turned w w4 (fun k => k = g) from ⟨_, rfl, RowTm.nil _, T4.out⟩)
        clear hb Hh Hall
        go_wp2
        go_ret2
        exact Hfin.out
      | true =>
        have Hex := Lib.hid (show extOk (e1, e2) = true from hoke)
        go_wp2
        go_roundw
        case rel =>
          refine ⟨_, cnt', nd3, R4.out, H4.out, L3.out, M3.out, T4.out, fun x' i' hx' hl' => ?_⟩
          by_cases hxx : x' = x
          · subst hxx
            rw [Hi.out] at hx'
            simp only [Option.some.injEq] at hx'
            subst hx'
            exact ⟨_, He.out, Hex.out⟩
          · refine Hok.out x' i' hx' ?_
            simp only [Lit.sameKey, Bool.and_eq_false_iff] at hl'
            rcases hl' with h | h
            · exact h
            · simp [hxx] at h
        case measure => have h1 := R4.out.left_eq; have h2 := Hrl.out; have h3 := Hlt.out; omega
end Go.Proofs.Ytljnmjehokijgaa

/- Unify. -/
namespace Go.Proofs.Ytljnmjehokijgaa
open Go.RowKit

/-- Nothing is known of extents yet. -/
def Fresh (nd : List Nd) : Prop := ∀ x ∈ nd, x.e1 = 0

theorem Fresh.memo {nd : List Nd} (h : Fresh nd) (F : Nat) (nd2 : List Nd) : Memo nd2 F nd := fun i y hy h0 => by
  have := h y (List.mem_of_getElem? hy)
  omega

theorem Fresh.setB {nd : List Nd} (h : Fresh nd) (a b : Int) : Fresh (Un.setB nd a b) := by
  unfold Un.setB
  cases hx : nd[a.toNat]? with
  | none => exact h
  | some x =>
    intro y hy
    rcases List.mem_or_eq_of_mem_set hy with h1 | h1
    · exact h y h1
    · rw [h1]; exact h x (List.mem_of_getElem? hx)

/-- What stays while nodes are made equal. -/
structure Stays (s s2 : Un) : Prop where
  fresh : Fresh s.nd → Fresh s2.nd
  var : s2.var = s.var
  len : s2.nd.length = s.nd.length
  c : s2.c = s.c

theorem Stays.refl (s : Un) : Stays s s := ⟨fun h => h, rfl, rfl, rfl⟩
theorem Stays.one (s : Un) : Stays s s.one := ⟨fun h => h, rfl, rfl, rfl⟩
theorem Stays.trans {a b c : Un} (h : Stays a b) (k : Stays b c) : Stays a c := ⟨fun x => k.fresh (h.fresh x), k.var.trans h.var, k.len.trans h.len, k.c.trans h.c⟩

theorem Un.setB_length (nd : List Nd) (a b : Int) : (Un.setB nd a b).length = nd.length := by
  unfold Un.setB
  cases nd[a.toNat]? <;> simp

theorem Un.bind_stays {F : Nat} {s s2 : Un} {a b : Int} {r : Bool} (h : Un.bind F s a b = some (s2, r)) : Stays s s2 := by
  obtain ⟨m, c, -, ⟨-, rfl, -⟩ | ⟨-, rfl, -⟩⟩ := Un.bind_at h
  · exact Stays.refl _
  · exact ⟨fun h => h.setB _ _, rfl, Un.setB_length _ _ _, rfl⟩

mutual
theorem Un.equate_stays {F : Nat} : ∀ (f : Nat) (s s2 : Un) (a b : Int) (r : Bool), Un.equate F f s a b = some (s2, r) → Stays s s2
  | 0, _, _, _, _, _, h => by cases h
  | f + 1, s, s2, a, b, r, h => by
    rcases Un.equate_at h with ⟨h2, rfl, rfl⟩ | ⟨h2, i, j, x, y, -, -, hx, hy, hm⟩
    · exact Stays.one _
    · unfold Un.meet at hm
      split at hm
      · simp only [Option.some.injEq, Prod.mk.injEq] at hm
        obtain ⟨rfl, rfl⟩ := hm
        exact Stays.one _
      · split at hm
        · exact (Stays.one s).trans (Un.bind_stays hm)
        · split at hm
          · exact (Stays.one s).trans (Un.bind_stays hm)
          · split at hm
            · simp only [Option.some.injEq, Prod.mk.injEq] at hm
              obtain ⟨rfl, rfl⟩ := hm
              exact Stays.one _
            · exact (Stays.one s).trans (Un.eqs_stays f x.l y.l s.one s2 r hm)
theorem Un.eqs_stays {F : Nat} : ∀ (f : Nat) (l m : List Int) (s s2 : Un) (r : Bool), Un.eqs (Un.equate F f) l m s = some (s2, r) → Stays s s2
  | f, a :: l, b :: m, s, s2, r, h => by
    simp only [Un.eqs] at h
    cases hq : Un.equate F f s a b with
    | none => rw [hq] at h; cases h
    | some X =>
      obtain ⟨s3, r3⟩ := X
      have hb := Un.equate_stays f s s3 a b r3 hq
      rw [hq] at h
      cases r3 with
      | true => exact hb.trans (Un.eqs_stays f l m s3 s2 r h)
      | false =>
        simp only [Option.some.injEq, Prod.mk.injEq] at h
        obtain ⟨rfl, rfl⟩ := h
        exact hb
  | _, [], _, s, s2, r, h => by
    simp only [Un.eqs, Option.some.injEq, Prod.mk.injEq] at h
    obtain ⟨rfl, rfl⟩ := h
    exact Stays.refl _
  | _, _ :: _, [], s, s2, r, h => by
    simp only [Un.eqs, Option.some.injEq, Prod.mk.injEq] at h
    obtain ⟨rfl, rfl⟩ := h
    exact Stays.refl _
end

/-- What planting keeps. -/
def Good (nd : List Nd) : Prop := Fresh nd ∧ Lens nd

theorem Good.push {s : Un} (h : Good s.nd) (k n : Int) (l : List Int) (hl : l.length ≤ 1000000) : Good (s.push k n l).nd := by
  have h2 : (s.push k n l).nd = s.nd ++ [⟨k, n, l, -1, 0, 0⟩] := by unfold Un.push; split <;> rfl
  rw [h2]
  refine ⟨fun x hx => ?_, fun x hx => ?_⟩
  · rcases List.mem_append.1 hx with h3 | h3
    · exact h.1 x h3
    · rw [List.mem_singleton.1 h3]
  · rcases List.mem_append.1 hx with h3 | h3
    · exact h.2 x h3
    · rw [List.mem_singleton.1 h3]; exact hl

mutual
theorem Tm.plant_good : ∀ (t : Tm) (s : Un), Good s.nd → t.size ≤ 1000000 → Good (t.plant s).1.nd ∧ s.nd.length ≤ (t.plant s).1.nd.length ∧ (∀ x, (t.plant s).1.var x ≠ none → s.var x ≠ none ∨ t.vin x ∨ t.right = false)
  | .node k n l, s, hg, hs => by
    have h := Tm.plants_good l s hg (by simp only [Tm.size] at hs; omega)
    simp only [Tm.plant]
    cases s.has k n with
    | some i => exact ⟨hg, Nat.le_refl _, fun x hx => .inl hx⟩
    | none =>
      simp only
      refine ⟨h.1.push _ _ _ ?_, ?_, fun x hx => ?_⟩
      · rw [Tm.plants_length]
        have := Tm.sizes_len l
        simp only [Tm.size] at hs
        omega
      · unfold Un.push
        split <;> (simp only [List.length_append, List.length_cons, List.length_nil]; have := h.2.1; omega)
      · by_cases hr : (Tm.node k n l).right = true
        rotate_left 1
        · right; right
          cases hq : (Tm.node k n l).right with
          | true => exact absurd hq hr
          | false => rfl
        · obtain ⟨h1, h2⟩ := Tm.right_kids hr
          by_cases hk : k = 1
          · have hl : l = [] := h2 hk
            subst hl
            unfold Un.push at hx
            rw [if_pos hk] at hx
            simp only [Tm.plants] at hx
            by_cases hxn : x = n
            · right; left; simp only [Tm.vin, if_pos hk]; exact hxn.symm
            · rw [if_neg hxn] at hx; exact .inl hx
          · unfold Un.push at hx
            rw [if_neg hk] at hx
            simp only at hx
            rcases h.2.2 x hx with h3 | h3 | h3
            · exact .inl h3
            · right; left; simp only [Tm.vin]; rw [if_neg hk]; exact h3
            · rw [h1] at h3; cases h3
theorem Tm.plants_good : ∀ (l : List Tm) (s : Un), Good s.nd → Tm.sizes l ≤ 1000000 → Good (Tm.plants l s).1.nd ∧ s.nd.length ≤ (Tm.plants l s).1.nd.length ∧ (∀ x, (Tm.plants l s).1.var x ≠ none → s.var x ≠ none ∨ Tm.vins x l ∨ Tm.rights l = false)
  | [], s, hg, _ => ⟨hg, Nat.le_refl _, fun x hx => .inl hx⟩
  | t :: l, s, hg, hs => by
    simp only [Tm.sizes] at hs
    have h1 := Tm.plant_good t s hg (by omega)
    have h2 := Tm.plants_good l (t.plant s).1 h1.1 (by omega)
    simp only [Tm.plants]
    refine ⟨h2.1, by omega, fun x hx => ?_⟩
    rcases h2.2.2 x hx with h3 | h3 | h3
    · rcases h1.2.2 x h3 with h4 | h4 | h4
      · exact .inl h4
      · exact .inr (.inl (.inl h4))
      · right; right; simp [Tm.rights, h4]
    · exact .inr (.inl (.inr h3))
    · right; right; simp [Tm.rights, h3]
end

theorem Tm.plant_some (t : Tm) (s : Un) (h : s.var = fun _ => none) : 0 < (t.plant s).1.nd.length := by
  obtain ⟨k, n, l⟩ := t
  have : s.has k n = none := by unfold Un.has; rw [h]; split <;> rfl
  simp only [Tm.plant, this]
  unfold Un.push
  split <;> simp
end Go.Proofs.Ytljnmjehokijgaa
