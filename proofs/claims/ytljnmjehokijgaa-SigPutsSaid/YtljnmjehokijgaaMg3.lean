/- Parts of the proof, one behind the other. -/
import Derived.Deep.CutRange
import Derived.Laws.EntriesVeiled
import Derived.Test.YtljnmjehokijgaaMg2

/- few: trees with not too many nodes. -/
namespace Go.Proofs.Ytljnmjehokijgaa
open Go.RowKit

theorem setCell_block {w : World} {sb i : Nat} {c : Array Value} {t : TypeId} {z : Nat × Nat} (h : w.heap[sb]? = some (.cells c t z)) (u : Value) :
    (w.setCell ⟨sb, i, none⟩ u).heap[sb]? = some (.cells (c.setIfInBounds i u) t z) := by
  simp [World.setCell, Array.getElem?_modify, h]

theorem setCell_one {w : World} {b : Nat} {x u : Value} {t : TypeId} (h : w.heap[b]? = some (.cells #[x] t (0, 0))) : (w.setCell ⟨b, 0, none⟩ u).heap[b]? = some (.cells #[u] t (0, 0)) := setCell_block h u

/-- What the counting function looks at. -/
structure Few (w0 : World) (bl bk : Nat) (left : Int) (w : World) : Prop where
  turned : Turned w0 w (fun _ => False)
  hl : w.heap[bl]? = some (.cells #[.int .i64 left] 3 (0, 0))
  hk : w.heap[bk]? = some (.cells #[.func (.func 36) #[] #[.pointer (some ⟨bl, 0, none⟩), .pointer (some ⟨bk, 0, none⟩)]] 69 (0, 0))
  lo : w0.heap.size ≤ bl
  ne : bl ≠ bk

theorem Few.step {w0 : World} {bl bk : Nat} {left : Int} {w w' : World} (h : Few w0 bl bk left w) (t : Turned w w' (fun _ => False)) : Few w0 bl bk left w' :=
  ⟨h.turned.trans t (fun _ _ hf => hf), (t.block bl (lt_of_block h.hl) (fun hf => hf)).trans h.hl, (t.block bk (lt_of_block h.hk) (fun hf => hf)).trans h.hk, h.lo, h.ne⟩

theorem Few.set {w0 : World} {bl bk : Nat} {left : Int} {w : World} (h : Few w0 bl bk left w) (n : Int) : Few w0 bl bk n (w.setCell ⟨bl, 0, none⟩ (.int .i64 n)) :=
  ⟨h.turned.setCell (p := ⟨bl, 0, none⟩) (fun hlt => by have := h.lo; simp only at hlt; omega) _, setCell_one h.hl,
    (((Turned.refl w (fun k => k = bl)).setCell (p := ⟨bl, 0, none⟩) (fun _ => rfl) (.int .i64 n)).block bk (lt_of_block h.hk) (fun e => h.ne e.symm)).trans h.hk, h.lo, h.ne⟩

theorem Few.cells {w0 : World} {bl bk : Nat} {left : Int} {w : World} (h : Few w0 bl bk left w) : w.cell? ⟨bl, 0, none⟩ = some (.int .i64 left) ∧ w.frozen? ⟨bl, 0, none⟩ = false ∧ bl < w.heap.size ∧
    w.cell? ⟨bk, 0, none⟩ = some (.func (.func 36) #[] #[.pointer (some ⟨bl, 0, none⟩), .pointer (some ⟨bk, 0, none⟩)]) ∧ bk < w.heap.size := by
  refine ⟨?_, ?_, lt_of_block h.hl, ?_, lt_of_block h.hk⟩ <;> simp [World.cell?, World.frozen?, h.hl, h.hk]

theorem run_look (x y : Value) (bl bk : Nat) (w : World) : (callFunc 36 (#[x, y] ++ #[.pointer (some ⟨bl, 0, none⟩), .pointer (some ⟨bk, 0, none⟩)])).run Try.prog w = .ok (.enter 36 (#[x, y] ++ #[.pointer (some ⟨bl, 0, none⟩), .pointer (some ⟨bk, 0, none⟩)])) w := by kernel_rfl

set_option maxRecDepth 100000 in
set_option maxHeartbeats 1600000 in
theorem look_any (w0 : World) (bl bk : Nat) : ∀ (ta : Tm) (va : Value) (w : World) (left deep : Int), TmIn w0 ta va → Few w0 bl bk left w → 0 ≤ left → left ≤ 10000 → 0 ≤ deep → deep ≤ 10000 →
    Calls Try.prog 36 #[va, .int .i64 deep, .pointer (some ⟨bl, 0, none⟩), .pointer (some ⟨bk, 0, none⟩)] w fun e w' => e = .returned (.bool (ta.cnt 1000 left deep).2) ∧ Few w0 bl bk (ta.cnt 1000 left deep).1 w' ∧ Turned w w' (fun k => k = bl) := by
  intro ta
  refine Tm.ind (P := fun ta => ∀ (va : Value) (w : World) (left deep : Int), TmIn w0 ta va → Few w0 bl bk left w → 0 ≤ left → left ≤ 10000 → 0 ≤ deep → deep ≤ 10000 →
    Calls Try.prog 36 #[va, .int .i64 deep, .pointer (some ⟨bl, 0, none⟩), .pointer (some ⟨bk, 0, none⟩)] w fun e w' => e = .returned (.bool (ta.cnt 1000 left deep).2) ∧ Few w0 bl bk (ta.cnt 1000 left deep).1 w' ∧ Turned w w' (fun k => k = bl)) ?_ ta
  clear ta
  intro ka na la ih va w left deep ha hfw hl0 hl1 hd0 hd1
  obtain ⟨aa, ca, rfl, hla, ra⟩ := ha
  have hla2 := hla
  unfold maxLen at hla2
  obtain ⟨W, hW, tW, hC⟩ := box1 w (.int .i64 ka) (.int .i64 na) (.slice aa la.length ca) 24
  have HW := Lib.hid hW
  have Ih := Lib.hid ih
  have HC := Lib.hid hC
  have TW := Lib.hid tW
  have Ra := Lib.hid ra
  have hfW := hfw.step tW
  obtain ⟨q0, q1, q2, q3, q4⟩ := hfW.cells
  have hf1 := hfW.set (left - 1)
  have tf : Turned W (W.setCell ⟨bl, 0, none⟩ (.int .i64 (left - 1))) (fun k => k = bl) := Turned.setCell (D := fun k => k = bl) (Turned.refl W _) (p := ⟨bl, 0, none⟩) (fun _ => rfl) _
  have HF1 := Lib.hid hf1
  have TF := Lib.hid tf
  have hbw : w.heap.size ≠ bl := by
    have := lt_of_block hfw.hl
    omega
  have e0 : IntKind.i64.wrap (left - 1) = left - 1 := IntWalk.i64_in _ (by omega)
  have hB : ∀ V, Turned W V (fun k => k = bl) → V.cell? ⟨w.heap.size, 2, none⟩ = some (.slice aa la.length ca) ∧ w.heap.size < V.heap.size := fun V hV => by
    obtain ⟨-, -, c2, lW⟩ := HC.out W (Turned.refl _ _)
    exact ⟨(hV.cell (p := ⟨w.heap.size, 2, none⟩) lW hbw).trans c2, Nat.lt_of_lt_of_le lW hV.size⟩
  have HB := Lib.hid hB
  have hTw : ∀ V, Turned W V (fun k => k = bl) → Turned w V (fun k => k = bl) := fun V hV => (TW.out.mono (fun _ _ hf => hf.elim)).trans hV (fun _ _ h => h)
  have HTw := Lib.hid hTw
  clear hW ih hC tW ra hfw hfW hf1 tf hB hTw hbw
  go_enter Try.func36, Try.ntmps36
  go_upto_region 1 with fail
  rw [← HW.out]
  go_upto_region 2 with fail
  clear q0 q1 q2 q3 q4 e0
  have hf1 := HF1.out
  have tf := TF.out
  generalize W.setCell ⟨bl, 0, none⟩ (.int .i64 (left - 1)) = V at *
  obtain ⟨q0, q1, q2, q3, q4⟩ := hf1.cells
  obtain ⟨c2, lV⟩ := HB.out V tf
  by_cases g1 : left - 1 < 0
  · have hv : (Tm.node ka na la).cnt 1000 left deep = (left - 1, false) := by simp only [Tm.cnt]; exact if_pos (.inl g1)
    have Hv := Lib.hid hv
    have Hfin := Lib.hid hf1
    have Htf := Lib.hid (HTw.out _ tf)
    clear hv hf1 tf
    go_wp2
    go_ret
    rw [Hv.out]
    exact ⟨rfl, Hfin.out, Htf.out⟩
  by_cases g2 : 1000 < deep
  · have hv : (Tm.node ka na la).cnt 1000 left deep = (left - 1, false) := by simp only [Tm.cnt]; exact if_pos (.inr g2)
    have Hv := Lib.hid hv
    have Hfin := Lib.hid hf1
    have Htf := Lib.hid (HTw.out _ tf)
    clear hv hf1 tf
    go_wp2
    go_ret
    rw [Hv.out]
    exact ⟨rfl, Hfin.out, Htf.out⟩
  have hv : (Tm.node ka na la).cnt 1000 left deep = Tm.cnts 1000 la (left - 1) deep := by simp only [Tm.cnt]; exact if_neg (by omega)
  have Hv := Lib.hid hv
  have Hf1 := Lib.hid hf1
  have Tf := Lib.hid tf
  clear hv hf1 tf
  go_wp2
  clear q0 q1 q2 q3 q4 c2 lV
  go_loopw [20] (fun i wr => ∃ k : Nat, k ≤ la.length ∧ i = .int .i64 k ∧ (Tm.cnts 1000 (la.take k) (left - 1) deep).2 = true ∧ Few w0 bl bk (Tm.cnts 1000 (la.take k) (left - 1) deep).1 wr ∧ Turned W wr (fun k => k = bl)) (fun i _ => la.length - (intOf i).toNat)
  case atStart => exact ⟨0, Nat.zero_le _, rfl, rfl, Hf1.out, Tf.out⟩
  case round =>
    obtain ⟨k, hk, rfl, htk, hfr, ht⟩ := hrel
    have hcl := Tm.cnts_le 1000 (la.take k) (left - 1) deep (by omega)
    have hc0 := hcl.2.2 htk
    have hc1 : (Tm.cnts 1000 (la.take k) (left - 1) deep).1 ≤ 10000 := by omega
    by_cases hlt : k < la.length
    · have hki : (k : Int) < (la.length : Int) := by omega
      obtain ⟨ga, oa, sa, sc, rfl, lga, xa0, xa1, xa2, xat⟩ := tmsIn_at2 Ra.out k hlt
      have lga' : ga < wr.heap.size := Nat.lt_of_lt_of_le lga hfr.turned.size
      have p0 := (hfr.turned.cell (p := ⟨ga, oa + k * 3, none⟩) lga (fun hf => hf)).trans xa0
      have p1 := (hfr.turned.cell (p := ⟨ga, oa + k * 3 + 1, none⟩) lga (fun hf => hf)).trans xa1
      have p2 := (hfr.turned.cell (p := ⟨ga, oa + k * 3 + 2, none⟩) lga (fun hf => hf)).trans xa2
      obtain ⟨U, hU, tU, hCU⟩ := box1 wr (.int .i64 la[k].kind) (.int .i64 la[k].num) (.slice sa la[k].kids.length sc) 24
      obtain ⟨u0, u1, u2, lU⟩ := hCU U (Turned.refl _ _)
      have hfU := hfr.step tU
      obtain ⟨q0, q1, q2, q3, q4⟩ := hfU.cells
      have hsn : Tm.cnts 1000 (la.take (k + 1)) (left - 1) deep = la[k].cnt 1000 (Tm.cnts 1000 (la.take k) (left - 1) deep).1 (deep + 1) := by
        rw [List.take_succ_eq_append_getElem hlt, Tm.cnts_snoc, if_pos htk]
      have hst : (Tm.cnts 1000 (la.take (k + 1)) (left - 1) deep).2 = false → Tm.cnts 1000 la (left - 1) deep = Tm.cnts 1000 (la.take (k + 1)) (left - 1) deep := fun h => by
        have := Tm.cnts_stop 1000 (la.take (k + 1)) (la.drop (k + 1)) (left - 1) deep h
        rwa [List.take_append_drop] at this
      have hcall := Ih.out la[k] (List.getElem_mem hlt) (.agg #[.int .i64 la[k].kind, .int .i64 la[k].num, .slice sa la[k].kids.length sc]) U (Tm.cnts 1000 (la.take k) (left - 1) deep).1 (deep + 1) xat hfU hc0 hc1 (by omega) (by omega)
      rw [← hsn] at hcall
      have hrun := run_look (.agg #[.int .i64 la[k].kind, .int .i64 la[k].num, .slice sa la[k].kids.length sc]) (.int .i64 (deep + 1)) bl bk
      have Hcall := Lib.hid hcall
      have Hst := Lib.hid hst
      have HU := Lib.hid hU
      have Ht := Lib.hid (ht.trans (tU.mono (E := fun k => k = bl) (fun _ _ hf => hf.elim)) (fun _ _ h => h))
      clear hcl htk hc1 hc0 xa0 xa1 xa2 xat ht lga hsn hcall hst hfr hfU hCU tU hU
      generalize hX : Tm.cnts 1000 (la.take (k + 1)) (left - 1) deep = X at *
      have HX := Lib.hid hX
      clear hX
      obtain ⟨xl, xb⟩ := X
      generalize la[k].kind = xk at *
      generalize la[k].num = xn at *
      generalize la[k].kids.length = xm at *
      go_upto_region 7 with fail
      rw [← HU.out]
      go_wp2_with fail
      refine Hcall.out.mono ?_
      rintro e w1 ⟨rfl, hf1, t1⟩
      have T3 := Lib.hid (Ht.out.trans t1 (fun _ _ h => h))
      have F3 := Lib.hid hf1
      clear t1 hf1 p0 p1 p2 q0 q1 q2 q3 q4 u0 u1 u2 lU hrun
      cases xb
      · have hf := Hst.out rfl
        have Hf := Lib.hid hf
        clear hf Hst
        go_wp2
        go_ret
        rw [Hv.out, Hf.out]
        exact ⟨rfl, F3.out, HTw.out _ T3.out⟩
      · go_wp2
        go_roundw
        case rel => exact ⟨k + 1, by omega, by go_num, by rw [HX.out], by rw [HX.out]; exact F3.out, T3.out⟩
        case measure => simp [intOf]; omega
    · obtain rfl : k = la.length := by omega
      rw [List.take_of_length_le (Nat.le_refl _)] at htk hfr
      have Htk := Lib.hid htk
      have Hfr := Lib.hid hfr
      have Ht := Lib.hid ht
      clear hcl htk hc0 hc1 hfr ht
      go_wp2
      go_ret
      rw [Hv.out, Htk.out]
      exact ⟨rfl, Hfr.out, HTw.out _ Ht.out⟩

/-- Trees with not too many nodes. -/
def fewB (l : List Tm) : Bool := (Tm.cnts 1000 l 6000 0).2

set_option maxRecDepth 100000 in
set_option maxHeartbeats 1600000 in
theorem few_any (la : List Tm) (va : Value) (w : World) (ha : RowTm w va la) :
    Calls Try.prog 10 #[va] w fun e w' => e = .returned (.bool (fewB la)) ∧ Turned w w' (fun _ => False) := by
  obtain ⟨aa, ca, rfl, hla, ra⟩ := ha
  have hla2 := hla
  unfold maxLen at hla2
  have Ra := Lib.hid ra
  clear ra
  have hmf : ∀ (fn : Fn) (first cap : Array Value) (w : World), (Instr.makeFunc fn first cap).run Try.prog w = .ok (.func fn first cap) w := fun _ _ _ _ => rfl
  go_enter Try.func10, Try.ntmps10
  obtain ⟨V, hV⟩ : ∃ V, V = (w.alloc (.cells #[.int .i64 6000] 3)).alloc (.cells #[.nilFunc] 69) := ⟨_, rfl⟩
  have tV : Turned w V (fun _ => False) := by rw [hV]; exact ((Turned.refl w _).alloc _).alloc _
  have hz : (w.alloc (.cells #[.int .i64 6000] 3)).heap.size = w.heap.size + 1 := by simp
  have kl : V.heap[w.heap.size]? = some (.cells #[.int .i64 6000] 3 (0, 0)) := by
    rw [hV]
    refine Eq.trans ?_ (heap_alloc_new w (.cells #[.int .i64 6000] 3))
    exact ((Turned.refl (w.alloc (.cells #[.int .i64 6000] 3)) (fun _ => False)).alloc _).block _ (by omega) (fun hf => hf)
  have kk : V.heap[w.heap.size + 1]? = some (.cells #[.nilFunc] 69 (0, 0)) := by
    have h := heap_alloc_new (w.alloc (.cells #[.int .i64 6000] 3)) (.cells #[.nilFunc] 69)
    rw [hz] at h
    rw [hV]
    exact h
  have ck : V.cell? ⟨w.heap.size + 1, 0, none⟩ = some .nilFunc := by simp [World.cell?, kk]
  have fk : V.frozen? ⟨w.heap.size + 1, 0, none⟩ = false := by simp [World.frozen?, kk]
  have lk := lt_of_block kk
  have hF : Few w w.heap.size (w.heap.size + 1) 6000 (V.setCell ⟨w.heap.size + 1, 0, none⟩ (.func (.func 36) #[] #[.pointer (some ⟨w.heap.size, 0, none⟩), .pointer (some ⟨w.heap.size + 1, 0, none⟩)])) :=
    ⟨tV.setCell (p := ⟨w.heap.size + 1, 0, none⟩) (fun hlt => by simp only at hlt; omega) _,
      (Turned.setCell (D := fun k => k = w.heap.size + 1) (Turned.refl V _) (p := ⟨w.heap.size + 1, 0, none⟩) (fun _ => rfl) _).block _ (lt_of_block kl) (by omega) |>.trans kl, setCell_one kk, Nat.le_refl _, by omega⟩
  have HV := Lib.hid hV
  have HF := Lib.hid hF
  clear hV tV hz kl kk hF
  go_upto_region 3 with fail
  rw [← HV.out]
  go_upto_region 4 with fail
  have hf := HF.out
  generalize V.setCell ⟨w.heap.size + 1, 0, none⟩ (.func (.func 36) #[] #[.pointer (some ⟨w.heap.size, 0, none⟩), .pointer (some ⟨w.heap.size + 1, 0, none⟩)]) = U0 at *
  have Hf := Lib.hid hf
  clear hf ck fk lk hmf
  go_wp2
  go_loopw [10] (fun i wr => ∃ k : Nat, k ≤ la.length ∧ i = .int .i64 k ∧ (Tm.cnts 1000 (la.take k) 6000 0).2 = true ∧ Few w w.heap.size (w.heap.size + 1) (Tm.cnts 1000 (la.take k) 6000 0).1 wr) (fun i _ => la.length - (intOf i).toNat)
  case atStart => exact ⟨0, Nat.zero_le _, rfl, rfl, Hf.out⟩
  case round =>
    obtain ⟨k, hk, rfl, htk, hfr⟩ := hrel
    have hcl := Tm.cnts_le 1000 (la.take k) 6000 0 (by omega)
    have hc0 := hcl.2.2 htk
    have hc1 : (Tm.cnts 1000 (la.take k) 6000 0).1 ≤ 10000 := by omega
    by_cases hlt : k < la.length
    · have hki : (k : Int) < (la.length : Int) := by omega
      obtain ⟨ga, oa, sa, sc, rfl, lga, xa0, xa1, xa2, xat⟩ := tmsIn_at2 Ra.out k hlt
      have lga' : ga < wr.heap.size := Nat.lt_of_lt_of_le lga hfr.turned.size
      have p0 := (hfr.turned.cell (p := ⟨ga, oa + k * 3, none⟩) lga (fun hf => hf)).trans xa0
      have p1 := (hfr.turned.cell (p := ⟨ga, oa + k * 3 + 1, none⟩) lga (fun hf => hf)).trans xa1
      have p2 := (hfr.turned.cell (p := ⟨ga, oa + k * 3 + 2, none⟩) lga (fun hf => hf)).trans xa2
      obtain ⟨U, hU, tU, hCU⟩ := box1 wr (.int .i64 la[k].kind) (.int .i64 la[k].num) (.slice sa la[k].kids.length sc) 24
      obtain ⟨u0, u1, u2, lU⟩ := hCU U (Turned.refl _ _)
      have hfU := hfr.step tU
      obtain ⟨q0, q1, q2, q3, q4⟩ := hfU.cells
      have hsn : Tm.cnts 1000 (la.take (k + 1)) 6000 0 = la[k].cnt 1000 (Tm.cnts 1000 (la.take k) 6000 0).1 1 := by
        rw [List.take_succ_eq_append_getElem hlt, Tm.cnts_snoc, if_pos htk]
        rfl
      have hst : (Tm.cnts 1000 (la.take (k + 1)) 6000 0).2 = false → fewB la = false := fun h => by
        have := Tm.cnts_stop 1000 (la.take (k + 1)) (la.drop (k + 1)) 6000 0 h
        rw [List.take_append_drop] at this
        unfold fewB
        rw [this, h]
      have hcall := look_any w w.heap.size (w.heap.size + 1) la[k] (.agg #[.int .i64 la[k].kind, .int .i64 la[k].num, .slice sa la[k].kids.length sc]) U (Tm.cnts 1000 (la.take k) 6000 0).1 1 xat hfU hc0 hc1 (by omega) (by omega)
      rw [← hsn] at hcall
      have hrun := run_look (.agg #[.int .i64 la[k].kind, .int .i64 la[k].num, .slice sa la[k].kids.length sc]) (.int .i64 1) w.heap.size (w.heap.size + 1)
      have Hcall := Lib.hid hcall
      have Hst := Lib.hid hst
      have HU := Lib.hid hU
      clear hcl htk hc1 hc0 xa0 xa1 xa2 xat lga hsn hcall hst hfr hfU hCU tU hU
      generalize hX : Tm.cnts 1000 (la.take (k + 1)) 6000 0 = X at *
      have HX := Lib.hid hX
      clear hX
      obtain ⟨xl, xb⟩ := X
      generalize la[k].kind = xk at *
      generalize la[k].num = xn at *
      generalize la[k].kids.length = xm at *
      go_upto_region 7 with fail
      rw [← HU.out]
      go_wp2_with fail
      refine Hcall.out.mono ?_
      rintro e w1 ⟨rfl, hf1, t1⟩
      have F3 := Lib.hid hf1
      clear t1 hf1 p0 p1 p2 q0 q1 q2 q3 q4 u0 u1 u2 lU hrun
      cases xb
      · have hf := Hst.out rfl
        have Hf := Lib.hid hf
        clear hf Hst
        go_wp2
        go_ret
        rw [Hf.out]
        exact ⟨rfl, F3.out.turned⟩
      · go_wp2
        go_roundw
        case rel => exact ⟨k + 1, by omega, by go_num, by rw [HX.out], by rw [HX.out]; exact F3.out⟩
        case measure => simp [intOf]; omega
    · obtain rfl : k = la.length := by omega
      rw [List.take_of_length_le (Nat.le_refl _)] at htk hfr
      have hv : fewB la = true := htk
      have Hv := Lib.hid hv
      have Hfr := Lib.hid hfr
      clear hcl htk hc0 hc1 hfr hv
      go_wp2
      go_ret
      rw [Hv.out]
      exact ⟨rfl, Hfr.out.turned⟩
end Go.Proofs.Ytljnmjehokijgaa
