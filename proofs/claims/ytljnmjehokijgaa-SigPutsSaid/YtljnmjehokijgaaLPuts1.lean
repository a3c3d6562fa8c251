/- Parts of the proof, one behind the other. -/
import Derived.Test.YtljnmjehokijgaaMg16

/- At: what stands at a place. -/
namespace Go.Proofs.Ytljnmjehokijgaa
open Go.RowKit

/-- What stands at a place of a tree. -/
def Tm.atP : Tm → List Int → Option Tm
  | t, [] => some t
  | t, i :: p => if belowB t.kids.length i = true then (match t.kids[i.toNat]? with | some x => x.atP p | none => none) else none

def Tm.atT (t : Tm) (p : List Int) : Tm × Int := if t.isTree = true then (match t.atP p with | some x => (x, 0) | none => (Tm.zero, 41)) else (Tm.zero, 4)

theorem Tm.atP_step {t : Tm} {p : List Int} {k : Nat} (hk : k < p.length) : t.atP (p.drop k) = if belowB t.kids.length p[k] = true then (match t.kids[p[k].toNat]? with | some x => x.atP (p.drop (k + 1)) | none => none) else none := by
  rw [List.drop_eq_getElem_cons hk]
  rfl

theorem Tm.kid_size {t x : Tm} {i : Nat} (h : t.kids[i]? = some x) : x.size ≤ t.size := by
  obtain ⟨k, n, l⟩ := t
  have := Tm.sizes_mem (List.mem_of_getElem? h)
  simp only [Tm.kids] at this
  simp only [Tm.size]
  omega

theorem Tm.kid_right {t x : Tm} {i : Nat} (hr : t.right = true) (h : t.kids[i]? = some x) : x.right = true := by
  obtain ⟨k, n, l⟩ := t
  exact Tm.rights_mem (Tm.right_kids hr).1 (List.mem_of_getElem? h)

set_option maxRecDepth 100000 in
set_option maxHeartbeats 1600000 in
theorem sigAt_any (t : Tm) (v : Value) (p : List Int) (vp : Value) (w : World) (ha : TmIn w t v) (hp : RowI w vp p) :
    Calls Try.prog 16 #[v, vp] w (NewTe w (t.atT p)) := by
  obtain ⟨aa, ca, rfl, hla, -⟩ := ha.form
  have hp0 := hp
  obtain ⟨ap, cp, rfl, hlp, -⟩ := hp0
  have hlp2 := hlp
  unfold maxLen at hlp2
  obtain ⟨W, hW, tW, hC⟩ := box2 w (.int .i64 t.kind) (.int .i64 t.num) (.slice aa t.kids.length ca) (.int .i64 0) (.int .i64 0) (.slice none 0 0) 24 24
  have k1 : W.heap[w.heap.size]? = some (.cells #[.int .i64 t.kind, .int .i64 t.num, .slice aa t.kids.length ca] 24 (0, 0)) := by
    rw [hW]
    exact alloc_keep (heap_alloc_new _ _)
  have k2 : W.heap[w.heap.size + 1]? = some (.cells #[.int .i64 0, .int .i64 0, .slice none 0 0] 24 (0, 0)) := by
    rw [hW]
    exact alloc_at (by simp)
  have hT := tree_any t _ W (TmIn.turned tW _ ha)
  have hE : t.treeE = if t.isTree = true then 0 else 4 := rfl
  obtain ⟨c0, c1, c2, d0, d1, d2, lW⟩ := hC W (Turned.refl _ _)
  by_cases ht : t.isTree = true
  rotate_left 1
  · have hv : t.atT p = (Tm.zero, 4) := by unfold Tm.atT; rw [if_neg ht]
    rw [if_neg ht] at hE
    rw [hv]
    rw [hE] at hT
    have HT := Lib.hid hT
    have HW := Lib.hid hW
    have TW := Lib.hid tW
    have K2 := Lib.hid k2
    clear hv hE ht hT hW tW hC k1 k2 ha hp
    generalize t.kind = xk at *
    generalize t.num = xn at *
    generalize t.kids.length = xl at *
    go_enter Try.func16, Try.ntmps16
    go_upto_region 1 with fail
    rw [← HW.out]
    go_wp2_with fail
    refine HT.out.mono ?_
    rintro e w1 ⟨rfl, t1⟩
    have k31 := turn_keep t1 K2.out
    obtain ⟨e0, e1, e2, f0, f1, f2, l4⟩ := box3 k31
    obtain ⟨hfin, g1⟩ := newTe_zero k31 (TW.out.trans t1 (fun _ _ hf => hf)) (show w.heap.size ≤ w.heap.size + 1 by omega) 4
    have Hfin := Lib.hid hfin
    have G1 := Lib.hid g1
    clear hfin g1 k31 t1
    go_wp2
    exact bodyPost_ret (v := .tuple #[.agg #[.int .i64 0, .int .i64 0, .slice none 0 0], .int .i64 4]) (results_term_err rfl G1.out rfl rfl) rfl Hfin.out
  rw [if_pos ht] at hE
  rw [hE] at hT
  have hr := ((Tm.isTree_iff t).1 ht).2.2
  have hsz : t.size ≤ 1000000 := by have := ((Tm.isTree_iff t).1 ht).1; omega
  have hv1 : ∀ x, t.atP p = some x → t.atT p = (x, 0) := fun x h => by unfold Tm.atT; rw [if_pos ht, h]
  have hv2 : t.atP p = none → t.atT p = (Tm.zero, 41) := fun h => by unfold Tm.atT; rw [if_pos ht, h]
  have HS0 := Lib.hid (TmS.turned (S' := (· < w.heap.size)) tW (fun _ _ _ hf => hf) (fun _ _ h => h) _ (TmIn.toS _ ha))
  have Hv1 := Lib.hid hv1
  have Hv2 := Lib.hid hv2
  have HT := Lib.hid hT
  have HW := Lib.hid hW
  have TW := Lib.hid tW
  have K1 := Lib.hid k1
  have K2 := Lib.hid k2
  have Hp := Lib.hid hp
  have Hr := Lib.hid hr
  have Hsz := Lib.hid hsz
  have hlW : w.heap.size + 1 < W.heap.size := lW
  clear hE ht hT hW tW hC k1 k2 ha hp hr hsz hv1 hv2
  generalize hk0 : t.kind = xk at *
  generalize hk1 : t.num = xn at *
  generalize hk2 : t.kids.length = xl at *
  have Hk := Lib.hid (And.intro hk0 (And.intro hk1 hk2))
  clear hk0 hk1 hk2
  go_enter Try.func16, Try.ntmps16
  go_upto_region 1 with fail
  rw [← HW.out]
  go_wp2_with fail
  refine HT.out.mono ?_
  rintro e w1 ⟨rfl, t1⟩
  have k11 := turn_keep t1 K1.out
  have k21 := turn_keep t1 K2.out
  have HS1 := Lib.hid (TmS.turned (S' := (· < w.heap.size)) t1 (fun _ _ _ hf => hf) (fun _ _ h => h) _ HS0.out)
  have T1 := Lib.hid (TW.out.trans t1 (fun _ _ hf => hf))
  have K11 := Lib.hid k11
  have K21 := Lib.hid k21
  have hl1 : w.heap.size + 1 < w1.heap.size := lt_of_block k21
  clear t1 k11 k21 c0 c1 c2 d0 d1 d2 lW HS0
  go_wp2_with fail
  go_loopw [14] (fun i wr => ∃ (k : Nat) (x : Tm) (q : Option Addr) (c : Nat), k ≤ p.length ∧ i = .int .i64 k ∧ t.atP p = x.atP (p.drop k) ∧ x.right = true ∧ x.size ≤ 1000000 ∧ wr.heap[w.heap.size]? = some (.cells #[.int .i64 x.kind, .int .i64 x.num, .slice q x.kids.length c] 24 (0, 0)) ∧
    TmS wr (· < w.heap.size) x (.agg #[.int .i64 x.kind, .int .i64 x.num, .slice q x.kids.length c]) ∧ Turned w1 wr (fun j => j = w.heap.size)) (fun i _ => p.length - (intOf i).toNat)
  case atStart =>
    obtain ⟨rfl, rfl, rfl⟩ := Hk.out
    exact ⟨0, t, aa, ca, Nat.zero_le _, rfl, rfl, Hr.out, Hsz.out, K11.out, HS1.out, Turned.refl _ _⟩
  case round =>
    obtain ⟨k, x, q, c, hk, rfl, heq, hxr, hxs, hbx, hxS, hwr⟩ := hrel
    obtain ⟨e0, e1, e2, f0, f1, f2, lB⟩ := box3 hbx
    have hz := (hwr.block _ hl1 (fun e => by omega)).trans K21.out
    obtain ⟨z0, z1, z2, y0, y1, y2, lZ⟩ := box3 hz
    have hwW : Turned w wr (fun _ => False) := T1.out.trans hwr (fun i hi e => by omega)
    by_cases hlt : k < p.length
    · have hki : (k : Int) < (p.length : Int) := by omega
      obtain ⟨gp, op, rfl, lgp, hcp⟩ := (Hp.out.turned hwW).at k hlt
      rw [Tm.atP_step hlt] at heq
      generalize p[k] = i0 at *
      have Hbl := Lib.hid (isBelow_any i0 x.kids.length wr)
      cases hb : belowB x.kids.length i0 with
      | false =>
        rw [hb] at Hbl heq
        have hv := Hv2.out (by simpa using heq)
        obtain ⟨hfin, g1⟩ := newTe_zero hz hwW (show w.heap.size ≤ w.heap.size + 1 by omega) 41
        rw [← hv] at hfin
        have Hfin := Lib.hid hfin
        have G1 := Lib.hid g1
        clear hfin g1 hv heq hb hxS hbx hz hwr hwW hxr hxs
        generalize x.kind = yk at *
        generalize x.num = yn at *
        generalize x.kids.length = ym at *
        go_wp2_with fail
        refine Hbl.out.mono ?_
        rintro e w2 ⟨rfl, rfl⟩
        go_wp2
        exact bodyPost_ret (v := .tuple #[.agg #[.int .i64 0, .int .i64 0, .slice none 0 0], .int .i64 41]) (results_term_err rfl G1.out rfl rfl) rfl Hfin.out
      | true =>
        rw [hb] at Hbl heq
        have hb2 : 0 ≤ i0 ∧ i0 < x.kids.length := by simpa [belowB] using hb
        obtain ⟨m, rfl⟩ : ∃ m : Nat, i0 = m := ⟨i0.toNat, by omega⟩
        have hm : m < x.kids.length := by omega
        have hmi : (m : Int) < (x.kids.length : Int) := by omega
        have hkid : x.kids[m]? = some x.kids[m] := List.getElem?_eq_getElem hm
        have hT2 : TmsS wr (· < w.heap.size) x.kids q := by
          obtain ⟨kk, nn, ll⟩ := x
          obtain ⟨a', cap', hv', -, hr'⟩ := hxS
          simp only [Tm.kind, Tm.num, Tm.kids] at hv' ⊢
          injection hv' with hv'
          simp only [Array.mk.injEq, List.cons.injEq, and_true, true_and] at hv'
          injection hv' with e1 e2 e3
          rw [e1]
          exact hr'
        obtain ⟨gy, oy, sy, cy, rfl, lgy, y0', y1', y2', hyS⟩ := tmsS_at2 hT2 m hm
        have hgyB : gy < w.heap.size := by
          obtain ⟨t0, l0, hl0⟩ := List.exists_cons_of_ne_nil (List.ne_nil_of_length_pos (show 0 < x.kids.length by omega))
          rw [hl0] at hT2
          obtain ⟨g9, o9, -, -, -, e9, -, h9, -⟩ := hT2
          injection e9 with e9
          injection e9 with e9
          rw [e9]
          exact h9
        simp only [if_true, Int.toNat_natCast, hkid] at heq
        have hyr := Tm.kid_right hxr hkid
        have hys := Nat.le_trans (Tm.kid_size hkid) hxs
        generalize x.kids[m] = y at *
        obtain ⟨g1, g2⟩ := store3 hbx (.int .i64 y.kind) (.int .i64 y.num) (.slice sy y.kids.length cy)
        have HG1 := Lib.hid g1
        have HG2 := Lib.hid (hwr.trans g2 (fun _ _ h => h))
        have HG3 := Lib.hid (TmS.turned (S' := (· < w.heap.size)) g2 (fun j _ hj e => by omega) (fun _ _ h => h) _ hyS)
        have Heq := Lib.hid heq
        clear g1 g2 heq hb hb2 hxS hT2 hyS hbx hz hwr hwW hxr hxs hkid
        generalize hyk : y.kind = yk at *
        generalize hyn : y.num = yn at *
        generalize hym : y.kids.length = ym at *
        have Hy := Lib.hid (And.intro hyk (And.intro hyn hym))
        clear hyk hyn hym
        generalize x.kind = xk2 at *
        generalize x.num = xn2 at *
        generalize x.kids.length = xm2 at *
        go_wp2_with fail
        refine Hbl.out.mono ?_
        rintro e w2 ⟨rfl, rfl⟩
        go_wp2
        go_roundw
        case rel =>
          obtain ⟨rfl, rfl, rfl⟩ := Hy.out
          exact ⟨k + 1, y, sy, cy, by omega, by go_num, Heq.out, hyr, hys, HG1.out, HG3.out, HG2.out⟩
        case measure => simp [intOf]; omega
    · obtain rfl : k = p.length := by omega
      rw [List.drop_length] at heq
      have hv := Hv1.out x heq
      have Hcop := Lib.hid (copied_any x _ wr (TmS.toIn _ hxS) hxr hxs)
      have Hz := Lib.hid hz
      have HwW := Lib.hid hwW
      have Hv := Lib.hid hv
      have hBr : w.heap.size + 1 < wr.heap.size := lt_of_block hz
      clear hv heq hxS hbx hz hwr hwW hxr hxs y0 y1 y2 lZ
      generalize hyk : x.kind = yk at *
      generalize hyn : x.num = yn at *
      generalize hym : x.kids.length = ym at *
      have Hy := Lib.hid (And.intro hyk (And.intro hyn hym))
      clear hyk hyn hym
      go_wp2_with fail
      refine Hcop.out.mono ?_
      rintro e w3 ⟨v3, rfl, hv3, t3⟩
      obtain ⟨p3, cp3, rfl⟩ := hv3.form
      have k33 := turn_keep t3 Hz.out
      obtain ⟨e0, e1, e2, f0, f1, f2, l4⟩ := box3 k33
      obtain ⟨hfin, g1⟩ := newTe_put (w := w) (er := 0) hv3 k33 (HwW.out.trans t3 (fun _ _ hf => hf)) (show w.heap.size ≤ w.heap.size + 1 by omega) (by omega) (by omega)
      rw [← Hv.out] at hfin
      have Hfin := Lib.hid hfin
      have G1 := Lib.hid g1
      clear hfin g1 k33 hv3 t3 Hy
      generalize x.kind = xk3 at *
      generalize x.num = xn3 at *
      generalize x.kids.length = xm3 at *
      go_wp2
      exact bodyPost_ret (v := .tuple #[.agg #[.int .i64 xk3, .int .i64 xn3, .slice p3 xm3 cp3], .int .i64 0]) (results_term_err rfl G1.out rfl rfl) rfl Hfin.out
end Go.Proofs.Ytljnmjehokijgaa

/- A tree with another one at a place: the mirror, and paths in memory. -/
namespace Go.Proofs.Ytljnmjehokijgaa
open Go.RowKit

mutual
/-- A tree with u at a place that it has. -/
def Tm.putP (u : Tm) : Tm → List Int → Tm
  | .node _ _ _, [] => u
  | .node k n l, i :: p => .node k n (Tm.putPs u l i p)
def Tm.putPs (u : Tm) : List Tm → Int → List Int → List Tm
  | [], _, _ => []
  | t :: l, i, p => (if i = 0 then Tm.putP u t p else t) :: Tm.putPs u l (i - 1) p
end

theorem Tm.putPs_len (u : Tm) : ∀ (l : List Tm) (i : Int) (p : List Int), (Tm.putPs u l i p).length = l.length
  | [], _, _ => by simp only [Tm.putPs]
  | t :: l, i, p => by simp only [Tm.putPs, List.length_cons, Tm.putPs_len u l (i - 1) p]

theorem Tm.putPs_take (u : Tm) : ∀ (l : List Tm) (i : Int) (p : List Int) (k : Nat) (h : k < l.length), Tm.putPs u (l.take (k + 1)) i p = Tm.putPs u (l.take k) i p ++ [if (k : Int) = i then Tm.putP u l[k] p else l[k]]
  | t :: l, i, p, 0, _ => by
    simp only [List.take_succ_cons, List.take_zero, Tm.putPs, List.nil_append, List.getElem_cons_zero, Int.natCast_zero]
    by_cases h : i = 0
    · rw [if_pos h, if_pos h.symm]
    · rw [if_neg h, if_neg (fun e => h e.symm)]
  | t :: l, i, p, k + 1, h => by
    have h2 : k < l.length := by simpa using h
    simp only [List.take_succ_cons, Tm.putPs, List.cons_append, List.getElem_cons_succ]
    rw [Tm.putPs_take u l (i - 1) p k h2]
    congr 3
    by_cases e : (k : Int) = i - 1
    · rw [if_pos e, if_pos (by omega)]
    · rw [if_neg e, if_neg (by omega)]

/-- A path lies in memory; its row has its room. -/
def RowC (w : World) (v : Value) (l : List Int) : Prop := RowI w v l ∧ ∀ a n c, v = .slice a n c → n ≤ c

theorem RowC.turned {w w' : World} {v : Value} {l : List Int} (h : RowC w v l) (t : Turned w w' (fun _ => False)) : RowC w' v l := ⟨h.1.turned t, h.2⟩

theorem RowB.rowC {w : World} {v : Value} {l : List Int} (h : RowB w v l) : RowC w v l := ⟨h.row, fun a n c e => by
  obtain ⟨a', c', hv, h1, -⟩ := h
  rw [e] at hv
  injection hv with e1 e2 e3
  omega⟩

/-- The path behind its first step. -/
theorem RowC.tail {w : World} {g off n c : Nat} {i : Int} {p : List Int} (h : RowC w (.slice (some ⟨g, off, none⟩) n c) (i :: p)) :
    RowC w (.slice (if c = 1 then some ⟨g, off, none⟩ else some ⟨g, off + 1, none⟩) p.length (c - 1)) p := by
  obtain ⟨⟨a', c', hv, hln, hx⟩, hc⟩ := h
  injection hv with e1 e2 e3
  subst e1; subst e2; subst e3
  have hcc := hc _ _ _ rfl
  obtain ⟨g', off', e, hg, hcell⟩ := hx (by simp)
  injection e with e
  injection e with e1 e2 e3
  subst e1; subst e2
  refine ⟨⟨_, c - 1, rfl, ?_, fun hne => ?_⟩, fun a n c' e => ?_⟩
  · simp only [List.length_cons] at hln; omega
  · have hp : 0 < p.length := List.length_pos_iff.2 hne
    simp only [List.length_cons] at hcc
    refine ⟨g, off + 1, by rw [if_neg (by omega)], hg, fun j x hj => ?_⟩
    have := hcell (j + 1) x (by simpa using hj)
    rw [show off + 1 + j = off + (j + 1) by omega]
    exact this
  · injection e with e1 e2 e3
    simp only [List.length_cons] at hcc
    omega

theorem Tm.putP_nil (u : Tm) (k n : Int) (l : List Tm) : Tm.putP u (Tm.node k n l) [] = u := by first | rfl | (simp only [Tm.putP]; done) | (rw [Tm.putP.eq_def])
theorem Tm.putP_cons (u : Tm) (k n : Int) (l : List Tm) (i : Int) (p : List Int) : Tm.putP u (Tm.node k n l) (i :: p) = .node k n (Tm.putPs u l i p) := by first | rfl | (simp only [Tm.putP]; done) | (rw [Tm.putP.eq_def])
end Go.Proofs.Ytljnmjehokijgaa

/- replaced: a tree with another one at a place. -/
namespace Go.Proofs.Ytljnmjehokijgaa
open Go.RowKit

set_option maxRecDepth 100000 in
set_option maxHeartbeats 3200000 in
theorem replaced_any (w0 : World) (u : Tm) (vu : Value) (hu : TmIn w0 u vu) (hur : u.right = true) (hus : u.size ≤ 1000000) : ∀ (ta : Tm) (va : Value) (pp : List Int) (vp : Value) (w : World), TmIn w0 ta va → RowC w0 vp pp → Turned w0 w (fun _ => False) → ta.right = true → ta.size ≤ 1000000 →
    Calls Try.prog 48 #[va, vp, vu] w (TmPost NoR w (Tm.putP u ta pp)) := by
  intro ta
  refine Tm.ind (P := fun ta => ∀ (va : Value) (pp : List Int) (vp : Value) (w : World), TmIn w0 ta va → RowC w0 vp pp → Turned w0 w (fun _ => False) → ta.right = true → ta.size ≤ 1000000 →
    Calls Try.prog 48 #[va, vp, vu] w (TmPost NoR w (Tm.putP u ta pp))) ?_ ta
  clear ta
  intro ka na la ih va pp vp w ha hp h0 hr hsz
  obtain ⟨aa, ca, rfl, hla, ra⟩ := ha
  obtain ⟨pu, cu, rfl, -⟩ := hu.form
  have hp0 := hp
  obtain ⟨⟨ap, cp, rfl, hlp, -⟩, -⟩ := hp0
  have hla2 := hla
  unfold maxLen at hla2
  have hlp2 := hlp
  unfold maxLen at hlp2
  obtain ⟨W, hW⟩ : ∃ W, W = ((w.alloc (.cells #[.int .i64 ka, .int .i64 na, .slice aa la.length ca] 24)).alloc (.cells #[.int .i64 u.kind, .int .i64 u.num, .slice pu u.kids.length cu] 24)).alloc (.cells #[.int .i64 0, .int .i64 0, .slice none 0 0] 24) := ⟨_, rfl⟩
  obtain ⟨k0, k1, k4, tW, hWs⟩ := alloc3 hW
  have k4' : W.heap[w.heap.size + 1 + 1]? = some (.cells #[.int .i64 0, .int .i64 0, .slice none 0 0] 24 (0, 0)) := k4
  obtain ⟨a0, a1, a2, -, -, -, la0⟩ := box3 k0
  obtain ⟨b0, b1, b2, -, -, -, lb0⟩ := box3 k1
  obtain ⟨z0, z1, z2, y0, y1, y2, lz0⟩ := box3 k4'
  have Hu := Lib.hid (fun V (hV : Turned w V (fun _ => False)) => TmIn.turned (h0.trans hV (fun _ _ hf => hf)) _ hu)
  cases pp with
  | nil =>
    have hv : Tm.putP u (Tm.node ka na la) [] = u := Tm.putP_nil u ka na la
    rw [hv]
    have Hcop := Lib.hid (copied_any u _ W (Hu.out W tW) hur hus)
    have HW := Lib.hid hW
    have TW := Lib.hid tW
    have K4 := Lib.hid k4'
    clear hv hW tW k0 k1 k4 k4' hu hur hp h0 ih ra hr hus hsz
    have hWs2 : w.heap.size + 1 + 1 < W.heap.size := lz0
    generalize hyk : u.kind = yk at *
    generalize hyn : u.num = yn at *
    generalize hym : u.kids.length = ym at *
    go_enter Try.func48, Try.ntmps48
    go_upto_region 1 with fail
    rw [← HW.out]
    go_wp2_with fail
    refine Hcop.out.mono ?_
    rintro e w2 ⟨v, rfl, hv, t2⟩
    obtain ⟨p, cp2, rfl⟩ := hv.form
    rw [hyk, hyn, hym] at hv
    rw [hyk, hyn, hym]
    have k42 := turn_keep t2 K4.out
    obtain ⟨e0, e1, e2, f0, f1, f2, l4⟩ := box3 k42
    obtain ⟨g1, g2⟩ := store3 k42 (.int .i64 yk) (.int .i64 yn) (.slice p ym cp2)
    have Hfin := Lib.hid (show TmPost NoR w u (.returned (.agg #[.int .i64 yk, .int .i64 yn, .slice p ym cp2])) _ from
      ⟨_, rfl, TmS.turned g2 (fun j _ hj e => by omega) (fun j _ hj => .inr (by have := TW.out.size; omega)) _ hv, (TW.out.trans t2 (fun _ _ hf => hf)).trans g2 (fun i hi e => by omega)⟩)
    have G1 := Lib.hid g1
    clear g1 g2 hv t2 k42 a0 a1 a2 b0 b1 b2 z0 z1 z2 y0 y1 y2
    go_wp2
    exact bodyPost_ret (results_term rfl G1.out rfl) rfl Hfin.out
  | cons i0 p =>
    obtain ⟨gp, op, rfl, lgp, hc0⟩ := (hp.1.turned h0).at 0 (by simp)
    have hpt := RowC.tail hp
    have hle1 : (1 : Int) ≤ (p.length : Int) + 1 := by omega
    have hv : Tm.putP u (Tm.node ka na la) (i0 :: p) = .node ka na (Tm.putPs u la i0 p) := Tm.putP_cons u ka na la i0 p
    rw [hv]
    obtain ⟨V, hV, tV, hCV⟩ := box1 W (.int .i64 ka) (.int .i64 na) (.slice none 0 0) 24
    have k5 : V.heap[w.heap.size + 1 + 1 + 1]? = some (.cells #[.int .i64 ka, .int .i64 na, .slice none 0 0] 24 (0, 0)) := by
      have := heap_alloc_new W (.cells #[.int .i64 ka, .int .i64 na, .slice none 0 0] 24)
      rw [hWs] at this
      rw [hV]
      exact this
    have hVs : V.heap.size = w.heap.size + 4 := by rw [hV]; simp; omega
    have tWV := tW.trans tV (fun _ _ hf => hf)
    have hss : Tm.sizes la ≤ 1000000 := by simp only [Tm.size] at hsz; omega
    have hlen : la.length ≤ 1000000 := Nat.le_trans (Tm.sizes_len la) hss
    have Hrt := Lib.hid (fun (t : Tm) (ht : t ∈ la) => Tm.rights_mem (Tm.right_kids hr).1 ht)
    have HW := Lib.hid hW
    have HV := Lib.hid hV
    have K4 := Lib.hid (turn_keep tV k4')
    have K0 := Lib.hid (turn_keep tV k1)
    have K5 := Lib.hid k5
    have TW := Lib.hid tWV
    have Ih := Lib.hid ih
    have Ra := Lib.hid ra
    have H0 := Lib.hid h0
    have Hpt := Lib.hid hpt
    have Hc0 := Lib.hid (show w.cell? ⟨gp, op, none⟩ = some (.int .i64 i0) by simpa using hc0)
    have a2V0 : V.cell? ⟨w.heap.size, 2, none⟩ = some (.slice aa la.length ca) := by
      have := turn_keep tV k0
      simp [World.cell?, this]
    clear hW hV k0 k1 k4 k4' k5 tW tV hCV ih ra h0 hv hr hsz hu hur hus hp hpt hc0 tWV b0 b1 b2 z0 z1 z2 y0 y1 y2
    generalize u.kind = uk at *
    generalize u.num = un at *
    generalize u.kids.length = um at *
    go_enter Try.func48, Try.ntmps48
    go_upto_region 1 with fail
    rw [← HW.out]
    go_upto_region 4 with fail
    rw [← HV.out]
    have a2V := a2V0
    have laV : w.heap.size < V.heap.size := by omega
    clear a0 a1 a2 la0 lb0 lz0
    go_wp2
    clear a2V laV
    go_loopw [23] (fun i wr => ∃ (k : Nat) (v : Value), k ≤ la.length ∧ i = .int .i64 k ∧ OwnTT wr (w.heap.size + 4) (fun g => NoR g ∨ w.heap.size + 4 ≤ g) v (Tm.putPs u (la.take k) i0 p) ∧
        wr.heap[w.heap.size + 1 + 1 + 1]? = some (.cells #[.int .i64 ka, .int .i64 na, v] 24 (0, 0)) ∧ wr.heap[w.heap.size + 1 + 1]? = some (.cells #[.int .i64 0, .int .i64 0, .slice none 0 0] 24 (0, 0)) ∧
        wr.heap[w.heap.size + 1]? = some (.cells #[.int .i64 uk, .int .i64 un, .slice pu um cu] 24 (0, 0)) ∧ Turned w wr (fun _ => False)) (fun i _ => la.length - (intOf i).toNat)
    case atStart => exact ⟨0, _, Nat.zero_le _, rfl, by simp only [List.take_zero, Tm.putPs]; exact OwnT.nil _ _ _, K5.out, K4.out, K0.out, TW.out⟩
    case round =>
      obtain ⟨k, v, hk, rfl, hor, k5, k4, k0, ht⟩ := hrel
      by_cases hlt : k < la.length
      · have hki : (k : Int) < (la.length : Int) := by omega
        have h0r := H0.out.trans ht (fun _ _ hf => hf)
        obtain ⟨ga, oa, sa, sc, rfl, lga, xa0, xa1, xa2, xat⟩ := tmsIn_at2 Ra.out k hlt
        have lga' : ga < wr.heap.size := Nat.lt_of_lt_of_le lga h0r.size
        have p0 := (h0r.cell (p := ⟨ga, oa + k * 3, none⟩) lga (fun hf => hf)).trans xa0
        have p1 := (h0r.cell (p := ⟨ga, oa + k * 3 + 1, none⟩) lga (fun hf => hf)).trans xa1
        have p2 := (h0r.cell (p := ⟨ga, oa + k * 3 + 2, none⟩) lga (fun hf => hf)).trans xa2
        have hlk : (Tm.putPs u (la.take k) i0 p).length = k := by rw [Tm.putPs_len, List.length_take]; omega
        obtain ⟨ua, uc, hu⟩ := hor.form
        rw [hlk] at hu
        subst hu
        have hsn := Tm.putPs_take u la i0 p k hlt
        obtain ⟨U, hU, tU, hCU⟩ := box1 wr (.int .i64 la[k].kind) (.int .i64 la[k].num) (.slice sa la[k].kids.length sc) 24
        obtain ⟨u0, u1, u2, lU⟩ := hCU U (Turned.refl _ _)
        have hts : la[k].size ≤ 1000000 := Nat.le_trans (Tm.sizes_mem (List.getElem_mem hlt)) hss
        have h0U := h0r.trans tU (fun _ _ hf => hf)
        have Hrec := Lib.hid (fun V (hV : Turned U V (fun _ => False)) => Ih.out la[k] (List.getElem_mem hlt) (.agg #[.int .i64 la[k].kind, .int .i64 la[k].num, .slice sa la[k].kids.length sc]) p _ V xat Hpt.out (h0U.trans hV (fun _ _ hf => hf)) (Hrt.out _ (List.getElem_mem hlt)) hts)
        have Hcop := Lib.hid (fun V (hV : Turned U V (fun _ => False)) => show Calls Try.prog 47 #[.agg #[.int .i64 la[k].kind, .int .i64 la[k].num, .slice sa la[k].kids.length sc]] V (TmPost NoR V la[k]) from
          (copied_any la[k] _ V (TmIn.turned (h0U.trans hV (fun _ _ hf => hf)) _ xat) (Hrt.out _ (List.getElem_mem hlt)) hts).mono (fun e w' ⟨v, h1, h2, h3⟩ => ⟨v, h1, TmS.mono (fun j _ hj => Or.inr hj) _ h2, h3⟩))
        have Hor := Lib.hid (OwnT.turned hor tU (fun _ _ hf => hf) (fun _ _ _ hf => hf) (fun _ _ h => h))
        have k5U := turn_keep tU k5
        have k1U := turn_keep tU k0
        have K5' := Lib.hid k5U
        have K4' := Lib.hid (turn_keep tU k4)
        have K0' := Lib.hid k1U
        have Ht := Lib.hid (ht.trans tU (fun _ _ hf => hf))
        have Hlk := Lib.hid hlk
        have HU := Lib.hid hU
        obtain ⟨b0, b1, b2, -, -, -, lb0⟩ := box3 k1U
        obtain ⟨-, -, c52, -, -, -, l5⟩ := box3 k5U
        have cpU : U.cell? ⟨gp, op, none⟩ = some (.int .i64 i0) := (Ht.out.cell (p := ⟨gp, op, none⟩) lgp (fun hf => hf)).trans Hc0.out
        have lgpU : gp < U.heap.size := Nat.lt_of_lt_of_le lgp Ht.out.size
        have hwr3 : w.heap.size + 4 ≤ U.heap.size := by omega
        have tt : Turned U U.drew (fun _ => False) := (Turned.refl U _).drew
        clear hor k5 k4 k0 ht hlk xa0 xa1 xa2 xat lga h0r h0U hCU tU hU k5U k1U
        generalize hgk : la[k].kind = xk at *
        generalize hgn : la[k].num = xn at *
        generalize hgm : la[k].kids.length = xm at *
        clear hgk hgn hgm
        go_upto_region 7 with fail
        rw [← HU.out]
        by_cases hik : (k : Int) = i0
        · rw [if_pos hik] at hsn
          have Hsn := Lib.hid hsn
          have e1 : ((k : Int) == i0) = true := by simpa using hik
          clear hsn
          by_cases hcp : cp = 1
          · subst hcp
            simp only [if_pos, Nat.sub_self] at Hrec
            have Hcall := Lib.hid (Hrec.out)
            clear Hcop Hrec
            generalize (Tm.putP u la[k] p) = y at *
            go_upto_region 8 with fail
            go_region_law (first
              | (go_simp; go_at_call 48; refine (Hcall.out _ tt).mono ?_; rintro e w1 ⟨v1, rfl, hv1, t1⟩; obtain ⟨q1, cq1, rfl⟩ := hv1.form; have d52 : w1.cell? ⟨w.heap.size + 1 + 1 + 1, 2, none⟩ = some (.slice ua k uc) := (t1.cell (p := ⟨w.heap.size + 1 + 1 + 1, 2, none⟩) l5 (fun hf => hf)).trans c52; have l51 : w.heap.size + 1 + 1 + 1 < w1.heap.size := Nat.lt_of_lt_of_le l5 t1.size; obtain ⟨hA, hB, hC⟩ := put_one (R := NoR) Hor.out (tt.trans t1 (fun _ _ hf => hf)) hv1 (fun j hj => hj.elim) hwr3; have hG := heap_alloc_new w1 (.cells #[.int .i64 y.kind, .int .i64 y.num, .slice q1 y.kids.length cq1] 24); have HA := Lib.hid hA; have HB := Lib.hid hB; have HG := Lib.hid hG; have HT2 := Lib.hid (show Turned U (w1.alloc (.cells #[.int .i64 y.kind, .int .i64 y.num, .slice q1 y.kids.length cq1] 24)) (fun _ => False) from (tt.trans t1 (fun _ _ hf => hf)).alloc _); clear hA hB hG hv1)
              | (refine step_append_term _ (by rfl) _ _ (by rfl) (w.heap.size + 4) _ (.slice ua k uc) _ y (by rfl) HA.out w1.heap.size (.int .i64 y.kind) (.int .i64 y.num) (.slice q1 y.kids.length cq1) (by rfl) HG.out HB.out (by rw [Hlk.out]; omega) hC (w1.heap.size + 1) (by simp) ?_; intro g5 cap5 w5 ho5 ht5 hat5 hl5; obtain ⟨m5, m6, m7⟩ := put_two (R := NoR) (Z := w.heap.size + 1 + 1 + 1) ho5 HT2.out ht5 (fun j e => (Hor.out.own_le e).1) (by omega) (fun j hj => hj.elim) K5'.out (.slice (some ⟨g5, 0, none⟩) ((Tm.putPs u (la.take k) i0 p).length + 1) cap5); have e52 : w5.cell? ⟨w.heap.size + 1 + 1 + 1, 2, none⟩ = some (.slice ua k uc) := (by simp [World.cell?, m5]); have f52 : w5.frozen? ⟨w.heap.size + 1 + 1 + 1, 2, none⟩ = false := (by simp [World.frozen?, m5]); have l52 := lt_of_block m5; have M6 := Lib.hid m6; have M7 := Lib.hid m7; have HT5 := Lib.hid ht5; clear m5 m6 m7 ho5 ht5))
            all_goals
              obtain ⟨n1, n2⟩ := put_three HT2.out HT5.out (fun j e => (Hor.out.own_le e).1) (show w.heap.size + 1 + 1 + 1 < w.heap.size + 4 by omega) (.slice (some ⟨g5, 0, none⟩) ((Tm.putPs u (la.take k) i0 p).length + 1) cap5)
              have N4 := Lib.hid (n1 _ _ (by omega) (by omega) K4'.out)
              have N0 := Lib.hid (n1 _ _ (by omega) (by omega) K0'.out)
              have NT := Lib.hid (n2 w Ht.out (by omega))
              have m6 := M6.out
              rw [← Hsn.out] at m6
              have M8 := Lib.hid m6
              clear n1 n2 m6 e52 f52 l52 d52 l51 t1 tt p0 p1 p2 c52 l5 hat5 hl5 hC u0 u1 u2 b0 b1 b2
              go_wp2
              go_roundw
              case rel => exact ⟨_, _, _, ⟨k + 1, by omega, by go_num, _, M8.out, M7.out, N4.out, N0.out, NT.out⟩, rfl, rfl, rfl⟩
              case measure => simp [intOf]; omega
          · simp only [if_neg hcp] at Hrec
            have Hcall := Lib.hid (Hrec.out)
            clear Hcop Hrec
            generalize (Tm.putP u la[k] p) = y at *
            go_upto_region 8 with fail
            go_region_law (first
              | (go_simp; go_at_call 48; refine (Hcall.out _ tt).mono ?_; rintro e w1 ⟨v1, rfl, hv1, t1⟩; obtain ⟨q1, cq1, rfl⟩ := hv1.form; have d52 : w1.cell? ⟨w.heap.size + 1 + 1 + 1, 2, none⟩ = some (.slice ua k uc) := (t1.cell (p := ⟨w.heap.size + 1 + 1 + 1, 2, none⟩) l5 (fun hf => hf)).trans c52; have l51 : w.heap.size + 1 + 1 + 1 < w1.heap.size := Nat.lt_of_lt_of_le l5 t1.size; obtain ⟨hA, hB, hC⟩ := put_one (R := NoR) Hor.out (tt.trans t1 (fun _ _ hf => hf)) hv1 (fun j hj => hj.elim) hwr3; have hG := heap_alloc_new w1 (.cells #[.int .i64 y.kind, .int .i64 y.num, .slice q1 y.kids.length cq1] 24); have HA := Lib.hid hA; have HB := Lib.hid hB; have HG := Lib.hid hG; have HT2 := Lib.hid (show Turned U (w1.alloc (.cells #[.int .i64 y.kind, .int .i64 y.num, .slice q1 y.kids.length cq1] 24)) (fun _ => False) from (tt.trans t1 (fun _ _ hf => hf)).alloc _); clear hA hB hG hv1)
              | (refine step_append_term _ (by rfl) _ _ (by rfl) (w.heap.size + 4) _ (.slice ua k uc) _ y (by rfl) HA.out w1.heap.size (.int .i64 y.kind) (.int .i64 y.num) (.slice q1 y.kids.length cq1) (by rfl) HG.out HB.out (by rw [Hlk.out]; omega) hC (w1.heap.size + 1) (by simp) ?_; intro g5 cap5 w5 ho5 ht5 hat5 hl5; obtain ⟨m5, m6, m7⟩ := put_two (R := NoR) (Z := w.heap.size + 1 + 1 + 1) ho5 HT2.out ht5 (fun j e => (Hor.out.own_le e).1) (by omega) (fun j hj => hj.elim) K5'.out (.slice (some ⟨g5, 0, none⟩) ((Tm.putPs u (la.take k) i0 p).length + 1) cap5); have e52 : w5.cell? ⟨w.heap.size + 1 + 1 + 1, 2, none⟩ = some (.slice ua k uc) := (by simp [World.cell?, m5]); have f52 : w5.frozen? ⟨w.heap.size + 1 + 1 + 1, 2, none⟩ = false := (by simp [World.frozen?, m5]); have l52 := lt_of_block m5; have M6 := Lib.hid m6; have M7 := Lib.hid m7; have HT5 := Lib.hid ht5; clear m5 m6 m7 ho5 ht5))
            all_goals
              obtain ⟨n1, n2⟩ := put_three HT2.out HT5.out (fun j e => (Hor.out.own_le e).1) (show w.heap.size + 1 + 1 + 1 < w.heap.size + 4 by omega) (.slice (some ⟨g5, 0, none⟩) ((Tm.putPs u (la.take k) i0 p).length + 1) cap5)
              have N4 := Lib.hid (n1 _ _ (by omega) (by omega) K4'.out)
              have N0 := Lib.hid (n1 _ _ (by omega) (by omega) K0'.out)
              have NT := Lib.hid (n2 w Ht.out (by omega))
              have m6 := M6.out
              rw [← Hsn.out] at m6
              have M8 := Lib.hid m6
              clear n1 n2 m6 e52 f52 l52 d52 l51 t1 tt p0 p1 p2 c52 l5 hat5 hl5 hC u0 u1 u2 b0 b1 b2
              go_wp2
              go_roundw
              case rel => exact ⟨_, _, _, ⟨k + 1, by omega, by go_num, _, M8.out, M7.out, N4.out, N0.out, NT.out⟩, rfl, rfl, rfl⟩
              case measure => simp [intOf]; omega
        · rw [if_neg hik] at hsn
          have Hsn := Lib.hid hsn
          have e1 : ((k : Int) == i0) = false := by simpa using hik
          clear hsn
          have Hcall := Lib.hid (Hcop.out)
          clear Hcop Hrec
          generalize la[k] = y at *
          go_upto_region 9 with fail
          go_region_law (first
            | (go_simp; go_at_call 47; refine (Hcall.out _ tt).mono ?_; rintro e w1 ⟨v1, rfl, hv1, t1⟩; obtain ⟨q1, cq1, rfl⟩ := hv1.form; have d52 : w1.cell? ⟨w.heap.size + 1 + 1 + 1, 2, none⟩ = some (.slice ua k uc) := (t1.cell (p := ⟨w.heap.size + 1 + 1 + 1, 2, none⟩) l5 (fun hf => hf)).trans c52; have l51 : w.heap.size + 1 + 1 + 1 < w1.heap.size := Nat.lt_of_lt_of_le l5 t1.size; obtain ⟨hA, hB, hC⟩ := put_one (R := NoR) Hor.out (tt.trans t1 (fun _ _ hf => hf)) hv1 (fun j hj => hj.elim) hwr3; have hG := heap_alloc_new w1 (.cells #[.int .i64 y.kind, .int .i64 y.num, .slice q1 y.kids.length cq1] 24); have HA := Lib.hid hA; have HB := Lib.hid hB; have HG := Lib.hid hG; have HT2 := Lib.hid (show Turned U (w1.alloc (.cells #[.int .i64 y.kind, .int .i64 y.num, .slice q1 y.kids.length cq1] 24)) (fun _ => False) from (tt.trans t1 (fun _ _ hf => hf)).alloc _); clear hA hB hG hv1)
            | (refine step_append_term _ (by rfl) _ _ (by rfl) (w.heap.size + 4) _ (.slice ua k uc) _ y (by rfl) HA.out w1.heap.size (.int .i64 y.kind) (.int .i64 y.num) (.slice q1 y.kids.length cq1) (by rfl) HG.out HB.out (by rw [Hlk.out]; omega) hC (w1.heap.size + 1) (by simp) ?_; intro g5 cap5 w5 ho5 ht5 hat5 hl5; obtain ⟨m5, m6, m7⟩ := put_two (R := NoR) (Z := w.heap.size + 1 + 1 + 1) ho5 HT2.out ht5 (fun j e => (Hor.out.own_le e).1) (by omega) (fun j hj => hj.elim) K5'.out (.slice (some ⟨g5, 0, none⟩) ((Tm.putPs u (la.take k) i0 p).length + 1) cap5); have e52 : w5.cell? ⟨w.heap.size + 1 + 1 + 1, 2, none⟩ = some (.slice ua k uc) := (by simp [World.cell?, m5]); have f52 : w5.frozen? ⟨w.heap.size + 1 + 1 + 1, 2, none⟩ = false := (by simp [World.frozen?, m5]); have l52 := lt_of_block m5; have M6 := Lib.hid m6; have M7 := Lib.hid m7; have HT5 := Lib.hid ht5; clear m5 m6 m7 ho5 ht5))
          all_goals
            obtain ⟨n1, n2⟩ := put_three HT2.out HT5.out (fun j e => (Hor.out.own_le e).1) (show w.heap.size + 1 + 1 + 1 < w.heap.size + 4 by omega) (.slice (some ⟨g5, 0, none⟩) ((Tm.putPs u (la.take k) i0 p).length + 1) cap5)
            have N4 := Lib.hid (n1 _ _ (by omega) (by omega) K4'.out)
            have N0 := Lib.hid (n1 _ _ (by omega) (by omega) K0'.out)
            have NT := Lib.hid (n2 w Ht.out (by omega))
            have m6 := M6.out
            rw [← Hsn.out] at m6
            have M8 := Lib.hid m6
            clear n1 n2 m6 e52 f52 l52 d52 l51 t1 tt p0 p1 p2 c52 l5 hat5 hl5 hC u0 u1 u2 b0 b1 b2
            go_wp2
            go_roundw
            case rel => exact ⟨_, _, _, ⟨k + 1, by omega, by go_num, _, M8.out, M7.out, N4.out, N0.out, NT.out⟩, rfl, rfl, rfl⟩
            case measure => simp [intOf]; omega
      · obtain rfl : k = la.length := by omega
        rw [List.take_of_length_le (Nat.le_refl _)] at hor
        obtain ⟨ua, uc, hu⟩ := hor.form
        subst hu
        rw [Tm.putPs_len] at *
        obtain ⟨z0, z1, z2, y0, y1, y2, l4⟩ := box3 k4
        obtain ⟨c50, c51, c52, -, -, -, l5⟩ := box3 k5
        obtain ⟨g1, g2⟩ := store3 k4 (.int .i64 ka) (.int .i64 na) (.slice ua la.length uc)
        have hT : Turned w (((wr.setCell ⟨w.heap.size + 1 + 1, 0, none⟩ (.int .i64 ka)).setCell ⟨w.heap.size + 1 + 1, 1, none⟩ (.int .i64 na)).setCell ⟨w.heap.size + 1 + 1, 2, none⟩ (.slice ua la.length uc)) (fun _ => False) := ht.trans g2 (fun i hi e => by omega)
        obtain ⟨pa, pc, hv, hln, hrow⟩ := hor.rowS (S' := fun g => NoR g ∨ w.heap.size + 4 ≤ g) (fun _ _ h => h.1) (fun j e => .inr (hor.own_le e).1)
        have hfin : TmPost NoR w (.node ka na (Tm.putPs u la i0 p)) (.returned (.agg #[.int .i64 ka, .int .i64 na, .slice ua la.length uc])) (((wr.setCell ⟨w.heap.size + 1 + 1, 0, none⟩ (.int .i64 ka)).setCell ⟨w.heap.size + 1 + 1, 1, none⟩ (.int .i64 na)).setCell ⟨w.heap.size + 1 + 1, 2, none⟩ (.slice ua la.length uc)) := by
          refine ⟨_, rfl, ⟨pa, pc, by rw [hv], hln, TmsS.turned g2 (fun j _ hj e => by rcases hj with h | h; exact h.elim; omega) (fun j _ hj => ?_) _ hrow⟩, hT⟩
          rcases hj with h | h
          · exact h.elim
          · exact .inr (by omega)
        have Hfin := Lib.hid hfin
        have G1 := Lib.hid g1
        clear hor k4 k0 ht g1 g2 hT hv hln hrow hfin k5
        go_wp2
        exact bodyPost_ret (results_term rfl G1.out rfl) rfl Hfin.out
end Go.Proofs.Ytljnmjehokijgaa

/- Put: a tree with another one at a place. -/
namespace Go.Proofs.Ytljnmjehokijgaa
open Go.RowKit

def Tm.putT (t : Tm) (p : List Int) (u : Tm) : Tm × Int := if u.isTree = true then (if (t.atT p).2 = 0 then (if 2000 < (Tm.putP u t p).size2.1 then (Tm.zero, 2) else (Tm.putP u t p, 0)) else (Tm.zero, (t.atT p).2)) else (Tm.zero, 4)

theorem Tm.atT_tree {t : Tm} {p : List Int} (h : (t.atT p).2 = 0) : t.isTree = true := by
  unfold Tm.atT at h
  split at h
  · assumption
  · cases h

set_option maxRecDepth 100000 in
set_option maxHeartbeats 1600000 in
theorem sigPut_any (t u : Tm) (v vu : Value) (p : List Int) (vp : Value) (w : World) (ha : TmIn w t v) (hu : TmIn w u vu) (hp : RowC w vp p) :
    Calls Try.prog 17 #[v, vp, vu] w (NewTe w (t.putT p u)) := by
  obtain ⟨aa, ca, rfl, -⟩ := ha.form
  obtain ⟨au, cu, rfl, -⟩ := hu.form
  obtain ⟨W, hW⟩ : ∃ W, W = ((w.alloc (.cells #[.int .i64 t.kind, .int .i64 t.num, .slice aa t.kids.length ca] 24)).alloc (.cells #[.int .i64 u.kind, .int .i64 u.num, .slice au u.kids.length cu] 24)).alloc (.cells #[.int .i64 0, .int .i64 0, .slice none 0 0] 24) := ⟨_, rfl⟩
  obtain ⟨k0, k1, k2, tW, hWs⟩ := alloc3 hW
  have hB : ∀ V, Turned W V (fun _ => False) → (V.cell? ⟨w.heap.size, 0, none⟩ = some (.int .i64 t.kind) ∧ V.cell? ⟨w.heap.size, 1, none⟩ = some (.int .i64 t.num) ∧ V.cell? ⟨w.heap.size, 2, none⟩ = some (.slice aa t.kids.length ca) ∧ w.heap.size < V.heap.size) ∧
      (V.cell? ⟨w.heap.size + 1, 0, none⟩ = some (.int .i64 u.kind) ∧ V.cell? ⟨w.heap.size + 1, 1, none⟩ = some (.int .i64 u.num) ∧ V.cell? ⟨w.heap.size + 1, 2, none⟩ = some (.slice au u.kids.length cu) ∧ w.heap.size + 1 < V.heap.size) := fun V hV => by
    obtain ⟨a0, a1, a2, -, -, -, a3⟩ := box3 (turn_keep hV k0)
    obtain ⟨b0, b1, b2, -, -, -, b3⟩ := box3 (turn_keep hV k1)
    exact ⟨⟨a0, a1, a2, a3⟩, ⟨b0, b1, b2, b3⟩⟩
  have hT := tree_any u _ W (TmIn.turned tW _ hu)
  have hE : u.treeE = if u.isTree = true then 0 else 4 := rfl
  have HW := Lib.hid hW
  have TW := Lib.hid tW
  have K2 := Lib.hid k2
  have HB := Lib.hid hB
  have HAt := Lib.hid (fun V (hV : Turned w V (fun _ => False)) => sigAt_any t _ p vp V (TmIn.turned hV _ ha) (hp.1.turned hV))
  have HRep := Lib.hid (fun (h1 : t.isTree = true) (h2 : u.isTree = true) V (hV : Turned w V (fun _ => False)) => replaced_any w u _ hu ((Tm.isTree_iff u).1 h2).2.2 (by have := ((Tm.isTree_iff u).1 h2).1; omega) t _ p vp V ha hp hV ((Tm.isTree_iff t).1 h1).2.2 (by have := ((Tm.isTree_iff t).1 h1).1; omega))
  have hv1 : u.isTree ≠ true → t.putT p u = (Tm.zero, 4) := fun h => by unfold Tm.putT; rw [if_neg h]
  have hv2 : u.isTree = true → (t.atT p).2 ≠ 0 → t.putT p u = (Tm.zero, (t.atT p).2) := fun h h2 => by unfold Tm.putT; rw [if_pos h, if_neg h2]
  have hv3 : u.isTree = true → (t.atT p).2 = 0 → 2000 < (Tm.putP u t p).size2.1 → t.putT p u = (Tm.zero, 2) := fun h h2 h3 => by unfold Tm.putT; rw [if_pos h, if_pos h2, if_pos h3]
  have hv4 : u.isTree = true → (t.atT p).2 = 0 → ¬ 2000 < (Tm.putP u t p).size2.1 → t.putT p u = (Tm.putP u t p, 0) := fun h h2 h3 => by unfold Tm.putT; rw [if_pos h, if_pos h2, if_neg h3]
  have Hv1 := Lib.hid hv1
  have Hv2 := Lib.hid hv2
  have Hv3 := Lib.hid hv3
  have Hv4 := Lib.hid hv4
  have Hti := Lib.hid (fun h => Tm.atT_tree (t := t) (p := p) h)
  obtain ⟨ap, cp, rfl, -⟩ := hp.1
  have hWz : w.heap.size + 1 + 1 < W.heap.size := lt_of_block k2
  obtain ⟨⟨a0, a1, a2, a3⟩, ⟨b0, b1, b2, b3⟩⟩ := hB W (Turned.refl _ _)
  clear hW tW k0 k1 k2 hB ha hu hp hv1 hv2 hv3 hv4
  generalize t.kind = xk at *
  generalize t.num = xn at *
  generalize t.kids.length = xl at *
  generalize u.kind = uk at *
  generalize u.num = un at *
  generalize u.kids.length = ul at *
  generalize t.putT p u = X at *
  by_cases hut : u.isTree = true
  rotate_left 1
  · rw [hE, if_neg hut] at hT
    have hx := Hv1.out hut
    subst hx
    have HT := Lib.hid hT
    clear hE hT hut Hv1 Hv2 Hv3 Hv4
    go_enter Try.func17, Try.ntmps17
    go_upto_region 1 with fail
    rw [← HW.out]
    go_wp2_with fail
    refine HT.out.mono ?_
    rintro e w1 ⟨rfl, t1⟩
    have k31 := turn_keep t1 K2.out
    obtain ⟨e0, e1, e2, f0, f1, f2, l4⟩ := box3 k31
    obtain ⟨hfin, g1⟩ := newTe_zero k31 (TW.out.trans t1 (fun _ _ hf => hf)) (show w.heap.size ≤ w.heap.size + 1 + 1 by omega) 4
    have Hfin := Lib.hid hfin
    have G1 := Lib.hid g1
    clear hfin g1 k31 t1
    go_wp2
    exact bodyPost_ret (v := .tuple #[.agg #[.int .i64 0, .int .i64 0, .slice none 0 0], .int .i64 4]) (results_term_err rfl G1.out rfl rfl) rfl Hfin.out
  rw [hE, if_pos hut] at hT
  have HT := Lib.hid hT
  have Hut := Lib.hid hut
  clear hE hT hut Hv1
  generalize t.atT p = Y at *
  obtain ⟨y, ey⟩ := Y
  simp only at Hv2 Hv3 Hv4 Hti
  go_enter Try.func17, Try.ntmps17
  go_upto_region 1 with fail
  rw [← HW.out]
  go_wp2_with fail
  refine HT.out.mono ?_
  rintro e w1 ⟨rfl, t1⟩
  have T1 := Lib.hid t1
  clear t1 a0 a1 a2 a3 b0 b1 b2 b3
  obtain ⟨⟨a0, a1, a2, a3⟩, ⟨b0, b1, b2, b3⟩⟩ := HB.out w1 T1.out
  go_wp2_with fail
  refine (HAt.out w1 (TW.out.trans T1.out (fun _ _ hf => hf))).mono ?_
  rintro e w2 ⟨vy, rfl, hvy, t2⟩
  obtain ⟨py, cy, rfl⟩ := hvy.form
  obtain ⟨U, hU, tU, -⟩ := box1 w2 (.int .i64 y.kind) (.int .i64 y.num) (.slice py y.kids.length cy) 24
  have T2 := Lib.hid ((T1.out.trans t2 (fun _ _ hf => hf)).trans tU (fun _ _ hf => hf))
  have HU := Lib.hid hU
  clear hvy t2 hU tU a0 a1 a2 a3 b0 b1 b2 b3
  obtain ⟨⟨a0, a1, a2, a3⟩, ⟨b0, b1, b2, b3⟩⟩ := HB.out U T2.out
  have k2U := turn_keep T2.out K2.out
  obtain ⟨e0, e1, e2, f0, f1, f2, l4⟩ := box3 k2U
  go_upto_region 4 with fail
  rw [← HU.out]
  by_cases hey : ey = 0
  rotate_left 1
  · have hx := Hv2.out Hut.out hey
    subst hx
    have g3 : (ey == 0) = false := by simpa using hey
    have g4 : (ey != 0) = true := by simpa using hey
    obtain ⟨hfin, g1⟩ := newTe_zero k2U (TW.out.trans T2.out (fun _ _ hf => hf)) (show w.heap.size ≤ w.heap.size + 1 + 1 by omega) ey
    have Hfin := Lib.hid hfin
    have G1 := Lib.hid g1
    clear hfin g1 k2U hey Hv2 Hv3 Hv4
    go_wp2
    exact bodyPost_ret (v := .tuple #[.agg #[.int .i64 0, .int .i64 0, .slice none 0 0], .int .i64 ey]) (results_term_err rfl G1.out rfl rfl) rfl Hfin.out
  subst hey
  have Hrep := Lib.hid (HRep.out (Hti.out rfl) Hut.out U (TW.out.trans T2.out (fun _ _ hf => hf)))
  have H3 := Lib.hid (Hv3.out Hut.out rfl)
  have H4 := Lib.hid (Hv4.out Hut.out rfl)
  clear HRep Hv2 Hv3 Hv4 k2U e0 e1 e2 f0 f1 f2 l4
  generalize Tm.putP u t p = z at *
  go_wp2_with fail
  refine Hrep.out.mono ?_
  rintro e w3 ⟨vz, rfl, hvz, t3⟩
  obtain ⟨pz, cz, rfl⟩ := hvz.form
  obtain ⟨U3, hU3, tU3, hC3⟩ := box1 w3 (.int .i64 z.kind) (.int .i64 z.num) (.slice pz z.kids.length cz) 24
  have T3 := Lib.hid ((T2.out.trans t3 (fun _ _ hf => hf)).trans tU3 (fun _ _ hf => hf))
  have HZ := Lib.hid (show TmS U3 (fun g => w.heap.size + 1 + 1 < g) z (.agg #[.int .i64 z.kind, .int .i64 z.num, .slice pz z.kids.length cz]) from TmS.turned tU3 (fun _ _ _ hf => hf) (fun j _ hj => by
    rcases hj with h | h
    · exact h.elim
    · have := T2.out.size; omega) _ hvz)
  have HC3 := Lib.hid hC3
  have HU3 := Lib.hid hU3
  obtain ⟨s0, s1, s2, s3⟩ := hC3 U3 (Turned.refl _ _)
  have Hsz := Lib.hid (size_any z _ U3 (TmS.toIn _ HZ.out))
  clear hvz t3 hU3 tU3 hC3 a0 a1 a2 a3 b0 b1 b2 b3
  generalize hzk : z.kind = zk at *
  generalize hzn : z.num = zn at *
  generalize hzl : z.kids.length = zl at *
  have Hz := Lib.hid (And.intro hzk (And.intro hzn hzl))
  clear hzk hzn hzl
  generalize z.size2 = S at *
  obtain ⟨n, d⟩ := S
  simp only at H3 H4
  go_upto_region 7 with fail
  rw [← HU3.out]
  go_wp2_with fail
  refine Hsz.out.mono ?_
  rintro e w4 ⟨he, t4⟩
  unfold SizePost at he
  subst he
  have T4 := Lib.hid (T3.out.trans t4 (fun _ _ hf => hf))
  have HZ4 := Lib.hid (TmS.turned (S' := fun g => w.heap.size + 1 + 1 < g) t4 (fun _ _ _ hf => hf) (fun _ _ h => h) _ HZ.out)
  obtain ⟨q0, q1, q2, q3⟩ := HC3.out w4 t4
  have k24 := turn_keep T4.out K2.out
  obtain ⟨e0, e1, e2, f0, f1, f2, l4⟩ := box3 k24
  by_cases hn : 2000 < n
  · have hx := H3.out hn
    subst hx
    obtain ⟨hfin, g1⟩ := newTe_zero k24 (TW.out.trans T4.out (fun _ _ hf => hf)) (show w.heap.size ≤ w.heap.size + 1 + 1 by omega) 2
    have Hfin := Lib.hid hfin
    have G1 := Lib.hid g1
    clear hfin g1 k24 t4 H3 H4 s0 s1 s2 s3
    go_wp2
    exact bodyPost_ret (v := .tuple #[.agg #[.int .i64 0, .int .i64 0, .slice none 0 0], .int .i64 2]) (results_term_err rfl G1.out rfl rfl) rfl Hfin.out
  · have hx := H4.out (by omega)
    subst hx
    obtain ⟨g1, g2⟩ := store3 k24 (.int .i64 zk) (.int .i64 zn) (.slice pz zl cz)
    have Hfin := Lib.hid (show NewTe w (z, 0) (.returned (.tuple #[.agg #[.int .i64 zk, .int .i64 zn, .slice pz zl cz], .int .i64 0])) _ from
      ⟨_, rfl, TmS.turned g2 (fun j _ hj e => by omega) (fun j _ hj => by omega) _ HZ4.out, (TW.out.trans T4.out (fun _ _ hf => hf)).trans g2 (fun i hi e => by omega)⟩)
    have G1 := Lib.hid g1
    clear g1 g2 k24 t4 H3 H4 s0 s1 s2 s3
    go_wp2
    exact bodyPost_ret (v := .tuple #[.agg #[.int .i64 zk, .int .i64 zn, .slice pz zl cz], .int .i64 0]) (results_term_err rfl G1.out rfl rfl) rfl Hfin.out
end Go.Proofs.Ytljnmjehokijgaa

/- What is put stands there; put back; elsewhere nothing has changed. -/
namespace Go.Proofs.Ytljnmjehokijgaa
open Go.RowKit

theorem Tm.atP_nil (t : Tm) : t.atP [] = some t := by cases t; rfl

theorem Tm.atP_cons (k n : Int) (l : List Tm) (i : Int) (p : List Int) : (Tm.node k n l).atP (i :: p) = if belowB l.length i = true then (match l[i.toNat]? with | some x => x.atP p | none => none) else none := rfl

theorem Tm.putPs_at (u : Tm) : ∀ (l : List Tm) (i : Int) (p : List Int) (k : Nat), (Tm.putPs u l i p)[k]? = (l[k]?).map (fun t => if (k : Int) = i then Tm.putP u t p else t)
  | [], i, p, k => by simp [Tm.putPs]
  | t :: l, i, p, 0 => by
    simp only [Tm.putPs, List.getElem?_cons_zero, Option.map_some, Int.natCast_zero]
    by_cases h : i = 0
    · rw [if_pos h, if_pos h.symm]
    · rw [if_neg h, if_neg (fun e => h e.symm)]
  | t :: l, i, p, k + 1 => by
    simp only [Tm.putPs, List.getElem?_cons_succ]
    rw [Tm.putPs_at u l (i - 1) p k]
    congr 1
    funext x
    by_cases e : (k : Int) = i - 1
    · rw [if_pos e, if_pos (by omega)]
    · rw [if_neg e, if_neg (by omega)]

theorem belowB_iff3 {n : Nat} {i : Int} : belowB n i = true ↔ 0 ≤ i ∧ i < n := by simp [belowB]

/-- What is put stands there. -/
theorem Tm.at_put (u : Tm) : ∀ (p : List Int) (t old : Tm), t.atP p = some old → (Tm.putP u t p).atP p = some u
  | [], .node k n l, _, _ => by rw [Tm.putP_nil]; exact Tm.atP_nil u
  | i :: p, .node k n l, old, h => by
    rw [Tm.putP_cons, Tm.atP_cons, Tm.putPs_len]
    rw [Tm.atP_cons] at h
    split at h
    · rename_i hb
      rw [if_pos hb]
      obtain ⟨h0, h1⟩ := belowB_iff3.1 hb
      rw [Tm.putPs_at]
      cases hx : l[i.toNat]? with
      | none => rw [hx] at h; cases h
      | some x =>
        rw [hx] at h
        simp only [Option.map_some]
        rw [if_pos (by omega)]
        exact Tm.at_put u p x old h
    · cases h

/-- Put back, it is the tree that there was. -/
theorem Tm.put_back (u : Tm) : ∀ (p : List Int) (t old : Tm), t.atP p = some old → Tm.putP old (Tm.putP u t p) p = t
  | [], .node k n l, old, h => by
    rw [Tm.putP_nil]
    have : some (Tm.node k n l) = some old := h
    cases u
    rw [Tm.putP_nil]
    exact (Option.some.inj this).symm
  | i :: p, .node k n l, old, h => by
    rw [Tm.putP_cons, Tm.putP_cons]
    rw [Tm.atP_cons] at h
    split at h
    · rename_i hb
      obtain ⟨h0, h1⟩ := belowB_iff3.1 hb
      congr 1
      apply List.ext_getElem?
      intro j
      rw [Tm.putPs_at, Tm.putPs_at, Option.map_map]
      cases hx : l[j]? with
      | none => rfl
      | some x =>
        simp only [Option.map_some, Function.comp_apply]
        by_cases e : (j : Int) = i
        · rw [if_pos e, if_pos e]
          rw [show i.toNat = j by omega, hx] at h
          rw [Tm.put_back u p x old h]
        · rw [if_neg e, if_neg e]
    · cases h

/-- The one begins as the other does. -/
def begB (p q : List Int) : Bool := decide (p.length ≤ q.length) && intsB p (q.take p.length)

/-- Elsewhere nothing has changed. -/
theorem Tm.put_else (u : Tm) : ∀ (p q : List Int) (t : Tm), begB p q = false → begB q p = false → (Tm.putP u t p).atP q = t.atP q
  | [], q, t, h, _ => by simp [begB, intsB] at h
  | i :: p, [], t, _, h => by simp [begB, intsB] at h
  | i :: p, j :: q, .node k n l, h1, h2 => by
    rw [Tm.putP_cons, Tm.atP_cons, Tm.atP_cons, Tm.putPs_len]
    split
    · rename_i hb
      obtain ⟨h0, hlt⟩ := belowB_iff3.1 hb
      rw [Tm.putPs_at]
      cases hx : l[j.toNat]? with
      | none => rfl
      | some x =>
        simp only [Option.map_some]
        by_cases e : j = i
        · subst e
          rw [if_pos (by omega)]
          refine Tm.put_else u p q x ?_ ?_
          · simpa [begB, intsB] using h1
          · simpa [begB, intsB] using h2
        · rw [if_neg (by omega)]
    · rfl

mutual
/-- Each of a tree's places is one: something stands there. -/
theorem Tm.paths_at : ∀ (t : Tm) (a q : List Int), q ∈ t.paths a → ∃ r x, q = a ++ r ∧ t.atP r = some x
  | .node k n l, a, q, h => by
    simp only [Tm.paths, List.mem_cons] at h
    rcases h with rfl | h
    · exact ⟨[], .node k n l, by simp, Tm.atP_nil _⟩
    · obtain ⟨j, r, y, x, e, hy, hx⟩ := Tm.pathss_at l a 0 q h
      refine ⟨(j : Int) :: r, x, by rw [e]; simp, ?_⟩
      have hj : j < l.length := (List.getElem?_eq_some_iff.1 hy).1
      rw [Tm.atP_cons, if_pos (belowB_iff3.2 ⟨by omega, by omega⟩)]
      simp only [Int.toNat_natCast, hy]
      exact hx
theorem Tm.pathss_at : ∀ (l : List Tm) (a : List Int) (i : Nat) (q : List Int), q ∈ Tm.pathss l a i → ∃ (j : Nat) (r : List Int) (y x : Tm), q = a ++ (((i + j : Nat) : Int) :: r) ∧ l[j]? = some y ∧ y.atP r = some x
  | t :: l, a, i, q, h => by
    simp only [Tm.pathss, List.mem_append] at h
    rcases h with h | h
    · obtain ⟨r, x, e, hx⟩ := Tm.paths_at t _ q h
      exact ⟨0, r, t, x, by rw [e]; simp, rfl, hx⟩
    · obtain ⟨j, r, y, x, e, hy, hx⟩ := Tm.pathss_at l a (i + 1) q h
      exact ⟨j + 1, r, y, x, by rw [e, show i + 1 + j = i + (j + 1) by omega], by simpa using hy, hx⟩
end

theorem Tm.places {t : Tm} {q : List Int} (h : q ∈ t.paths []) : ∃ x, t.atP q = some x := by
  obtain ⟨r, x, e, hx⟩ := Tm.paths_at t [] q h
  exact ⟨x, by rw [e]; exact hx⟩
end Go.Proofs.Ytljnmjehokijgaa

/- begins: the law's own test of two paths. -/
namespace Go.Proofs.Ytljnmjehokijgaa
open Go.RowKit

set_option maxRecDepth 100000 in
set_option maxHeartbeats 800000 in
theorem begins_any (p q : List Int) (vp vq : Value) (w : World) (hp : RowI w vp p) (hq : RowC w vq q) :
    Calls Try.prog 19 #[vp, vq] w fun e w' => e = .returned (.bool (begB p q)) ∧ Turned w w' (fun _ => False) := by
  have hp0 := hp
  obtain ⟨ap, cp, rfl, hlp, -⟩ := hp0
  have hq0 := hq
  obtain ⟨⟨aq, cq, rfl, hlq, hqx⟩, hqc⟩ := hq0
  have hcq := hqc _ _ _ rfl
  unfold maxLen at hlp hlq
  by_cases hle : p.length ≤ q.length
  rotate_left 1
  · have e1 : ¬ (p.length : Int) ≤ (q.length : Int) := by omega
    have hv : begB p q = false := by simp [begB]; omega
    rw [hv]
    clear hv hp hq hqx
    go_enter Try.func19, Try.ntmps19
    go_wp2
    go_ret
    exact ⟨rfl, Turned.refl _ _⟩
  · have e1 : (p.length : Int) ≤ (q.length : Int) := by omega
    have e2 : (p.length : Int) ≤ (cq : Int) := by omega
    have hv : begB p q = intsB p (q.take p.length) := by simp [begB, hle]
    rw [hv]
    have hrow : ∀ X : Option Addr, (p ≠ [] → X = aq) → RowI w (.slice X p.length cq) (q.take p.length) := fun X hX => by
      have hl2 : (q.take p.length).length = p.length := by rw [List.length_take]; omega
      refine ⟨X, cq, by rw [hl2], by unfold maxLen; omega, fun hne => ?_⟩
      have hpne : p ≠ [] := fun e => by rw [e] at hne; simp at hne
      have hqne : q ≠ [] := fun e => by rw [e] at hne; simp at hne
      obtain ⟨g, off, ha, hg, hc⟩ := hqx hqne
      refine ⟨g, off, by rw [hX hpne, ha], hg, fun j x hj => hc j x ?_⟩
      rw [List.getElem?_take] at hj
      split at hj
      · exact hj
      · cases hj
    have HR := Lib.hid hrow
    have Hp := Lib.hid hp
    have Hq := Lib.hid hqx
    clear hv hp hq hqx hrow
    go_enter Try.func19, Try.ntmps19
    go_wp2_with fail
    refine (rsameInts_any p (q.take p.length) _ _ w Hp.out (HR.out _ (fun hne => ?_))).mono ?_
    · have hpl : 0 < p.length := List.length_pos_iff.2 hne
      have hqne : q ≠ [] := fun e => by rw [e] at hle; simp at hle; exact hne hle
      obtain ⟨g, off, ha, -⟩ := Hq.out hqne
      subst ha
      first | rfl | (rw [if_neg (by omega)]; simp [Addr.add]; done) | (simp [Addr.add]; done)
    · rintro e w' ⟨rfl, t⟩
      have T := Lib.hid t
      clear t
      go_wp2
      go_ret
      exact ⟨rfl, T.out⟩
end Go.Proofs.Ytljnmjehokijgaa

/- Rows of paths that lie in memory, each with its room. -/
namespace Go.Proofs.Ytljnmjehokijgaa
open Go.RowKit

/-- Rows of paths: each lies there, with its room. -/
def RowCC (w : World) (v : Value) (l : List (List Int)) : Prop :=
  ∃ a cap, v = .slice a l.length cap ∧ ∀ (i : Nat) (x : List Int), l[i]? = some x → ∃ g off vi, a = some ⟨g, off, none⟩ ∧ g < w.heap.size ∧ w.cell? ⟨g, off + i, none⟩ = some vi ∧ RowC w vi x

theorem RowCC.turned {w w' : World} {v : Value} {l : List (List Int)} (h : RowCC w v l) (t : Turned w w' (fun _ => False)) : RowCC w' v l := by
  obtain ⟨a, cap, hv, hx⟩ := h
  refine ⟨a, cap, hv, fun i x hi => ?_⟩
  obtain ⟨g, off, vi, ha, hg, hc, hr⟩ := hx i x hi
  exact ⟨g, off, vi, ha, Nat.lt_of_lt_of_le hg t.size, (t.cell (p := ⟨g, off + i, none⟩) hg (fun hf => hf)).trans hc, hr.turned t⟩

theorem OwnL.rowsC {w : World} {B : Nat} {v : Value} {L : List (List Int)} (h : OwnL w B v L) : RowCC w v L := by
  obtain ⟨vs, h1, h2, h3⟩ := h
  have hc := h3
  rcases h3.2 with ⟨hv, h0⟩ | ⟨g, cap, cur, hv, hb, hg, hle, hcap, _⟩
  · have : L = [] := List.length_eq_zero_iff.1 h0
    subst this
    exact ⟨none, 0, hv, fun i x hi => by simp at hi⟩
  · refine ⟨_, cap, hv, fun j x hj => ?_⟩
    have hjl : j < vs.length := by rw [h1]; exact (List.getElem?_eq_some_iff.1 hj).1
    subst hv
    have := hc.cells (g := g) rfl j vs[j] (List.getElem?_eq_getElem hjl)
    have e : ((⟨g, 0, none⟩ : Addr).add j) = ⟨g, 0 + j, none⟩ := by
      unfold Addr.add
      split
      · rename_i h0; simp only [Addr.mk.injEq, true_and, and_true]; omega
      · rfl
    rw [e] at this
    exact ⟨g, 0, vs[j], rfl, lt_of_block hg, this, (h2 j _ x (List.getElem?_eq_getElem hjl) hj).rowC⟩

/-- What SigPuts asks of a place: what stands there, what is put, what is put back. -/
theorem put_place {t u old : Tm} {p : List Int} (ht : t.isTree = true) (hu : u.isTree = true) (hat : t.atP p = some old) :
    t.atT p = (old, 0) ∧ ((t.putT p u).2 ≠ 0 → (t.putT p u).2 = 2) ∧ ((t.putT p u).2 = 0 → (t.putT p u).1 = Tm.putP u t p ∧ ¬ 2000 < (Tm.putP u t p).size2.1) := by
  have h1 : t.atT p = (old, 0) := by unfold Tm.atT; rw [if_pos ht, hat]
  refine ⟨h1, fun h => ?_, fun h => ?_⟩
  · unfold Tm.putT at h ⊢
    rw [if_pos hu, h1, if_pos rfl] at h ⊢
    split
    · rfl
    · rename_i hn
      rw [if_neg hn] at h
      exact absurd rfl h
  · unfold Tm.putT at h ⊢
    rw [if_pos hu, h1, if_pos rfl] at h ⊢
    split
    · rename_i hn
      rw [if_pos hn] at h
      cases h
    · rename_i hn
      exact ⟨rfl, hn⟩
end Go.Proofs.Ytljnmjehokijgaa

/- What stands in a tree, and what is put, are trees. -/
namespace Go.Proofs.Ytljnmjehokijgaa
open Go.RowKit

/-- What stands at a place of a tree is no greater. -/
theorem Tm.atP_le : ∀ (p : List Int) (t x : Tm), t.atP p = some x → x.size ≤ t.size ∧ x.depth ≤ t.depth ∧ (t.right = true → x.right = true)
  | [], t, x, h => by
    rw [Tm.atP_nil] at h
    obtain rfl := Option.some.inj h
    exact ⟨Nat.le_refl _, Nat.le_refl _, id⟩
  | i :: p, .node k n l, x, h => by
    rw [Tm.atP_cons] at h
    split at h
    · cases hy : l[i.toNat]? with
      | none => rw [hy] at h; cases h
      | some y =>
        rw [hy] at h
        obtain ⟨h1, h2, h3⟩ := Tm.atP_le p y x h
        have hm := List.mem_of_getElem? hy
        have hs := Tm.sizes_mem hm
        have hd := Tm.depth_mem hm
        refine ⟨by simp only [Tm.size]; omega, by simp only [Tm.depth]; omega, fun hr => h3 (Tm.rights_mem (Tm.right_kids hr).1 hm)⟩
    · cases h

theorem Tm.atP_tree {t x : Tm} {p : List Int} (ht : t.isTree = true) (h : t.atP p = some x) : x.isTree = true := by
  rw [Tm.isTree_iff] at ht ⊢
  obtain ⟨h1, h2, h3⟩ := Tm.atP_le p t x h
  exact ⟨by omega, by omega, h3 ht.2.2⟩

mutual
theorem Tm.putP_right {u : Tm} (hu : u.right = true) : ∀ (t : Tm) (p : List Int), t.right = true → (Tm.putP u t p).right = true
  | .node k n l, [], _ => by rw [Tm.putP_nil]; exact hu
  | .node k n l, i :: p, h => by
    rw [Tm.putP_cons]
    simp only [Tm.right, Bool.and_eq_true, Tm.putPs_len] at h ⊢
    exact ⟨h.1, Tm.putPs_rights hu l i p h.2⟩
theorem Tm.putPs_rights {u : Tm} (hu : u.right = true) : ∀ (l : List Tm) (i : Int) (p : List Int), Tm.rights l = true → Tm.rights (Tm.putPs u l i p) = true
  | [], _, _, _ => by simp only [Tm.putPs, Tm.rights]
  | t :: l, i, p, h => by
    simp only [Tm.rights, Bool.and_eq_true] at h
    simp only [Tm.putPs, Tm.rights, Bool.and_eq_true]
    refine ⟨?_, Tm.putPs_rights hu l (i - 1) p h.2⟩
    split
    · exact Tm.putP_right hu t p h.1
    · exact h.1
end

/-- What Size finds not too great, and right, is a tree. -/
theorem Tm.tree_of_size2 {t : Tm} (hr : t.right = true) (h : ¬ 2000 < t.size2.1) : t.isTree = true := by
  unfold Tm.size2 at h
  unfold Tm.isTree
  rw [hr, Bool.and_true]
  cases hc : (t.cnt 200 2000 1).2 with
  | true => rfl
  | false =>
    rw [hc] at h
    simp at h

theorem Tm.size2_isTree {t : Tm} (h : t.isTree = true) : t.size2.1 = t.size ∧ t.size ≤ 2000 := by
  have h2 := (Tm.isTree_iff t).1 h
  have hc : (t.cnt 200 2000 1).2 = true := by
    simp only [Tm.isTree, Bool.and_eq_true] at h
    exact h.1
  refine ⟨?_, h2.1⟩
  unfold Tm.size2
  rw [if_pos hc]
  have := Tm.cnt_size 200 t 2000 1 hc
  simp only [this]
  omega

/-- Put back, it is the tree that there was. -/
theorem put_again {t u old : Tm} {p : List Int} (ht : t.isTree = true) (hu : u.isTree = true) (hat : t.atP p = some old) (hs : ¬ 2000 < (Tm.putP u t p).size2.1) :
    (Tm.putP u t p).atT p = (u, 0) ∧ (Tm.putP u t p).putT p old = (t, 0) ∧ (Tm.putP u t p).isTree = true := by
  have hX : (Tm.putP u t p).isTree = true := Tm.tree_of_size2 (Tm.putP_right ((Tm.isTree_iff u).1 hu).2.2 t p ((Tm.isTree_iff t).1 ht).2.2) hs
  have h1 := Tm.at_put u p t old hat
  have h2 : (Tm.putP u t p).atT p = (u, 0) := by unfold Tm.atT; rw [if_pos hX, h1]
  refine ⟨h2, ?_, hX⟩
  unfold Tm.putT
  rw [if_pos (Tm.atP_tree ht hat), h2, if_pos rfl, Tm.put_back u p t old hat, if_neg]
  have := Tm.size2_isTree ht
  omega

/-- Elsewhere nothing has changed. -/
theorem put_elsewhere {t u x : Tm} {p q : List Int} (ht : t.isTree = true) (hX : (Tm.putP u t p).isTree = true) (h1 : begB p q = false) (h2 : begB q p = false) (hq : t.atP q = some x) :
    t.atT q = (x, 0) ∧ (Tm.putP u t p).atT q = (x, 0) := by
  unfold Tm.atT
  rw [if_pos ht, if_pos hX, Tm.put_else u p q t h1 h2, hq]
  exact ⟨rfl, rfl⟩
end Go.Proofs.Ytljnmjehokijgaa

/- SigPuts: the walk. -/
namespace Go.Proofs.Ytljnmjehokijgaa
open Go.RowKit

theorem pick_at (wh : Int) (n : Nat) (h1 : 1 ≤ n) (h2 : n ≤ 2000) : ∃ j : Nat, wrap64 ((IntKind.u64.wrap wh).tmod (n : Int)) = (j : Int) ∧ j < n := by
  have h0 : 0 ≤ IntKind.u64.wrap wh := by
    simp only [IntKind.wrap, IntKind.signed, IntKind.bits]
    first | omega | (simp; omega) | (simp; exact Int.emod_nonneg _ (by decide))
  generalize IntKind.u64.wrap wh = x at *
  have h3 : 0 ≤ x.tmod (n : Int) := Int.tmod_nonneg _ h0
  have h4 : x.tmod (n : Int) < (n : Int) := Int.tmod_lt_of_pos _ (by omega)
  have h5 : wrap64 (x.tmod (n : Int)) = x.tmod (n : Int) := IntWalk.wrap64_in _ (by omega)
  exact ⟨(x.tmod (n : Int)).toNat, by rw [h5]; omega, by omega⟩

theorem RowCC.at {w : World} {a : Option Addr} {n c : Nat} {l : List (List Int)} (h : RowCC w (.slice a n c) l) (k : Nat) (hk : k < l.length) :
    ∃ g off ap cp, a = some ⟨g, off, none⟩ ∧ g < w.heap.size ∧ w.cell? ⟨g, off + k, none⟩ = some (.slice ap l[k].length cp) ∧ RowC w (.slice ap l[k].length cp) l[k] := by
  obtain ⟨a', c', e, hx⟩ := h
  injection e with e1 e2 e3
  subst e1
  obtain ⟨g, off, vi, ha, hg, hc, hr⟩ := hx k l[k] (List.getElem?_eq_getElem hk)
  obtain ⟨⟨ap, cp, rfl, h1, h2⟩, h3⟩ := hr
  exact ⟨g, off, ap, cp, ha, hg, hc, ⟨⟨ap, cp, rfl, h1, h2⟩, h3⟩⟩

theorem Tm.size_one : ∀ t : Tm, 1 ≤ t.size
  | .node k n l => by simp only [Tm.size]; exact Nat.le_add_left 1 _

set_option maxRecDepth 100000 in
set_option maxHeartbeats 1600000 in
theorem sigPuts_any (w : World) (t : Tm) (v : Value) (u : Tm) (vu : Value) (wh : Int) (ht : TmIn w t v) (_hs : t.small) (hu : TmIn w u vu) (_hs2 : u.small) (_hwh : -9223372036854775808 ≤ wh ∧ wh ≤ 9223372036854775807) :
    Calls Try.prog 4 #[v, vu, .int .i64 wh] w fun e w' => e = .returned (.bool true) ∧ Below w.heap.size w w' := by
  obtain ⟨pt, ct, rfl, -⟩ := ht.form
  obtain ⟨pu, cu, rfl, -⟩ := hu.form
  obtain ⟨W, hW, tW, hC⟩ := box2 w (.int .i64 t.kind) (.int .i64 t.num) (.slice pt t.kids.length ct) (.int .i64 u.kind) (.int .i64 u.num) (.slice pu u.kids.length cu) 24 24
  have hfin : ∀ V, Turned W V (fun _ => False) → Below w.heap.size w V := fun V hV => (tW.trans hV (fun _ _ hf => hf)).below (Nat.le_refl _) (fun _ hf => hf.elim)
  have hF := fun V V' (hV : Turned W V (fun _ => False)) (hV' : V' = V.alloc (.cells #[.int .i64 t.kind, .int .i64 t.num, .slice pt t.kids.length ct, .int .i64 u.kind, .int .i64 u.num, .slice pu u.kids.length cu] 24)) =>
    few_any [t, u] (.slice (some ⟨V.heap.size, 0, none⟩) 2 2) V' (rowTm_op2 (by rw [hV']; exact heap_alloc_new _ _) (TmIn.turned (by rw [hV']; exact (tW.trans hV (fun _ _ hf => hf)).alloc _) _ ht) (TmIn.turned (by rw [hV']; exact (tW.trans hV (fun _ _ hf => hf)).alloc _) _ hu))
  have HI1 := Lib.hid (fun V (hV : Turned W V (fun _ => False)) => ris_any t _ V (TmIn.turned (tW.trans hV (fun _ _ hf => hf)) _ ht))
  have HI2 := Lib.hid (fun V (hV : Turned W V (fun _ => False)) => ris_any u _ V (TmIn.turned (tW.trans hV (fun _ _ hf => hf)) _ hu))
  have HP := Lib.hid (fun V (hV : Turned W V (fun _ => False)) => sigPaths_any t _ V (TmIn.turned (tW.trans hV (fun _ _ hf => hf)) _ ht))
  have HSz := Lib.hid (fun V (hV : Turned W V (fun _ => False)) => size_any t _ V (TmIn.turned (tW.trans hV (fun _ _ hf => hf)) _ ht))
  have HT := Lib.hid (fun V (hV : Turned W V (fun _ => False)) => TmIn.turned (tW.trans hV (fun _ _ hf => hf)) _ ht)
  have HU := Lib.hid (fun V (hV : Turned W V (fun _ => False)) => TmIn.turned (tW.trans hV (fun _ _ hf => hf)) _ hu)
  have HW := Lib.hid hW
  have HC := Lib.hid hC
  have HFin := Lib.hid hfin
  have Hsane := Lib.hid (sane_all W)
  have HF := Lib.hid hF
  clear hW hC hfin hF ht hu tW _hs _hs2
  generalize fewB [t, u] = fw at *
  generalize hk0 : t.kind = tk at *
  generalize hk1 : t.num = tn at *
  generalize hk2 : t.kids.length = tq at *
  generalize hk3 : u.kind = uk at *
  generalize hk4 : u.num = un at *
  generalize hk5 : u.kids.length = uq at *
  clear hk0 hk1 hk2 hk3 hk4 hk5
  go_enter Try.func4, Try.ntmps4
  go_wp2_with fail
  rw [← HW.out]
  refine Hsane.out.mono ?_
  rintro e w1 ⟨rfl, t1⟩
  obtain ⟨c0, c1, c2, d0, d1, d2, l1⟩ := HC.out w1 t1
  obtain ⟨V', hV'⟩ : ∃ V', V' = w1.alloc (.cells #[.int .i64 tk, .int .i64 tn, .slice pt tq ct, .int .i64 uk, .int .i64 un, .slice pu uq cu] 24) := ⟨_, rfl⟩
  have Hfw := Lib.hid (HF.out w1 V' t1 hV')
  have T1 := Lib.hid (show Turned W V' (fun _ => False) by rw [hV']; exact t1.alloc _)
  have HV' := Lib.hid hV'
  clear t1 hV' HF
  go_wp2_with fail
  rw [← HV'.out]
  refine Hfw.out.mono ?_
  rintro e w2 ⟨rfl, t2⟩
  have T2 := Lib.hid (T1.out.trans t2 (fun _ _ hf => hf))
  clear t2 c0 c1 c2 d0 d1 d2 l1
  cases fw
  · go_wp2
    go_ret
    exact ⟨rfl, HFin.out _ T2.out⟩
  obtain ⟨c0, c1, c2, d0, d1, d2, l1⟩ := HC.out w2 T2.out
  go_wp2_with fail
  refine (HI1.out w2 T2.out).mono ?_
  rintro e w3 ⟨rfl, t3⟩
  have T3 := Lib.hid (T2.out.trans t3 (fun _ _ hf => hf))
  clear t3 c0 c1 c2 d0 d1 d2 l1
  cases htt : t.isTree with
  | false =>
    go_wp2
    go_ret
    exact ⟨rfl, HFin.out _ T3.out⟩
  | true =>
  obtain ⟨c0, c1, c2, d0, d1, d2, l1⟩ := HC.out w3 T3.out
  go_wp2_with fail
  refine (HI2.out w3 T3.out).mono ?_
  rintro e w4 ⟨rfl, t4⟩
  have T4 := Lib.hid (T3.out.trans t4 (fun _ _ hf => hf))
  clear t4 c0 c1 c2 d0 d1 d2 l1
  cases huu : u.isTree with
  | false =>
    go_wp2
    go_ret
    exact ⟨rfl, HFin.out _ T4.out⟩
  | true =>
  obtain ⟨c0, c1, c2, d0, d1, d2, l1⟩ := HC.out w4 T4.out
  go_wp2_with fail
  refine (HP.out w4 T4.out).mono ?_
  rintro e w5 ⟨h5, -, t5⟩
  obtain ⟨vp, rfl, hO⟩ := h5 htt
  have hR := hO.rowsC
  obtain ⟨ap, cp, rfl⟩ := hO.form
  have HR := Lib.hid hR
  have T5 := Lib.hid (T4.out.trans t5 (fun _ _ hf => hf))
  have hpl := Tm.paths_len t []
  have hsz := Tm.size2_isTree htt
  have hs1 := Tm.size_one t
  clear h5 t5 hO hR c0 c1 c2 d0 d1 d2 l1
  have Hpl := Lib.hid (fun q (h : q ∈ t.paths []) => Tm.places h)
  generalize t.paths [] = L at *
  have HSz6 := HSz.out w5 T5.out
  unfold SizePost at HSz6
  rw [hsz.1, ← hpl] at HSz6
  have hL1 : 1 ≤ L.length := by omega
  have hL2 : L.length ≤ 2000 := by omega
  generalize t.size2.2 = sd at *
  have Hsz := Lib.hid HSz6
  clear HSz6 HSz hpl hsz hs1
  obtain ⟨c0, c1, c2, d0, d1, d2, l1⟩ := HC.out w5 T5.out
  go_wp2_with fail
  refine Hsz.out.mono ?_
  rintro e w6 ⟨rfl, t6⟩
  have T6 := Lib.hid (T5.out.trans t6 (fun _ _ hf => hf))
  have HR6 := Lib.hid (HR.out.turned t6)
  clear t6 c0 c1 c2 d0 d1 d2 l1 HR
  have e1 : ((L.length : Int) == 0) = false := beq_eq_false_iff_ne.2 (by omega)
  obtain ⟨c0, c1, c2, d0, d1, d2, l1⟩ := HC.out w6 T6.out
  obtain ⟨j, hj, hjl⟩ := pick_at wh L.length hL1 hL2
  have hjl2 : (j : Int) < (L.length : Int) := by omega
  obtain ⟨gL, oL, aP, cP, rfl, lgL, hcP, hPC⟩ := HR6.out.at j hjl
  obtain ⟨old, hold⟩ := Hpl.out L[j] (List.getElem_mem hjl)
  generalize hPL : L[j] = P at *
  clear hPL
  obtain ⟨hp1, hp2, hp3⟩ := put_place htt huu hold
  have hAt := sigAt_any t _ P _ w6 (HT.out w6 T6.out) hPC.1
  rw [hp1] at hAt
  have HAt := Lib.hid hAt
  have HPC := Lib.hid hPC
  have Hp2 := Lib.hid hp2
  have Hp3 := Lib.hid hp3
  have Hold := Lib.hid hold
  have Htt := Lib.hid htt
  have Huu := Lib.hid huu
  have HLr := Lib.hid HR6.out
  have HPl := Lib.hid hcP
  clear hAt hPC hp1 hp2 hp3 hold htt huu HI1 HI2 HP HR6
  go_wp2_with fail
  refine HAt.out.mono ?_
  rintro e w7 ⟨vo, rfl, hvo, t7⟩
  have hO := TmS.toIn _ hvo
  obtain ⟨po, co, rfl⟩ := hvo.form
  obtain ⟨V7, hV7, tV7, hC7⟩ := box1 w7 (.int .i64 old.kind) (.int .i64 old.num) (.slice po old.kids.length co) 24
  have T67 := Lib.hid (t7.trans tV7 (fun _ _ hf => hf))
  have T7 := Lib.hid (T6.out.trans T67.out (fun _ _ hf => hf))
  have HO := Lib.hid (TmIn.turned tV7 _ hO)
  have HC7 := Lib.hid hC7
  have HV7 := Lib.hid hV7
  have hput := sigPut_any t u _ _ P _ V7 (HT.out V7 T7.out) (HU.out V7 T7.out) (HPC.out.turned T67.out)
  have HPut := Lib.hid hput
  clear hvo hO t7 hV7 tV7 hC7 hput c0 c1 c2 d0 d1 d2 l1 HAt
  generalize hk0 : old.kind = ok at *
  generalize hk1 : old.num = on at *
  generalize hk2 : old.kids.length = oq at *
  clear hk0 hk1 hk2
  obtain ⟨c0, c1, c2, d0, d1, d2, l1⟩ := HC.out V7 T7.out
  go_upto_region 11 with fail
  rw [← HV7.out]
  go_wp2_with fail
  refine HPut.out.mono ?_
  rintro e w8 ⟨vx, rfl, hvx, t8⟩
  have hX := TmS.toIn _ hvx
  obtain ⟨px, cx, rfl⟩ := hvx.form
  generalize hXX : t.putT P u = XX at *
  obtain ⟨X, ex⟩ := XX
  simp only at hX
  obtain ⟨V8, hV8, tV8, hC8⟩ := box1 w8 (.int .i64 X.kind) (.int .i64 X.num) (.slice px X.kids.length cx) 24
  have T78 := Lib.hid (t8.trans tV8 (fun _ _ hf => hf))
  have T8 := Lib.hid (T7.out.trans T78.out (fun _ _ hf => hf))
  have HX := Lib.hid (TmIn.turned tV8 _ hX)
  have HC8 := Lib.hid hC8
  have HV8 := Lib.hid hV8
  clear hvx hX t8 hV8 tV8 hC8 c0 c1 c2 d0 d1 d2 l1 HPut hXX
  go_upto_region 14 with fail
  rw [← HV8.out]
  by_cases hx : ex = 0
  rotate_left 1
  · obtain rfl : ex = 2 := Hp2.out hx
    clear hx Hp2 Hp3
    go_wp2
    go_ret
    exact ⟨rfl, HFin.out _ T8.out⟩
  subst hx
  obtain ⟨hXe, hXs⟩ := Hp3.out rfl
  have hXe : X = Tm.putP u t P := hXe
  obtain ⟨ha1, ha2, ha3⟩ := put_again Htt.out Huu.out Hold.out (by have h9 := hXs; omega)
  rw [← hXe] at ha1 ha2 ha3
  have HElse := Lib.hid (fun q (h1 : begB P q = false) (h2 : begB q P = false) y (hq : t.atP q = some y) => show t.atT q = (y, 0) ∧ X.atT q = (y, 0) from by
    have := put_elsewhere (u := u) (p := P) Htt.out (by rw [← hXe]; exact ha3) h1 h2 hq
    rw [← hXe] at this
    exact this)
  have h9 := sigAt_any X _ P _ V8 HX.out (HPC.out.1.turned (T67.out.trans T78.out (fun _ _ hf => hf)))
  rw [ha1] at h9
  have H9 := Lib.hid h9
  have Ha2 := Lib.hid ha2
  have T68 := Lib.hid (T67.out.trans T78.out (fun _ _ hf => hf))
  have HXa := Lib.hid (fun V (hV : Turned V8 V (fun _ => False)) q vq (hq : RowI V vq q) => sigAt_any X _ q vq V (TmIn.turned hV _ HX.out) hq)
  have HXp := Lib.hid (fun V (hV : Turned V8 V (fun _ => False)) => sigPut_any X old _ _ P _ V (TmIn.turned hV _ HX.out) (TmIn.turned (T78.out.trans hV (fun _ _ hf => hf)) _ HO.out) (HPC.out.turned (T68.out.trans hV (fun _ _ hf => hf))))
  clear hXe hXs ha1 ha2 ha3 h9 Hp2 Hp3 Hold Huu
  generalize X.kind = xk at *
  generalize X.num = xn at *
  generalize X.kids.length = xq at *
  obtain ⟨e0, e1', e2, l2⟩ := HC8.out V8 (Turned.refl _ _)
  go_wp2_with fail
  refine H9.out.mono ?_
  rintro e w9 ⟨vy, rfl, hvy, t9⟩
  have hY := TmS.toIn _ hvy
  obtain ⟨py, cy, rfl⟩ := hvy.form
  obtain ⟨V9, hV9, tV9, hC9⟩ := box1 w9 (.int .i64 u.kind) (.int .i64 u.num) (.slice py u.kids.length cy) 24
  have T89 := Lib.hid (t9.trans tV9 (fun _ _ hf => hf))
  have HY := Lib.hid (TmIn.turned tV9 _ hY)
  have HC9 := Lib.hid hC9
  have HV9 := Lib.hid hV9
  have h10 := HXp.out V9 T89.out
  rw [Ha2.out] at h10
  have H10 := Lib.hid h10
  clear hvy hY t9 hV9 tV9 hC9 h10 HXp Ha2 e0 e1' e2 l2
  generalize hk3 : u.kind = uk2 at *
  generalize hk4 : u.num = un2 at *
  generalize hk5 : u.kids.length = uq2 at *
  clear hk3 hk4 hk5
  obtain ⟨e0, e1', e2, l2⟩ := HC8.out V9 T89.out
  obtain ⟨f0, f1, f2, l3⟩ := HC7.out V9 (T78.out.trans T89.out (fun _ _ hf => hf))
  go_upto_region 17 with fail
  rw [← HV9.out]
  go_wp2_with fail
  refine H10.out.mono ?_
  rintro e w10 ⟨vz, rfl, hvz, t10⟩
  have hZ := TmS.toIn _ hvz
  obtain ⟨pz, cz, rfl⟩ := hvz.form
  obtain ⟨V10, hV10, tV10, hC10⟩ := box1 w10 (.int .i64 t.kind) (.int .i64 t.num) (.slice pz t.kids.length cz) 24
  have T910 := Lib.hid (t10.trans tV10 (fun _ _ hf => hf))
  have T810 := Lib.hid (T89.out.trans T910.out (fun _ _ hf => hf))
  have T10 := Lib.hid (T8.out.trans T810.out (fun _ _ hf => hf))
  have T610 := Lib.hid (T68.out.trans T810.out (fun _ _ hf => hf))
  have HZ := Lib.hid (TmIn.turned tV10 _ hZ)
  have HC10 := Lib.hid hC10
  have HV10 := Lib.hid hV10
  clear hvz hZ t10 hV10 tV10 hC10 e0 e1' e2 l2 f0 f1 f2 l3
  generalize hk3 : t.kind = tk2 at *
  generalize hk4 : t.num = tn2 at *
  generalize hk5 : t.kids.length = tq2 at *
  clear hk3 hk4 hk5
  obtain ⟨e0, e1', e2, l2⟩ := HC9.out V10 T910.out
  obtain ⟨f0, f1, f2, l3⟩ := HC10.out V10 (Turned.refl _ _)
  obtain ⟨c0, c1, c2, d0, d1, d2, l1⟩ := HC.out V10 T10.out
  have hs1 := rsame_any u u _ _ V10 (TmIn.turned T910.out _ HY.out) (HU.out V10 T10.out)
  rw [(Tm.same_iff u u).2 rfl] at hs1
  have Hs1 := Lib.hid hs1
  clear hs1
  go_upto_region 18 with fail
  rw [← HV10.out]
  go_wp2_with fail
  refine Hs1.out.mono ?_
  rintro e w11 ⟨rfl, t11⟩
  have T1011 := Lib.hid t11
  have T11 := Lib.hid (T10.out.trans t11 (fun _ _ hf => hf))
  have hs2 := rsame_any t t _ _ w11 (TmIn.turned t11 _ HZ.out) (HT.out w11 T11.out)
  rw [(Tm.same_iff t t).2 rfl] at hs2
  have Hs2 := Lib.hid hs2
  clear t11 hs2 e0 e1' e2 l2 f0 f1 f2 l3 c0 c1 c2 d0 d1 d2 l1
  obtain ⟨f0, f1, f2, l3⟩ := HC10.out w11 T1011.out
  obtain ⟨c0, c1, c2, d0, d1, d2, l1⟩ := HC.out w11 T11.out
  go_wp2_with fail
  refine Hs2.out.mono ?_
  rintro e w12 ⟨rfl, t12⟩
  have T812 := Lib.hid ((T810.out.trans T1011.out (fun _ _ hf => hf)).trans t12 (fun _ _ hf => hf))
  have T12 := Lib.hid (T11.out.trans t12 (fun _ _ hf => hf))
  have T612 := Lib.hid (T68.out.trans T812.out (fun _ _ hf => hf))
  clear t12 f0 f1 f2 l3 c0 c1 c2 d0 d1 d2 l1
  clear Hsz Hs1 Hs2 H9 H10 T1 T2 T3 T4 T5 T6 T7 T8 T10 T11 T67 T68 T78 T89 T910 T610 T810 T1011 HC7 HC9 HC10 HV7 HV8 HV9 HV10 HY HZ HO Hsane
  go_wp2_with fail
  go_loopw [124] (fun i wr => ∃ k : Nat, k ≤ L.length ∧ i = .int .i64 k ∧ Turned w12 wr (fun _ => False)) (fun i _ => L.length - (intOf i).toNat)
  case atStart => exact ⟨0, Nat.zero_le _, rfl, Turned.refl _ _⟩
  case round =>
    obtain ⟨k, hk, rfl, hwr⟩ := hrel
    have R12 := Lib.hid (T12.out.trans hwr (fun _ _ hf => hf))
    have R8 := Lib.hid (T812.out.trans hwr (fun _ _ hf => hf))
    have R6 := Lib.hid (T612.out.trans hwr (fun _ _ hf => hf))
    have Hwr := Lib.hid hwr
    clear hwr
    by_cases hlt : k < L.length
    · have hki : (k : Int) < (L.length : Int) := by omega
      obtain ⟨gL2, oL2, aq, cq, eL, lgq, hcq, hqC⟩ := (HLr.out.turned R6.out).at k hlt
      simp only [Option.some.injEq, Addr.mk.injEq, and_true] at eL
      obtain ⟨rfl, rfl⟩ := eL
      obtain ⟨y, hy⟩ := Hpl.out L[k] (List.getElem_mem hlt)
      generalize L[k] = q at *
      have Hy := Lib.hid hy
      have Hq := Lib.hid hqC
      clear hy hqC
      by_cases h100 : 100 < (k : Int)
      · go_wp2
        go_ret
        exact ⟨rfl, HFin.out _ R12.out⟩
      have Hb1 := Lib.hid (begins_any q P _ _ wr Hq.out.1 (HPC.out.turned R6.out))
      go_wp2_with fail
      refine Hb1.out.mono ?_
      rintro e w13 ⟨rfl, t13⟩
      have T13 := Lib.hid t13
      clear t13 hcq lgq Hb1
      cases hq1 : begB q P with
      | true =>
        have NT := Lib.hid (Hwr.out.trans T13.out (fun _ _ hf => hf))
        go_wp2
        go_roundw
        case rel => exact ⟨k + 1, by omega, by go_num, NT.out⟩
        case measure => simp [intOf]; omega
      | false =>
        have Hb2 := Lib.hid (begins_any P q _ _ w13 (HPC.out.1.turned (R6.out.trans T13.out (fun _ _ hf => hf))) (Hq.out.turned T13.out))
        go_wp2_with fail
        refine Hb2.out.mono ?_
        rintro e w14 ⟨rfl, t14⟩
        have T14 := Lib.hid (T13.out.trans t14 (fun _ _ hf => hf))
        clear t14 Hb2
        cases hq2 : begB P q with
        | true =>
          have NT := Lib.hid (Hwr.out.trans T14.out (fun _ _ hf => hf))
          go_wp2
          go_roundw
          case rel => exact ⟨k + 1, by omega, by go_num, NT.out⟩
          case measure => simp [intOf]; omega
        | false =>
          obtain ⟨E1, E2⟩ := HElse.out q hq2 hq1 y Hy.out
          have hA := sigAt_any t _ q _ w14 (HT.out w14 (R12.out.trans T14.out (fun _ _ hf => hf))) (Hq.out.1.turned T14.out)
          rw [E1] at hA
          have HA := Lib.hid hA
          have HE2 := Lib.hid E2
          clear E1 E2 hA
          obtain ⟨c0, c1, c2, d0, d1, d2, l1⟩ := HC.out w14 (R12.out.trans T14.out (fun _ _ hf => hf))
          go_wp2_with fail
          refine HA.out.mono ?_
          rintro e w15 ⟨va, rfl, hva, t15⟩
          have hYa := TmS.toIn _ hva
          obtain ⟨pa, ca, rfl⟩ := hva.form
          obtain ⟨V15, hV15, tV15, hC15⟩ := box1 w15 (.int .i64 y.kind) (.int .i64 y.num) (.slice pa y.kids.length ca) 24
          have T15 := Lib.hid ((T14.out.trans t15 (fun _ _ hf => hf)).trans tV15 (fun _ _ hf => hf))
          have HYa := Lib.hid (TmIn.turned tV15 _ hYa)
          have HC15 := Lib.hid hC15
          have HV15 := Lib.hid hV15
          have hB := HXa.out V15 (R8.out.trans T15.out (fun _ _ hf => hf)) q _ (Hq.out.1.turned T15.out)
          rw [HE2.out] at hB
          have HB := Lib.hid hB
          clear hva hYa t15 hV15 tV15 hC15 hB c0 c1 c2 d0 d1 d2 l1 HA HE2
          generalize hk3 : y.kind = yk at *
          generalize hk4 : y.num = yn at *
          generalize hk5 : y.kids.length = yq at *
          have Hyk := Lib.hid (And.intro hk3 (And.intro hk4 hk5))
          clear hk3 hk4 hk5
          obtain ⟨e0, e1', e2, l2⟩ := HC8.out V15 (R8.out.trans T15.out (fun _ _ hf => hf))
          go_upto_region 26 with fail
          rw [← HV15.out]
          go_wp2_with fail
          refine HB.out.mono ?_
          rintro e w16 ⟨vb, rfl, hvb, t16⟩
          have hYb := TmS.toIn _ hvb
          obtain ⟨pb, cb, rfl⟩ := hvb.form
          simp only at hYb
          rw [Hyk.out.1, Hyk.out.2.1, Hyk.out.2.2] at hYb
          simp only
          rw [Hyk.out.1, Hyk.out.2.1, Hyk.out.2.2]
          obtain ⟨V16, hV16, tV16, hC16⟩ := box1 w16 (.int .i64 yk) (.int .i64 yn) (.slice pb yq cb) 24
          have T1516 := Lib.hid (t16.trans tV16 (fun _ _ hf => hf))
          have T16 := Lib.hid (T15.out.trans T1516.out (fun _ _ hf => hf))
          have Hsm := Lib.hid (rsame_any y y _ _ V16 (TmIn.turned T1516.out _ HYa.out) (TmIn.turned tV16 _ hYb))
          have HV16 := Lib.hid hV16
          obtain ⟨f0, f1, f2, l3⟩ := hC16 V16 (Turned.refl _ _)
          clear hvb hYb t16 hV16 tV16 hC16 e0 e1' e2 l2 HB
          obtain ⟨e0, e1', e2, l2⟩ := HC15.out V16 T1516.out
          have hsm := Hsm.out
          rw [(Tm.same_iff y y).2 rfl] at hsm
          have Hsn := Lib.hid hsm
          clear hsm Hsm
          go_upto_region 27 with fail
          rw [← HV16.out]
          go_wp2_with fail
          refine Hsn.out.mono ?_
          rintro e w17 ⟨rfl, t17⟩
          have NT := Lib.hid (Hwr.out.trans (T16.out.trans t17 (fun _ _ hf => hf)) (fun _ _ hf => hf))
          clear t17 e0 e1' e2 l2 f0 f1 f2 l3
          go_wp2
          go_roundw
          case rel => exact ⟨k + 1, by omega, by go_num, NT.out⟩
          case measure => simp [intOf]; omega
    · obtain rfl : k = L.length := by omega
      go_wp2
      go_ret
      exact ⟨rfl, HFin.out _ R12.out⟩
end Go.Proofs.Ytljnmjehokijgaa
