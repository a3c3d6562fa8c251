/- Parts of the proof, one behind the other. -/
import Derived.Laws.MakeOwn
import Derived.Test.YtljnmjehokijgaaMg6

/- filled: what a function value says in the places of variables. -/
namespace Go.Proofs.Ytljnmjehokijgaa
open Go.RowKit

/-- What a function that makes a tree anew gives: all its rows are new. -/
def NewT (w : World) (t : Tm) (e : Ending) (w' : World) : Prop := ∃ v, e = .returned v ∧ TmS w' (fun g => w.heap.size ≤ g) t v ∧ Turned w w' (fun _ => False)

/-- A function value says what stands in the place of a variable. -/
structure Says (w1 : World) (g : FuncId) (caps : Array Value) (mk : Int → Tm) (P : Int → Prop) : Prop where
  run : ∀ (x : Value) (w : World), (callFunc g (#[x] ++ caps)).run Try.prog w = .ok (.enter g (#[x] ++ caps)) w
  call : ∀ n w, P n → Turned w1 w (fun _ => False) → Calls Try.prog g (#[.int .i64 n] ++ caps) w (NewT w (mk n))

theorem sigVariable_any (n : Int) (w : World) : Calls Try.prog 59 #[.int .i64 n] w (NewT w (Tm.leaf n)) := by
  go_enter Try.func59, Try.ntmps59
  go_wp2
  exact bodyPost_ret (results_term rfl (heap_alloc_new w _) rfl) rfl ⟨_, rfl, ⟨none, 0, rfl, Nat.zero_le _, trivial⟩, (Turned.refl w _).alloc _⟩

/-- The cells of a row of trees, of which not all are known. -/
theorem FillRow.cells {w : World} {H m : Nat} {S : Nat → Prop} {l : List Tm} (h : FillRow w H S m l) (hl : l.length < m) : ∃ x0 x1 x2, w.cell? ⟨H, l.length * 3, none⟩ = some x0 ∧ w.cell? ⟨H, l.length * 3 + 1, none⟩ = some x1 ∧ w.cell? ⟨H, l.length * 3 + 2, none⟩ = some x2 ∧
    w.frozen? ⟨H, l.length * 3, none⟩ = false ∧ w.frozen? ⟨H, l.length * 3 + 1, none⟩ = false ∧ w.frozen? ⟨H, l.length * 3 + 2, none⟩ = false ∧ H < w.heap.size := by
  obtain ⟨c, h1, h2, -⟩ := h
  refine ⟨c[l.length * 3]'(by omega), c[l.length * 3 + 1]'(by omega), c[l.length * 3 + 2]'(by omega), ?_, ?_, ?_, ?_, ?_, ?_, lt_of_block h1⟩
  · simp only [World.cell?, h1]; exact Array.getElem?_eq_getElem _
  · simp only [World.cell?, h1]; exact Array.getElem?_eq_getElem _
  · simp only [World.cell?, h1]; exact Array.getElem?_eq_getElem _
  · simp [World.frozen?, h1]
  · simp [World.frozen?, h1]
  · simp [World.frozen?, h1]

theorem run_makeTerms (n : Nat) (hn : n ≤ 1000000) (w : World) : (Instr.makeSlice 22 (.int .i64 (n : Int)) (.int .i64 (n : Int))).run Try.prog w = .ok (.slice (some ⟨w.heap.size, 0, none⟩) n n) (w.alloc (.cells (madeCells #[.int .i64 0, .int .i64 0, .slice none 0 0] (n * 3)) 24)) := by
  obtain ⟨i0, hi0, hz0, hz1, hz2⟩ := info_parts Try.infoTerm
  have h := run_make (P := Try.prog) w 22 24 i0 _ Try.underlying22 hi0 hz0 .i64 .i64 (n : Int) (n : Int) (by omega) (Int.le_refl _) (by rw [hz2]; omega) (by omega)
  simpa [hz1, Value.cells] using h

set_option maxRecDepth 100000 in
set_option maxHeartbeats 3200000 in
theorem filled_any (w0 w1 : World) (h01 : Turned w0 w1 (fun _ => False)) (g : FuncId) (caps : Array Value) (mk : Int → Tm) (P : Int → Prop) (hF : Says w1 g caps mk P) :
    ∀ (ta : Tm) (va : Value) (w : World), TmIn w0 ta va → Turned w1 w (fun _ => False) → (∀ x, ta.vin x → P x) → ta.size ≤ 1000000 →
    Calls Try.prog 55 #[va, .func (.func g) #[] caps] w (NewT w (ta.fill mk)) := by
  have HF := Lib.hid hF
  have H01 := Lib.hid h01
  clear hF h01
  intro ta
  refine Tm.ind (P := fun ta => ∀ (va : Value) (w : World), TmIn w0 ta va → Turned w1 w (fun _ => False) → (∀ x, ta.vin x → P x) → ta.size ≤ 1000000 →
    Calls Try.prog 55 #[va, .func (.func g) #[] caps] w (NewT w (ta.fill mk))) ?_ ta
  clear ta
  intro ka na la ih va w ha h1 hvin hsz
  obtain ⟨aa, ca, rfl, hla, ra⟩ := ha
  obtain ⟨W, hW, tW, hC⟩ := box2 w (.int .i64 ka) (.int .i64 na) (.slice aa la.length ca) (.int .i64 0) (.int .i64 0) (.slice none 0 0) 24 24
  obtain ⟨c0, c1, c2, d0, d1, d2, lW⟩ := hC W (Turned.refl _ _)
  have hWs : W.heap.size = w.heap.size + 2 := by rw [hW]; simp
  have k4 : W.heap[w.heap.size + 1]? = some (.cells #[.int .i64 0, .int .i64 0, .slice none 0 0] 24 (0, 0)) := by
    have h := heap_alloc_new (w.alloc (.cells #[.int .i64 ka, .int .i64 na, .slice aa la.length ca] 24)) (.cells #[.int .i64 0, .int .i64 0, .slice none 0 0] 24)
    rw [show (w.alloc (.cells #[.int .i64 ka, .int .i64 na, .slice aa la.length ca] 24)).heap.size = w.heap.size + 1 by simp] at h
    rw [hW]
    exact h
  have k0 : W.heap[w.heap.size]? = some (.cells #[.int .i64 ka, .int .i64 na, .slice aa la.length ca] 24 (0, 0)) := by
    rw [hW]
    exact (((Turned.refl _ (fun _ => False)).alloc _).block _ (lt_of_block (heap_alloc_new w _)) (fun hf => hf)).trans (heap_alloc_new w _)
  have h1W := h1.trans tW (fun _ _ hf => hf)
  by_cases hk : ka = 1
  · subst hk
    have hcall := HF.out.call na W (hvin na (by simp [Tm.vin])) h1W
    have hrun := HF.out.run (.int .i64 na)
    have Hv := Lib.hid (show (Tm.node 1 na la).fill mk = mk na by simp [Tm.fill])
    have Hcall := Lib.hid hcall
    have HW := Lib.hid hW
    have TW := Lib.hid tW
    have K4 := Lib.hid k4
    have HWs := Lib.hid hWs
    clear hcall hW tW hC ih k4 k0 h1W h1 hWs ra hla hvin hsz
    go_enter Try.func55, Try.ntmps55
    go_upto_region 1 with fail
    rw [← HW.out]
    go_wp2_with fail
    refine Hcall.out.mono ?_
    rintro e w2 ⟨v, rfl, hv, t2⟩
    obtain ⟨p, cp, rfl⟩ := hv.form
    have k42 := turn_keep t2 K4.out
    have l42 := lt_of_block k42
    have f40 : w2.frozen? ⟨w.heap.size + 1, 0, none⟩ = false := by simp [World.frozen?, k42]
    have f41 : w2.frozen? ⟨w.heap.size + 1, 1, none⟩ = false := by simp [World.frozen?, k42]
    have f42 : w2.frozen? ⟨w.heap.size + 1, 2, none⟩ = false := by simp [World.frozen?, k42]
    have e40 : w2.cell? ⟨w.heap.size + 1, 0, none⟩ = some (.int .i64 0) := by simp [World.cell?, k42]
    have e41 : w2.cell? ⟨w.heap.size + 1, 1, none⟩ = some (.int .i64 0) := by simp [World.cell?, k42]
    have e42 : w2.cell? ⟨w.heap.size + 1, 2, none⟩ = some (.slice none 0 0) := by simp [World.cell?, k42]
    obtain ⟨g1, g2⟩ := store3 k42 (.int .i64 (mk na).kind) (.int .i64 (mk na).num) (.slice p (mk na).kids.length cp)
    have hfin : NewT w ((Tm.node 1 na la).fill mk) (.returned (.agg #[.int .i64 (mk na).kind, .int .i64 (mk na).num, .slice p (mk na).kids.length cp])) (((w2.setCell ⟨w.heap.size + 1, 0, none⟩ (.int .i64 (mk na).kind)).setCell ⟨w.heap.size + 1, 1, none⟩ (.int .i64 (mk na).num)).setCell ⟨w.heap.size + 1, 2, none⟩ (.slice p (mk na).kids.length cp)) := by
      rw [Hv.out]
      have hs := HWs.out
      exact ⟨_, rfl, TmS.turned g2 (fun j _ hj e => by omega) (fun j _ hj => by omega) _ hv, (TW.out.trans t2 (fun _ _ hf => hf)).trans g2 (fun i hi e => by omega)⟩
    have Hfin := Lib.hid hfin
    have G1 := Lib.hid g1
    clear hfin g1 g2 hv t2 k42 c0 c1 c2 d0 d1 d2 lW
    generalize (mk na).kind = yk at *
    generalize (mk na).num = yn at *
    generalize (mk na).kids.length = ym at *
    go_wp2
    exact bodyPost_ret (results_term rfl G1.out rfl) rfl Hfin.out
  have e1 : (ka == 1) = false := by simpa using hk
  have hss : Tm.sizes la ≤ 1000000 := by simp only [Tm.size] at hsz; omega
  have hlen : la.length ≤ 1000000 := Nat.le_trans (Tm.sizes_len la) hss
  obtain ⟨V, hV, tV, hCV⟩ := box1 W (.int .i64 ka) (.int .i64 na) (.slice none 0 0) 24
  have k5 : V.heap[w.heap.size + 2]? = some (.cells #[.int .i64 ka, .int .i64 na, .slice none 0 0] 24 (0, 0)) := by
    have := heap_alloc_new W (.cells #[.int .i64 ka, .int .i64 na, .slice none 0 0] 24)
    rw [hWs] at this
    rw [hV]
    exact this
  have k4V := turn_keep tV k4
  have k0V := turn_keep tV k0
  have hVs : V.heap.size = w.heap.size + 3 := by rw [hV]; simp; omega
  have tWV := tW.trans tV (fun _ _ hf => hf)
  have hv : (Tm.node ka na la).fill mk = .node ka na (Tm.fills mk la) := by simp only [Tm.fill]; exact if_neg hk
  have hvk : ∀ t ∈ la, ∀ x, t.vin x → P x := fun t ht x hx => hvin x (by simp only [Tm.vin]; rw [if_neg hk]; exact Tm.vins_mem ht hx)
  have HW := Lib.hid hW
  have HV := Lib.hid hV
  have K4 := Lib.hid k4V
  have K0 := Lib.hid k0V
  have K5 := Lib.hid k5
  have TW := Lib.hid tWV
  have Ih := Lib.hid ih
  have Ra := Lib.hid ra
  have H1 := Lib.hid h1
  have Hvk := Lib.hid hvk
  have Hv := Lib.hid hv
  have HVs := Lib.hid hVs
  clear hW hV k4 k4V k0 k0V k5 tW tV tWV hC ih ra h1 h1W hvk hv hvin hk hsz d0 d1 d2
  obtain ⟨v0, v1, v2, lV⟩ := hCV V (Turned.refl _ _)
  have w02 : V.cell? ⟨w.heap.size, 2, none⟩ = some (.slice aa la.length ca) := by simp [World.cell?, K0.out]
  have f52 : V.frozen? ⟨w.heap.size + 2, 2, none⟩ = false := by simp [World.frozen?, K5.out]
  rw [hWs] at v0 v1 v2 lV
  by_cases hz : la.length = 0
  · have hn : ¬ (0 : Int) < (la.length : Int) := by omega
    have Hz := Lib.hid (List.length_eq_zero_iff.1 hz)
    clear hz
    go_enter Try.func55, Try.ntmps55
    go_upto_region 1 with fail
    rw [← HW.out]
    go_upto_region 4 with fail
    rw [← HV.out]
    clear c0 c1 c2 lW e1
    go_wp2
    go_loopw [32] (fun i wr => i = .int .i64 0 ∧ wr = V) (fun _ _ => 0)
    case atStart => exact ⟨rfl, rfl⟩
    case round =>
      obtain ⟨rfl, rfl⟩ := hrel
      have k4 := K4.out
      have f10 : wr.frozen? ⟨w.heap.size + 1, 0, none⟩ = false := by simp [World.frozen?, k4]
      have f11 : wr.frozen? ⟨w.heap.size + 1, 1, none⟩ = false := by simp [World.frozen?, k4]
      have f12 : wr.frozen? ⟨w.heap.size + 1, 2, none⟩ = false := by simp [World.frozen?, k4]
      have c10 : wr.cell? ⟨w.heap.size + 1, 0, none⟩ = some (.int .i64 0) := by simp [World.cell?, k4]
      have c11 : wr.cell? ⟨w.heap.size + 1, 1, none⟩ = some (.int .i64 0) := by simp [World.cell?, k4]
      have c12 : wr.cell? ⟨w.heap.size + 1, 2, none⟩ = some (.slice none 0 0) := by simp [World.cell?, k4]
      obtain ⟨g1, g2⟩ := store3 k4 (.int .i64 ka) (.int .i64 na) (.slice none 0 0)
      have hfin : NewT w ((Tm.node ka na la).fill mk) (.returned (.agg #[.int .i64 ka, .int .i64 na, .slice none 0 0])) (((wr.setCell ⟨w.heap.size + 1, 0, none⟩ (.int .i64 ka)).setCell ⟨w.heap.size + 1, 1, none⟩ (.int .i64 na)).setCell ⟨w.heap.size + 1, 2, none⟩ (.slice none 0 0)) := by
        rw [Hv.out, Hz.out]
        exact ⟨_, rfl, ⟨none, 0, rfl, Nat.zero_le _, trivial⟩, TW.out.trans g2 (fun i hi e => by omega)⟩
      have Hfin := Lib.hid hfin
      have G1 := Lib.hid g1
      have l4 := lt_of_block k4
      clear hfin g1 g2 k4
      go_wp2
      exact bodyPost_ret (results_term rfl G1.out rfl) rfl Hfin.out
  · have hp : (0 : Int) < (la.length : Int) := by omega
    have hzp : 0 < la.length := by omega
    have hmk := run_makeTerms la.length hlen V
    go_enter Try.func55, Try.ntmps55
    go_upto_region 1 with fail
    rw [← HW.out]
    go_upto_region 4 with fail
    rw [← HV.out]
    go_upto_region 6 with fail
    have HX := Lib.hid (show FillRow ((V.setCell ⟨w.heap.size + 2, 2, none⟩ (.slice (some ⟨w.heap.size + 3, 0, none⟩) la.length la.length)).alloc (.cells (madeCells #[.int .i64 0, .int .i64 0, .slice none 0 0] (la.length * 3)) 24)) (w.heap.size + 3) (fun g => w.heap.size + 4 ≤ g) la.length (Tm.fills mk (la.take 0)) ∧
        ((V.setCell ⟨w.heap.size + 2, 2, none⟩ (.slice (some ⟨w.heap.size + 3, 0, none⟩) la.length la.length)).alloc (.cells (madeCells #[.int .i64 0, .int .i64 0, .slice none 0 0] (la.length * 3)) 24)).heap[w.heap.size + 2]? = some (.cells #[.int .i64 ka, .int .i64 na, .slice (some ⟨w.heap.size + 3, 0, none⟩) la.length la.length] 24 (0, 0)) ∧
        ((V.setCell ⟨w.heap.size + 2, 2, none⟩ (.slice (some ⟨w.heap.size + 3, 0, none⟩) la.length la.length)).alloc (.cells (madeCells #[.int .i64 0, .int .i64 0, .slice none 0 0] (la.length * 3)) 24)).heap[w.heap.size + 1]? = some (.cells #[.int .i64 0, .int .i64 0, .slice none 0 0] 24 (0, 0)) ∧
        ((V.setCell ⟨w.heap.size + 2, 2, none⟩ (.slice (some ⟨w.heap.size + 3, 0, none⟩) la.length la.length)).alloc (.cells (madeCells #[.int .i64 0, .int .i64 0, .slice none 0 0] (la.length * 3)) 24)).heap[w.heap.size]? = some (.cells #[.int .i64 ka, .int .i64 na, .slice aa la.length ca] 24 (0, 0)) ∧
        Turned w ((V.setCell ⟨w.heap.size + 2, 2, none⟩ (.slice (some ⟨w.heap.size + 3, 0, none⟩) la.length la.length)).alloc (.cells (madeCells #[.int .i64 0, .int .i64 0, .slice none 0 0] (la.length * 3)) 24)) (fun _ => False) by
      have ts : Turned V (V.setCell ⟨w.heap.size + 2, 2, none⟩ (.slice (some ⟨w.heap.size + 3, 0, none⟩) la.length la.length)) (fun k => k = w.heap.size + 2) := Turned.setCell (D := fun k => k = w.heap.size + 2) (Turned.refl _ _) (p := ⟨w.heap.size + 2, 2, none⟩) (fun _ => rfl) _
      have hsz : (V.setCell ⟨w.heap.size + 2, 2, none⟩ (.slice (some ⟨w.heap.size + 3, 0, none⟩) la.length la.length)).heap.size = w.heap.size + 3 := by rw [← HVs.out]; simp [World.setCell]
      refine ⟨⟨_, alloc_at hsz, size_madeCells _ _, fun i t h => by simp [Tm.fills] at h⟩, alloc_keep ?_, alloc_keep ((ts.block _ (lt_of_block K4.out) (by omega)).trans K4.out), alloc_keep ((ts.block _ (lt_of_block K0.out) (by omega)).trans K0.out), (TW.out.trans ts (fun i hi e => by omega)).alloc _⟩
      rw [setCell_block K5.out]
      rfl)
    generalize (V.setCell ⟨w.heap.size + 2, 2, none⟩ (.slice (some ⟨w.heap.size + 3, 0, none⟩) la.length la.length)).alloc (.cells (madeCells #[.int .i64 0, .int .i64 0, .slice none 0 0] (la.length * 3)) 24) = V1 at *
    clear c0 c1 c2 lW e1 v0 v1 v2 lV w02 f52 hmk hz hp
    have x02 : V1.cell? ⟨w.heap.size, 2, none⟩ = some (.slice aa la.length ca) := by simp [World.cell?, HX.out.2.2.2.1]
    have lx : w.heap.size < V1.heap.size := lt_of_block HX.out.2.2.2.1
    go_wp2
    clear x02 lx
    go_loopw [32] (fun i wr => ∃ k : Nat, k ≤ la.length ∧ i = .int .i64 k ∧ FillRow wr (w.heap.size + 3) (fun g => w.heap.size + 4 ≤ g) la.length (Tm.fills mk (la.take k)) ∧
        wr.heap[w.heap.size + 2]? = some (.cells #[.int .i64 ka, .int .i64 na, .slice (some ⟨w.heap.size + 3, 0, none⟩) la.length la.length] 24 (0, 0)) ∧ wr.heap[w.heap.size + 1]? = some (.cells #[.int .i64 0, .int .i64 0, .slice none 0 0] 24 (0, 0)) ∧
        wr.heap[w.heap.size]? = some (.cells #[.int .i64 ka, .int .i64 na, .slice aa la.length ca] 24 (0, 0)) ∧ Turned w wr (fun _ => False)) (fun i _ => la.length - (intOf i).toNat)
    case atStart => exact ⟨0, Nat.zero_le _, rfl, HX.out⟩
    case round =>
      obtain ⟨k, hk, rfl, hor, k5, k4, k0, ht⟩ := hrel
      by_cases hlt : k < la.length
      · have hki : (k : Int) < (la.length : Int) := by omega
        have h0r := (H01.out.trans H1.out (fun _ _ hf => hf)).trans ht (fun _ _ hf => hf)
        obtain ⟨ga, oa, sa, sc, rfl, lga, xa0, xa1, xa2, xat⟩ := tmsIn_at2 Ra.out k hlt
        have lga' : ga < wr.heap.size := Nat.lt_of_lt_of_le lga h0r.size
        have p0 := (h0r.cell (p := ⟨ga, oa + k * 3, none⟩) lga (fun hf => hf)).trans xa0
        have p1 := (h0r.cell (p := ⟨ga, oa + k * 3 + 1, none⟩) lga (fun hf => hf)).trans xa1
        have p2 := (h0r.cell (p := ⟨ga, oa + k * 3 + 2, none⟩) lga (fun hf => hf)).trans xa2
        have hlk : (Tm.fills mk (la.take k)).length = k := by rw [fills_len, List.length_take]; omega
        obtain ⟨U, hU, tU, hCU⟩ := box1 wr (.int .i64 la[k].kind) (.int .i64 la[k].num) (.slice sa la[k].kids.length sc) 24
        obtain ⟨u0, u1, u2, lU⟩ := hCU U (Turned.refl _ _)
        have k5U := turn_keep tU k5
        have c52 : U.cell? ⟨w.heap.size + 2, 2, none⟩ = some (.slice (some ⟨w.heap.size + 3, 0, none⟩) la.length la.length) := by simp [World.cell?, k5U]
        have l52 := lt_of_block k5U
        have lwr : w.heap.size + 4 ≤ wr.heap.size := by obtain ⟨c, h, -⟩ := hor; have := lt_of_block h; omega
        have Hcall := Lib.hid (fun V (hV : Turned U V (fun _ => False)) => Ih.out la[k] (List.getElem_mem hlt) (.agg #[.int .i64 la[k].kind, .int .i64 la[k].num, .slice sa la[k].kids.length sc]) V xat ((H1.out.trans (ht.trans tU (fun _ _ hf => hf)) (fun _ _ hf => hf)).trans hV (fun _ _ hf => hf)) (Hvk.out _ (List.getElem_mem hlt)) (Nat.le_trans (Tm.sizes_mem (List.getElem_mem hlt)) hss))
        have Hor := Lib.hid (hor.step tU)
        have K5' := Lib.hid k5U
        have K4' := Lib.hid (turn_keep tU k4)
        have K0' := Lib.hid (turn_keep tU k0)
        have Ht := Lib.hid (ht.trans tU (fun _ _ hf => hf))
        have Hlk := Lib.hid hlk
        have HU := Lib.hid hU
        have Hsn := Lib.hid (fills_take mk la k hlt)
        have tt : Turned U U.drew (fun _ => False) := (Turned.refl U _).drew
        have hsU : wr.heap.size ≤ U.heap.size := tU.size
        clear hor k5 k4 k0 ht hlk xa0 xa1 xa2 xat lga h0r hCU tU hU k5U
        generalize la[k].kind = xk at *
        generalize la[k].num = xn at *
        generalize la[k].kids.length = xm at *
        go_upto_region 9 with fail
        rw [← HU.out]
        go_region_law (first
          | (go_simp; go_at_call 55; refine (Hcall.out _ tt).mono ?_; rintro e w2 ⟨v1, rfl, hv1, t1⟩; obtain ⟨q1, cq1, rfl⟩ := hv1.form; have t2 : Turned U w2 (fun _ => False) := tt.trans t1 (fun _ _ hf => hf); have k52 := turn_keep t2 K5'.out; have d52 : w2.cell? ⟨w.heap.size + 2, 2, none⟩ = some (.slice (some ⟨w.heap.size + 3, 0, none⟩) la.length la.length) := (by simp [World.cell?, k52]);
             have l51 := lt_of_block k52; have hor2 := Hor.out.step t2; obtain ⟨y0, y1, y2, m0, m1, m2, m3, m4, m5, m6⟩ := hor2.cells (by rw [Hlk.out]; exact hlt); rw [Hlk.out] at m0 m1 m2 m3 m4 m5; have HV1 := Lib.hid hv1; have T2 := Lib.hid t2; clear hv1 t1 hor2 k52))
        all_goals
          have hs := set3_turned w2 (w.heap.size + 3) (k * 3) (.int .i64 (la[k].fill mk).kind) (.int .i64 (la[k].fill mk).num) (.slice q1 (la[k].fill mk).kids.length cq1)
          have hput := (Hor.out.step T2.out).put (by omega) (by rw [Hlk.out]; exact hlt) (TmS.mono (fun j _ hj => Nat.le_trans (Nat.le_trans lwr hsU) hj) _ HV1.out)
          rw [Hlk.out, ← Hsn.out] at hput
          have N5 := Lib.hid ((hs.block _ (lt_of_block (turn_keep T2.out K5'.out)) (by omega)).trans (turn_keep T2.out K5'.out))
          have N4 := Lib.hid ((hs.block _ (lt_of_block (turn_keep T2.out K4'.out)) (by omega)).trans (turn_keep T2.out K4'.out))
          have N0 := Lib.hid ((hs.block _ (lt_of_block (turn_keep T2.out K0'.out)) (by omega)).trans (turn_keep T2.out K0'.out))
          have NT := Lib.hid ((Ht.out.trans T2.out (fun _ _ hf => hf)).trans hs (fun i hi e => by omega))
          have NP := Lib.hid hput
          clear hs hput c52 l52 d52 l51 m0 m1 m2 m3 m4 m5 m6 t2 tt p0 p1 p2 u0 u1 u2 lU
          unfold set3 at N5 N4 N0 NT NP
          go_wp2
          go_roundw
          case rel =>
            exact ⟨k + 1, by omega, by go_num, NP.out, N5.out, N4.out, N0.out, NT.out⟩
          case measure => simp [intOf]; omega
      · obtain rfl : k = la.length := by omega
        rw [List.take_of_length_le (Nat.le_refl _)] at hor
        have f10 : wr.frozen? ⟨w.heap.size + 1, 0, none⟩ = false := by simp [World.frozen?, k4]
        have f11 : wr.frozen? ⟨w.heap.size + 1, 1, none⟩ = false := by simp [World.frozen?, k4]
        have f12 : wr.frozen? ⟨w.heap.size + 1, 2, none⟩ = false := by simp [World.frozen?, k4]
        have c10 : wr.cell? ⟨w.heap.size + 1, 0, none⟩ = some (.int .i64 0) := by simp [World.cell?, k4]
        have c11 : wr.cell? ⟨w.heap.size + 1, 1, none⟩ = some (.int .i64 0) := by simp [World.cell?, k4]
        have c12 : wr.cell? ⟨w.heap.size + 1, 2, none⟩ = some (.slice none 0 0) := by simp [World.cell?, k4]
        have c50 : wr.cell? ⟨w.heap.size + 2, 0, none⟩ = some (.int .i64 ka) := by simp [World.cell?, k5]
        have c51 : wr.cell? ⟨w.heap.size + 2, 1, none⟩ = some (.int .i64 na) := by simp [World.cell?, k5]
        have c52 : wr.cell? ⟨w.heap.size + 2, 2, none⟩ = some (.slice (some ⟨w.heap.size + 3, 0, none⟩) la.length la.length) := by simp [World.cell?, k5]
        obtain ⟨g1, g2⟩ := store3 k4 (.int .i64 ka) (.int .i64 na) (.slice (some ⟨w.heap.size + 3, 0, none⟩) la.length la.length)
        have hfin : NewT w ((Tm.node ka na la).fill mk) (.returned (.agg #[.int .i64 ka, .int .i64 na, .slice (some ⟨w.heap.size + 3, 0, none⟩) la.length la.length])) (((wr.setCell ⟨w.heap.size + 1, 0, none⟩ (.int .i64 ka)).setCell ⟨w.heap.size + 1, 1, none⟩ (.int .i64 na)).setCell ⟨w.heap.size + 1, 2, none⟩ (.slice (some ⟨w.heap.size + 3, 0, none⟩) la.length la.length)) := by
          rw [Hv.out]
          have hrow := (hor.turned g2 (by omega) (fun j _ hj e => by omega)).rows (S' := fun g => w.heap.size ≤ g) (fun j _ hj => by omega) (by omega)
          exact ⟨_, rfl, ⟨some ⟨w.heap.size + 3, 0, none⟩, la.length, by rw [fills_len], by rw [fills_len]; exact hla, hrow⟩, ht.trans g2 (fun i hi e => by omega)⟩
        have Hfin := Lib.hid hfin
        have G1 := Lib.hid g1
        have l4 := lt_of_block k4
        have l5 := lt_of_block k5
        clear hfin g1 g2 hor k4 k5 k0 ht
        go_wp2
        exact bodyPost_ret (results_term rfl G1.out rfl) rfl Hfin.out
end Go.Proofs.Ytljnmjehokijgaa

/- copied; Shift. -/
namespace Go.Proofs.Ytljnmjehokijgaa
open Go.RowKit

theorem box3 {w : World} {Z : Nat} {a b c : Value} {t : TypeId} (h : w.heap[Z]? = some (.cells #[a, b, c] t (0, 0))) :
    w.cell? ⟨Z, 0, none⟩ = some a ∧ w.cell? ⟨Z, 1, none⟩ = some b ∧ w.cell? ⟨Z, 2, none⟩ = some c ∧ w.frozen? ⟨Z, 0, none⟩ = false ∧ w.frozen? ⟨Z, 1, none⟩ = false ∧ w.frozen? ⟨Z, 2, none⟩ = false ∧ Z < w.heap.size := by
  refine ⟨?_, ?_, ?_, ?_, ?_, ?_, lt_of_block h⟩ <;> simp [World.cell?, World.frozen?, h]

theorem run_sigVariable (x : Value) (w : World) : (callFunc 59 (#[x] ++ #[])).run Try.prog w = .ok (.enter 59 (#[x] ++ #[])) w := by kernel_rfl

theorem says_variable (w1 : World) : Says w1 59 #[] Tm.leaf (fun _ => True) := ⟨run_sigVariable, fun n w _ _ => sigVariable_any n w⟩

set_option maxRecDepth 100000 in
set_option maxHeartbeats 1600000 in
theorem copied_any (ta : Tm) (va : Value) (w : World) (ha : TmIn w ta va) (hr : ta.right = true) (hs : ta.size ≤ 1000000) :
    Calls Try.prog 47 #[va] w (NewT w ta) := by
  obtain ⟨aa, ca, rfl, hla, -⟩ := ha.form
  obtain ⟨W, hW, tW, hC⟩ := box2 w (.int .i64 ta.kind) (.int .i64 ta.num) (.slice aa ta.kids.length ca) (.int .i64 0) (.int .i64 0) (.slice none 0 0) 24 24
  obtain ⟨c0, c1, c2, d0, d1, d2, lW⟩ := hC W (Turned.refl _ _)
  have k4 : W.heap[w.heap.size + 1]? = some (.cells #[.int .i64 0, .int .i64 0, .slice none 0 0] 24 (0, 0)) := by
    rw [hW]
    exact alloc_at (by simp)
  have hWs : w.heap.size + 1 < W.heap.size := lt_of_block k4
  have hcall := filled_any W W (Turned.refl _ _) _ _ _ _ (says_variable W) ta _ W (TmIn.turned tW _ ha) (Turned.refl _ _) (fun _ _ => trivial) hs
  rw [Tm.fill_leaf ta hr] at hcall
  have Hcall := Lib.hid hcall
  have HW := Lib.hid hW
  have TW := Lib.hid tW
  have K4 := Lib.hid k4
  clear hcall hW tW hC k4 ha hr hs hla
  generalize hk : ta.kind = xk at *
  generalize hn : ta.num = xn at *
  generalize hl : ta.kids.length = xl at *
  have Hk := Lib.hid (show ta.kind = xk from hk)
  clear hk hn hl
  go_enter Try.func47, Try.ntmps47
  go_upto_region 1 with fail
  rw [← HW.out]
  go_wp2_with fail
  refine Hcall.out.mono ?_
  rintro e w2 ⟨v, rfl, hv, t2⟩
  obtain ⟨p, cp, rfl⟩ := hv.form
  have k42 := turn_keep t2 K4.out
  obtain ⟨e0, e1, e2, f0, f1, f2, l4⟩ := box3 k42
  obtain ⟨g1, g2⟩ := store3 k42 (.int .i64 ta.kind) (.int .i64 ta.num) (.slice p ta.kids.length cp)
  have hfin : NewT w ta (.returned (.agg #[.int .i64 ta.kind, .int .i64 ta.num, .slice p ta.kids.length cp])) (((w2.setCell ⟨w.heap.size + 1, 0, none⟩ (.int .i64 ta.kind)).setCell ⟨w.heap.size + 1, 1, none⟩ (.int .i64 ta.num)).setCell ⟨w.heap.size + 1, 2, none⟩ (.slice p ta.kids.length cp)) :=
    ⟨_, rfl, TmS.turned g2 (fun j _ hj e => by omega) (fun j _ hj => by omega) _ hv, (TW.out.trans t2 (fun _ _ hf => hf)).trans g2 (fun i hi e => by omega)⟩
  have Hfin := Lib.hid hfin
  have G1 := Lib.hid g1
  clear hfin g1 g2 hv t2 k42 c0 c1 c2 d0 d1 d2 lW
  generalize ta.kind = yk at *
  generalize ta.num = yn at *
  generalize ta.kids.length = ym at *
  go_wp2
  exact bodyPost_ret (results_term rfl G1.out rfl) rfl Hfin.out
end Go.Proofs.Ytljnmjehokijgaa

/- Shift. -/
namespace Go.Proofs.Ytljnmjehokijgaa
open Go.RowKit

mutual
/-- All numbers of a tree are numbers of Go. -/
def Tm.small : Tm → Prop
  | .node _ n l => (-9223372036854775808 ≤ n ∧ n ≤ 9223372036854775807) ∧ Tm.smalls l
def Tm.smalls : List Tm → Prop
  | [] => True
  | t :: l => t.small ∧ Tm.smalls l
end

theorem Tm.smalls_mem : ∀ {l : List Tm} {t : Tm}, Tm.smalls l → t ∈ l → t.small
  | x :: l, t, h, ht => by
    rcases List.mem_cons.1 ht with rfl | ht
    · exact h.1
    · exact Tm.smalls_mem h.2 ht

theorem Tm.small_kids (k n : Int) (l : List Tm) (h : (Tm.node k n l).small) (t : Tm) (ht : t ∈ l) : t.small := Tm.smalls_mem h.2 ht

/-- A variable stays. -/
def staysB (fr : Int) (t : Tm) : Bool := !(t.kind == 1) || decide (t.num < fr)
/-- A node can be shifted. -/
def canB (fr bb : Int) (t : Tm) : Bool := staysB fr t || (decide (fr - t.num ≤ bb) && decide (bb ≤ 1000000 - t.num))

/-- What the functions of Shift look at: from, by, stays. -/
structure Shf (w : World) (bf bb bs : Nat) (fr by_ : Int) : Prop where
  hf : w.heap[bf]? = some (.cells #[.int .i64 fr] 3 (0, 0))
  hb : w.heap[bb]? = some (.cells #[.int .i64 by_] 3 (0, 0))
  hs : w.heap[bs]? = some (.cells #[.func (.func 60) #[] #[.pointer (some ⟨bf, 0, none⟩)]] 30 (0, 0))

theorem Shf.turned {w w' : World} {bf bb bs : Nat} {fr by_ : Int} (h : Shf w bf bb bs fr by_) (t : Turned w w' (fun _ => False)) : Shf w' bf bb bs fr by_ := ⟨turn_keep t h.hf, turn_keep t h.hb, turn_keep t h.hs⟩

theorem Shf.cells {w : World} {bf bb bs : Nat} {fr by_ : Int} (h : Shf w bf bb bs fr by_) : w.cell? ⟨bf, 0, none⟩ = some (.int .i64 fr) ∧ w.cell? ⟨bb, 0, none⟩ = some (.int .i64 by_) ∧
    w.cell? ⟨bs, 0, none⟩ = some (.func (.func 60) #[] #[.pointer (some ⟨bf, 0, none⟩)]) ∧ bf < w.heap.size ∧ bb < w.heap.size ∧ bs < w.heap.size := by
  refine ⟨?_, ?_, ?_, lt_of_block h.hf, lt_of_block h.hb, lt_of_block h.hs⟩ <;> simp [World.cell?, h.hf, h.hb, h.hs]

theorem run_shift1 (x : Value) (bf : Nat) (w : World) : (callFunc 60 (#[x] ++ #[.pointer (some ⟨bf, 0, none⟩)])).run Try.prog w = .ok (.enter 60 (#[x] ++ #[.pointer (some ⟨bf, 0, none⟩)])) w := by kernel_rfl
theorem run_shift2 (x : Value) (bs bb bf : Nat) (w : World) : (callFunc 61 (#[x] ++ #[.pointer (some ⟨bs, 0, none⟩), .pointer (some ⟨bb, 0, none⟩), .pointer (some ⟨bf, 0, none⟩)])).run Try.prog w = .ok (.enter 61 (#[x] ++ #[.pointer (some ⟨bs, 0, none⟩), .pointer (some ⟨bb, 0, none⟩), .pointer (some ⟨bf, 0, none⟩)])) w := by kernel_rfl
theorem run_shift3 (x : Value) (bf bb : Nat) (w : World) : (callFunc 62 (#[x] ++ #[.pointer (some ⟨bf, 0, none⟩), .pointer (some ⟨bb, 0, none⟩)])).run Try.prog w = .ok (.enter 62 (#[x] ++ #[.pointer (some ⟨bf, 0, none⟩), .pointer (some ⟨bb, 0, none⟩)])) w := by kernel_rfl

set_option maxRecDepth 100000 in
set_option maxHeartbeats 1600000 in
theorem shift1_any (ta : Tm) (va : Value) (w : World) (bf bb bs : Nat) (fr by_ : Int) (ha : TmIn w ta va) (hS : Shf w bf bb bs fr by_) :
    Calls Try.prog 60 #[va, .pointer (some ⟨bf, 0, none⟩)] w fun e w' => e = .returned (.bool (staysB fr ta)) ∧ Turned w w' (fun _ => False) := by
  obtain ⟨aa, ca, rfl, hla, -⟩ := ha.form
  obtain ⟨W, hW, tW, hC⟩ := box1 w (.int .i64 ta.kind) (.int .i64 ta.num) (.slice aa ta.kids.length ca) 24
  obtain ⟨c0, c1, c2, lW⟩ := hC W (Turned.refl _ _)
  obtain ⟨q0, -, -, q1, -, -⟩ := (hS.turned tW).cells
  unfold staysB
  have HW := Lib.hid hW
  have TW := Lib.hid tW
  clear hW hC tW ha hla hS
  generalize ta.kind = xk at *
  generalize ta.num = xn at *
  generalize ta.kids.length = xl at *
  by_cases h1 : xk = 1
  · subst h1
    by_cases h2 : xn < fr
    · rw [show (!((1 : Int) == 1) || decide (xn < fr)) = true by simp [h2]]
      go_enter Try.func60, Try.ntmps60
      go_upto_region 1 with fail
      rw [← HW.out]
      go_wp2
      go_ret
      exact ⟨rfl, TW.out⟩
    · rw [show (!((1 : Int) == 1) || decide (xn < fr)) = false by simp [h2]]
      go_enter Try.func60, Try.ntmps60
      go_upto_region 1 with fail
      rw [← HW.out]
      go_wp2
      go_ret
      exact ⟨rfl, TW.out⟩
  · have e1 : (xk == 1) = false := by simpa using h1
    have e2 : (xk != 1) = true := by simpa using h1
    rw [show (!(xk == 1) || decide (xn < fr)) = true by simp [e1]]
    go_enter Try.func60, Try.ntmps60
    go_upto_region 1 with fail
    rw [← HW.out]
    go_wp2
    go_ret
    exact ⟨rfl, TW.out⟩

set_option maxRecDepth 100000 in
set_option maxHeartbeats 1600000 in
theorem shift2_any (ta : Tm) (va : Value) (w : World) (bf bb bs : Nat) (fr by_ : Int) (ha : TmIn w ta va) (hS : Shf w bf bb bs fr by_) (h0 : 0 ≤ fr) (h1 : fr ≤ 9223372036854775807) (hn : ta.small) :
    Calls Try.prog 61 #[va, .pointer (some ⟨bs, 0, none⟩), .pointer (some ⟨bb, 0, none⟩), .pointer (some ⟨bf, 0, none⟩)] w fun e w' => e = .returned (.bool (canB fr by_ ta)) ∧ Turned w w' (fun _ => False) := by
  have hn2 : -9223372036854775808 ≤ ta.num ∧ ta.num ≤ 9223372036854775807 := by obtain ⟨k, n, l⟩ := ta; exact hn.1
  obtain ⟨aa, ca, rfl, hla, -⟩ := ha.form
  obtain ⟨W, hW, tW, hC⟩ := box1 w (.int .i64 ta.kind) (.int .i64 ta.num) (.slice aa ta.kids.length ca) 24
  obtain ⟨c0, c1, c2, lW⟩ := hC W (Turned.refl _ _)
  have hSW := hS.turned tW
  obtain ⟨q0, q1, q2, q3, q4, q5⟩ := hSW.cells
  have hcall := shift1_any ta _ W bf bb bs fr by_ (TmIn.turned tW _ ha) hSW
  have hrun := run_shift1 (.agg #[.int .i64 ta.kind, .int .i64 ta.num, .slice aa ta.kids.length ca]) bf
  have hv : canB fr by_ ta = (staysB fr ta || (decide (fr - ta.num ≤ by_) && decide (by_ ≤ 1000000 - ta.num))) := rfl
  have hst : staysB fr ta = false → fr ≤ ta.num := fun h => by
    unfold staysB at h
    simp only [Bool.or_eq_false_iff, decide_eq_false_iff_not] at h
    omega
  have Hv := Lib.hid hv
  have Hcall := Lib.hid hcall
  have HW := Lib.hid hW
  have HC := Lib.hid hC
  have TW := Lib.hid tW
  have HSW := Lib.hid hSW
  have Hst := Lib.hid hst
  clear hv hcall hW hC tW ha hla hS hSW hn hst
  generalize staysB fr ta = sb at *
  generalize ta.kind = xk at *
  generalize ta.num = xn at *
  generalize ta.kids.length = xl at *
  go_enter Try.func61, Try.ntmps61
  go_upto_region 1 with fail
  rw [← HW.out]
  go_wp2_with fail
  refine Hcall.out.mono ?_
  rintro e w1 ⟨rfl, t1⟩
  clear c0 c1 c2 lW q0 q1 q2 q3 q4 q5 hrun
  obtain ⟨c0, c1, c2, lW⟩ := HC.out w1 t1
  obtain ⟨q0, q1, q2, q3, q4, q5⟩ := (HSW.out.turned t1).cells
  have T1 := Lib.hid (TW.out.trans t1 (fun _ _ hf => hf))
  clear t1
  cases sb
  · have hx := Hst.out rfl
    have w1' : IntKind.i64.wrap (fr - xn) = fr - xn := IntWalk.i64_in _ (by omega)
    have w2' : IntKind.i64.wrap (1000000 - xn) = 1000000 - xn := IntWalk.i64_in _ (by omega)
    by_cases h3 : fr - xn ≤ by_
    · by_cases h4 : by_ ≤ 1000000 - xn
      · have hr : (false || (decide (fr - xn ≤ by_) && decide (by_ ≤ 1000000 - xn))) = true := by simp [h3, h4]
        rw [hr] at Hv
        clear hr
        go_wp2
        go_ret
        rw [Hv.out]
        exact ⟨rfl, T1.out⟩
      · have hr : (false || (decide (fr - xn ≤ by_) && decide (by_ ≤ 1000000 - xn))) = false := by simp [h4]
        rw [hr] at Hv
        clear hr
        go_wp2
        go_ret
        rw [Hv.out]
        exact ⟨(show Ending.returned (.bool (decide (by_ ≤ 1000000 - xn))) = _ by rw [decide_eq_false (show ¬ by_ ≤ 1000000 - xn by omega)]), T1.out⟩
    · have hr : (false || (decide (fr - xn ≤ by_) && decide (by_ ≤ 1000000 - xn))) = false := by simp [h3]
      rw [hr] at Hv
      clear hr
      go_wp2
      go_ret
      rw [Hv.out]
      exact ⟨rfl, T1.out⟩
  · rw [Bool.true_or] at Hv
    go_wp2
    go_ret
    rw [Hv.out]
    exact ⟨rfl, T1.out⟩

set_option maxRecDepth 100000 in
set_option maxHeartbeats 1600000 in
theorem shift3_any (n : Int) (w : World) (bf bb bs : Nat) (fr by_ : Int) (hS : Shf w bf bb bs fr by_) (hn : fr ≤ n → -9223372036854775808 ≤ n + by_ ∧ n + by_ ≤ 9223372036854775807) :
    Calls Try.prog 62 #[.int .i64 n, .pointer (some ⟨bf, 0, none⟩), .pointer (some ⟨bb, 0, none⟩)] w (NewT w (Tm.leaf (movF fr by_ 1 n))) := by
  obtain ⟨W, hW, tW, hC⟩ := box1 w (.int .i64 0) (.int .i64 0) (.slice none 0 0) 24
  have k4 : W.heap[w.heap.size]? = some (.cells #[.int .i64 0, .int .i64 0, .slice none 0 0] 24 (0, 0)) := by
    rw [hW]
    exact alloc_at rfl
  obtain ⟨q0, q1, -, q3, q4, -⟩ := (hS.turned tW).cells
  have Hcall := Lib.hid (sigVariable_any (movF fr by_ 1 n) W)
  have HW := Lib.hid hW
  have TW := Lib.hid tW
  have K4 := Lib.hid k4
  have hz : w.heap.size < W.heap.size := lt_of_block k4
  have hv1 : fr ≤ n → movF fr by_ 1 n = n + by_ := fun h => if_pos ⟨rfl, h⟩
  have hv2 : ¬ fr ≤ n → movF fr by_ 1 n = n := fun h => if_neg (fun hh => h hh.2)
  clear hW hC tW k4 hS
  have fin : ∀ (w2 : World) (v : Value), NewT W (Tm.leaf (movF fr by_ 1 n)) (.returned v) w2 → ∃ p cp, v = .agg #[.int .i64 1, .int .i64 (movF fr by_ 1 n), .slice p 0 cp] ∧
      w2.heap[w.heap.size]? = some (.cells #[.int .i64 0, .int .i64 0, .slice none 0 0] 24 (0, 0)) ∧ (((w2.setCell ⟨w.heap.size, 0, none⟩ (.int .i64 1)).setCell ⟨w.heap.size, 1, none⟩ (.int .i64 (movF fr by_ 1 n))).setCell ⟨w.heap.size, 2, none⟩ (.slice p 0 cp)).heap[w.heap.size]? = some (.cells #[.int .i64 1, .int .i64 (movF fr by_ 1 n), .slice p 0 cp] 24 (0, 0)) ∧
      NewT w (Tm.leaf (movF fr by_ 1 n)) (.returned (.agg #[.int .i64 1, .int .i64 (movF fr by_ 1 n), .slice p 0 cp])) (((w2.setCell ⟨w.heap.size, 0, none⟩ (.int .i64 1)).setCell ⟨w.heap.size, 1, none⟩ (.int .i64 (movF fr by_ 1 n))).setCell ⟨w.heap.size, 2, none⟩ (.slice p 0 cp)) := by
    rintro w2 v ⟨v', hv', hv, t2⟩
    simp only [Ending.returned.injEq] at hv'
    subst hv'
    obtain ⟨p, cp, rfl⟩ := hv.form
    have k42 := turn_keep t2 K4.out
    obtain ⟨g1, g2⟩ := store3 k42 (.int .i64 1) (.int .i64 (movF fr by_ 1 n)) (.slice p 0 cp)
    exact ⟨p, cp, rfl, k42, g1, _, rfl, TmS.turned g2 (fun j _ hj e => by omega) (fun j _ hj => by omega) _ hv, (TW.out.trans t2 (fun _ _ hf => hf)).trans g2 (fun i hi e => by omega)⟩
  have Fin := Lib.hid fin
  clear fin
  by_cases h : fr ≤ n
  · have hn2 := hn h
    have e0 : IntKind.i64.wrap (n + by_) = movF fr by_ 1 n := by rw [hv1 h]; exact IntWalk.i64_in _ (by omega)
    clear hv1 hv2 hn
    generalize movF fr by_ 1 n = m at *
    go_enter Try.func62, Try.ntmps62
    go_upto_region 1 with fail
    rw [← HW.out]
    go_wp2_with fail
    refine Hcall.out.mono ?_
    rintro e w2 ⟨v, rfl, hv, t2⟩
    obtain ⟨p, cp, rfl, k42, g1, hfin⟩ := Fin.out w2 v ⟨v, rfl, hv, t2⟩
    obtain ⟨e0, e1, e2, f0, f1, f2, l4⟩ := box3 k42
    have Hfin := Lib.hid hfin
    have G1 := Lib.hid g1
    clear hfin g1 hv t2 k42
    go_wp2
    exact bodyPost_ret (results_term rfl G1.out rfl) rfl Hfin.out
  · have hm := hv2 h
    clear hv1 hv2 hn
    generalize movF fr by_ 1 n = m at *
    subst hm
    go_enter Try.func62, Try.ntmps62
    go_upto_region 1 with fail
    rw [← HW.out]
    go_wp2_with fail
    refine Hcall.out.mono ?_
    rintro e w2 ⟨v, rfl, hv, t2⟩
    obtain ⟨p, cp, rfl, k42, g1, hfin⟩ := Fin.out w2 v ⟨v, rfl, hv, t2⟩
    obtain ⟨e0, e1, e2, f0, f1, f2, l4⟩ := box3 k42
    have Hfin := Lib.hid hfin
    have G1 := Lib.hid g1
    clear hfin g1 hv t2 k42
    go_wp2
    exact bodyPost_ret (results_term rfl G1.out rfl) rfl Hfin.out

/-- Shift's own copy. -/
theorem fill_mov (fr by_ : Int) : ∀ t : Tm, t.right = true → t.fill (fun n => Tm.leaf (movF fr by_ 1 n)) = t.mapN (movF fr by_) := by
  intro t
  refine Tm.ind (P := fun t => t.right = true → t.fill (fun n => Tm.leaf (movF fr by_ 1 n)) = t.mapN (movF fr by_)) ?_ t
  intro k n l ih h
  obtain ⟨hr, hl⟩ := Tm.right_kids h
  simp only [Tm.fill, Tm.mapN]
  split
  · rename_i hk
    subst hk
    rw [hl rfl]
    rfl
  · rename_i hk
    rw [show movF fr by_ k n = n from if_neg (fun hh => hk hh.1), Tm.fills_map, Tm.mapNs_map]
    congr 1
    exact List.map_congr_left (fun t ht => ih t ht (Tm.rights_mem hr ht))

theorem looks_can (w0 w1 : World) (h01 : Turned w0 w1 (fun _ => False)) (bf bb bs : Nat) (fr by_ : Int) (hS : Shf w1 bf bb bs fr by_) (h0 : 0 ≤ fr) (h1 : fr ≤ 9223372036854775807) :
    Looks w0 61 #[.pointer (some ⟨bs, 0, none⟩), .pointer (some ⟨bb, 0, none⟩), .pointer (some ⟨bf, 0, none⟩)] (fun (s : Unit) x => (s, canB fr by_ x)) (fun _ w => Turned w1 w (fun _ => False)) (fun _ _ => True) Tm.small where
  run := fun x w => run_shift2 x bs bb bf w
  old := fun _ _ h => h01.trans h (fun _ _ hf => hf)
  step := fun _ _ _ h t => h.trans t (fun _ _ hf => hf)
  less := fun _ _ _ => trivial
  next := fun _ _ _ _ => trivial
  kids := Tm.small_kids
  call := fun s n t v w _ hG ht hI => by
    refine (shift2_any t v w bf bb bs fr by_ (TmIn.turned (h01.trans hI (fun _ _ hf => hf)) _ ht) (hS.turned hI) h0 h1 hG).mono ?_
    rintro e w' ⟨rfl, t1⟩
    exact ⟨rfl, hI.trans t1 (fun _ _ hf => hf), KeepsT.of t1⟩

theorem says_shift (w1 : World) (bf bb bs : Nat) (fr by_ : Int) (hS : Shf w1 bf bb bs fr by_) :
    Says w1 62 #[.pointer (some ⟨bf, 0, none⟩), .pointer (some ⟨bb, 0, none⟩)] (fun n => Tm.leaf (movF fr by_ 1 n)) (fun n => fr ≤ n → -9223372036854775808 ≤ n + by_ ∧ n + by_ ≤ 9223372036854775807) :=
  ⟨fun x w => run_shift3 x bf bb w, fun n w hn hw => shift3_any n w bf bb bs fr by_ (hS.turned hw) hn⟩

mutual
theorem Tm.every_vin {p : Tm → Bool} {x : Int} : ∀ {t : Tm}, t.right = true → t.every p = true → t.vin x → p (Tm.leaf x) = true
  | .node k n l, hr, h, hx => by
    simp only [Tm.every, Bool.and_eq_true] at h
    simp only [Tm.vin] at hx
    obtain ⟨h1, h2⟩ := Tm.right_kids hr
    split at hx
    · rename_i hk
      subst hk; subst hx
      have := h.1
      rwa [h2 rfl] at this
    · exact Tm.everys_vin h1 h.2 hx
theorem Tm.everys_vin {p : Tm → Bool} {x : Int} : ∀ {l : List Tm}, Tm.rights l = true → Tm.everys p l = true → Tm.vins x l → p (Tm.leaf x) = true
  | t :: l, hr, h, hx => by
    simp only [Tm.everys, Bool.and_eq_true] at h
    simp only [Tm.rights, Bool.and_eq_true] at hr
    rcases hx with hx | hx
    · exact Tm.every_vin hr.1 h.1 hx
    · exact Tm.everys_vin hr.2 h.2 hx
end

/-- What Shift answers. -/
def Tm.shift (t : Tm) (fr by_ : Int) : Tm × Int := if t.isTree = true then (if 0 ≤ fr ∧ t.every (canB fr by_) = true then (t.mapN (movF fr by_), 0) else (Tm.zero, 1)) else (Tm.zero, 4)

/-- A new tree and an error are given. -/
def NewTe (w : World) (X : Tm × Int) (e : Ending) (w' : World) : Prop := ∃ v, e = .returned (.tuple #[v, .int .i64 X.2]) ∧ TmS w' (fun g => w.heap.size ≤ g) X.1 v ∧ Turned w w' (fun _ => False)

/-- The zero tree and an error, stored into the result's cells. -/
theorem newTe_zero {w w1 : World} {Z : Nat} {c0 c1 c2 : Value} {t : TypeId} (hk : w1.heap[Z]? = some (.cells #[c0, c1, c2] t (0, 0))) (ht : Turned w w1 (fun _ => False)) (hZ : w.heap.size ≤ Z) (er : Int) :
    NewTe w (Tm.zero, er) (.returned (.tuple #[.agg #[.int .i64 0, .int .i64 0, .slice none 0 0], .int .i64 er])) (((w1.setCell ⟨Z, 0, none⟩ (.int .i64 0)).setCell ⟨Z, 1, none⟩ (.int .i64 0)).setCell ⟨Z, 2, none⟩ (.slice none 0 0)) ∧
    (((w1.setCell ⟨Z, 0, none⟩ (.int .i64 0)).setCell ⟨Z, 1, none⟩ (.int .i64 0)).setCell ⟨Z, 2, none⟩ (.slice none 0 0)).heap[Z]? = some (.cells #[.int .i64 0, .int .i64 0, .slice none 0 0] t (0, 0)) := by
  obtain ⟨g1, g2⟩ := store3 hk (.int .i64 0) (.int .i64 0) (.slice none 0 0)
  exact ⟨⟨_, rfl, zeroS _ _, ht.trans g2 (fun i hi e => by omega)⟩, g1⟩

/-- A new tree stored into the result's cells. -/
theorem newTe_put {w V w1 : World} {Z : Nat} {c0 c1 c2 : Value} {t : TypeId} {X : Tm} {er : Int} {p : Option Addr} {cp : Nat} (hv : TmS w1 (fun g => V.heap.size ≤ g) X (.agg #[.int .i64 X.kind, .int .i64 X.num, .slice p X.kids.length cp])) (hk : w1.heap[Z]? = some (.cells #[c0, c1, c2] t (0, 0)))
    (ht : Turned w w1 (fun _ => False)) (hZ : w.heap.size ≤ Z) (hZ2 : Z < V.heap.size) (_hV : w.heap.size ≤ V.heap.size) :
    NewTe w (X, er) (.returned (.tuple #[.agg #[.int .i64 X.kind, .int .i64 X.num, .slice p X.kids.length cp], .int .i64 er])) (((w1.setCell ⟨Z, 0, none⟩ (.int .i64 X.kind)).setCell ⟨Z, 1, none⟩ (.int .i64 X.num)).setCell ⟨Z, 2, none⟩ (.slice p X.kids.length cp)) ∧
    (((w1.setCell ⟨Z, 0, none⟩ (.int .i64 X.kind)).setCell ⟨Z, 1, none⟩ (.int .i64 X.num)).setCell ⟨Z, 2, none⟩ (.slice p X.kids.length cp)).heap[Z]? = some (.cells #[.int .i64 X.kind, .int .i64 X.num, .slice p X.kids.length cp] t (0, 0)) := by
  obtain ⟨g1, g2⟩ := store3 hk (.int .i64 X.kind) (.int .i64 X.num) (.slice p X.kids.length cp)
  exact ⟨⟨_, rfl, TmS.turned g2 (fun j _ hj e => by omega) (fun j _ hj => by omega) _ hv, ht.trans g2 (fun i hi e => by omega)⟩, g1⟩

set_option maxRecDepth 100000 in
set_option maxHeartbeats 1600000 in
theorem sigShift_any (ta : Tm) (va : Value) (fr by_ : Int) (w : World) (ha : TmIn w ta va) (hn : ta.small) (hf1 : fr ≤ 9223372036854775807) :
    Calls Try.prog 25 #[va, .int .i64 fr, .int .i64 by_] w (NewTe w (ta.shift fr by_)) := by
  obtain ⟨aa, ca, rfl, hla, -⟩ := ha.form
  obtain ⟨W1, hW1, tW1, hC1⟩ := box1 w (.int .i64 ta.kind) (.int .i64 ta.num) (.slice aa ta.kids.length ca) 24
  obtain ⟨W, hW⟩ : ∃ W, W = ((W1.alloc (.cells #[.int .i64 fr] 3)).alloc (.cells #[.int .i64 by_] 3)).alloc (.cells #[.int .i64 0, .int .i64 0, .slice none 0 0] 24) := ⟨_, rfl⟩
  have hWs1 : W1.heap.size = w.heap.size + 1 := by rw [hW1]; simp
  obtain ⟨k1, k2, k3, tW, hWs⟩ := alloc3 hW
  have tw : Turned w W (fun _ => False) := tW1.trans tW (fun _ _ hf => hf)
  obtain ⟨c0, c1, c2, lW⟩ := hC1 W tW
  rw [hWs1] at k1 k2 k3 hWs
  have hall : W = (((w.alloc (.cells #[.int .i64 ta.kind, .int .i64 ta.num, .slice aa ta.kids.length ca] 24)).alloc (.cells #[.int .i64 fr] 3)).alloc (.cells #[.int .i64 by_] 3)).alloc (.cells #[.int .i64 0, .int .i64 0, .slice none 0 0] 24) := by rw [hW, hW1]
  have hB : ∀ V, Turned W V (fun _ => False) → (V.cell? ⟨w.heap.size, 0, none⟩ = some (.int .i64 ta.kind) ∧ V.cell? ⟨w.heap.size, 1, none⟩ = some (.int .i64 ta.num) ∧ V.cell? ⟨w.heap.size, 2, none⟩ = some (.slice aa ta.kids.length ca) ∧ w.heap.size < V.heap.size) := fun V hV => hC1 V (tW.trans hV (fun _ _ hf => hf))
  have hE : ta.treeE = if ta.isTree = true then 0 else 4 := rfl
  have HTree := Lib.hid (tree_any ta _ W (TmIn.turned tw _ ha))
  have HB := Lib.hid hB
  have HW := Lib.hid hall
  have TW := Lib.hid tw
  have K1 := Lib.hid k1
  have K2 := Lib.hid k2
  have K3 := Lib.hid k3
  have hmf : ∀ (fn : Fn) (first cap : Array Value) (w : World), (Instr.makeFunc fn first cap).run Try.prog w = .ok (.func fn first cap) w := fun _ _ _ _ => rfl
  by_cases ht : ta.isTree = true
  rotate_left 1
  · have hv : ta.shift fr by_ = (Tm.zero, 4) := by unfold Tm.shift; rw [if_neg ht]
    rw [if_neg ht] at hE
    rw [hv]
    rw [hE] at HTree
    clear hv hE ht hB hall hW hW1 tW tW1 tw k1 k2 k3 hC1 ha hla hn
    generalize ta.kind = xk at *
    generalize ta.num = xn at *
    generalize ta.kids.length = xl at *
    go_enter Try.func25, Try.ntmps25
    go_upto_region 1 with fail
    rw [← HW.out]
    go_wp2_with fail
    refine HTree.out.mono ?_
    rintro e w1 ⟨rfl, t1⟩
    have k31 := turn_keep t1 K3.out
    obtain ⟨e0, e1, e2, f0, f1, f2, l4⟩ := box3 k31
    obtain ⟨hfin, g1⟩ := newTe_zero k31 (TW.out.trans t1 (fun _ _ hf => hf)) (show w.heap.size ≤ w.heap.size + 1 + 1 + 1 by omega) 4
    have Hfin := Lib.hid hfin
    have G1 := Lib.hid g1
    clear hfin g1 k31 t1
    go_wp2
    exact bodyPost_ret (v := .tuple #[.agg #[.int .i64 0, .int .i64 0, .slice none 0 0], .int .i64 4]) (results_term_err rfl G1.out rfl rfl) rfl Hfin.out
  rw [if_pos ht] at hE
  rw [hE] at HTree
  have ht2 := ht
  simp only [Tm.isTree, Bool.and_eq_true] at ht2
  have hsz : ta.size ≤ 1000000 := by have := Tm.isTree_size ht; omega
  have Hvis := Lib.hid (fun (X : World) (h01 : Turned w X (fun _ => False)) (bs : Nat) (hS : Shf X (w.heap.size + 1) (w.heap.size + 1 + 1) bs fr by_) (h0 : 0 ≤ fr) => visit_any w _ _ _ _ _ _ (looks_can w X h01 _ _ _ _ _ hS h0 hf1) ta _ () 0 X ha hn (Turned.refl _ _) trivial)
  have Hfil := Lib.hid (fun (X : World) (h01 : Turned w X (fun _ => False)) (bs : Nat) (hS : Shf X (w.heap.size + 1) (w.heap.size + 1 + 1) bs fr by_) (w2 : World) (h12 : Turned X w2 (fun _ => False)) (hx : ∀ x, ta.vin x → fr ≤ x → -9223372036854775808 ≤ x + by_ ∧ x + by_ ≤ 9223372036854775807) =>
    filled_any w X h01 _ _ _ _ (says_shift X _ _ _ _ _ hS) ta _ w2 ha h12 hx hsz)
  rw [fill_mov fr by_ ta ht2.2] at Hfil
  have Hev := Lib.hid (fun (h0 : 0 ≤ fr) (h : ta.every (canB fr by_) = true) => show ∀ x, ta.vin x → fr ≤ x → -9223372036854775808 ≤ x + by_ ∧ x + by_ ≤ 9223372036854775807 from fun x hx hfx => by
    have h3 := Tm.every_vin ht2.2 h hx
    have h4 : (((!((1 : Int) == 1)) || decide (x < fr)) || (decide (fr - x ≤ by_) && decide (by_ ≤ 1000000 - x))) = true := h3
    rw [decide_eq_false (show ¬ x < fr by omega)] at h4
    simp only [beq_self_eq_true, Bool.not_true, Bool.false_or, Bool.and_eq_true, decide_eq_true_eq] at h4
    omega)
  have hv1 : 0 ≤ fr → ta.every (canB fr by_) = true → ta.shift fr by_ = (ta.mapN (movF fr by_), 0) := fun h0 h => by unfold Tm.shift; rw [if_pos ht, if_pos ⟨h0, h⟩]
  have hv2 : ¬ (0 ≤ fr ∧ ta.every (canB fr by_) = true) → ta.shift fr by_ = (Tm.zero, 1) := fun h => by unfold Tm.shift; rw [if_pos ht, if_neg h]
  have Hv1 := Lib.hid hv1
  have Hv2 := Lib.hid hv2
  have Hevr := Lib.hid (fun (s : Unit) => Tm.visit_every (canB fr by_) ta)
  clear hv1 hv2 hE ht ht2 hB hall hW hW1 tW tW1 tw k1 k2 k3 hC1 ha hla hn hsz
  generalize ta.kind = xk at *
  generalize ta.num = xn at *
  generalize ta.kids.length = xl at *
  go_enter Try.func25, Try.ntmps25
  go_upto_region 1 with fail
  rw [← HW.out]
  go_wp2_with fail
  refine HTree.out.mono ?_
  rintro e w1 ⟨rfl, t1⟩
  clear c0 c1 c2 lW
  obtain ⟨X, hX⟩ : ∃ X, X = w1.alloc (.cells #[.func (.func 60) #[] #[.pointer (some ⟨w.heap.size + 1, 0, none⟩)]] 30) := ⟨_, rfl⟩
  have tX : Turned w1 X (fun _ => False) := by rw [hX]; exact (Turned.refl _ _).alloc _
  have hWX := t1.trans tX (fun _ _ hf => hf)
  have hwX := TW.out.trans hWX (fun _ _ hf => hf)
  have hS : Shf X (w.heap.size + 1) (w.heap.size + 1 + 1) w1.heap.size fr by_ := ⟨turn_keep hWX K1.out, turn_keep hWX K2.out, by rw [hX]; exact heap_alloc_new _ _⟩
  have k3X := turn_keep hWX K3.out
  have hl3 := lt_of_block k3X
  have hszX : w.heap.size ≤ X.heap.size := hwX.size
  obtain ⟨q0, q1, q2, q3, q4, q5⟩ := hS.cells
  obtain ⟨c0, c1, c2, lW⟩ := HB.out X hWX
  have HX := Lib.hid hX
  have HWX := Lib.hid hwX
  have HWX' := Lib.hid hWX
  have HS := Lib.hid hS
  have K3X := Lib.hid k3X
  clear hX tX t1 hWX hwX hS k3X
  go_upto_region 5 with fail
  rw [← HX.out]
  by_cases h0 : 0 ≤ fr
  rotate_left 1
  · have h0' : fr < 0 := by omega
    obtain ⟨e0, e1, e2, f0, f1, f2, l4⟩ := box3 K3X.out
    obtain ⟨hfin, g1⟩ := newTe_zero K3X.out HWX.out (show w.heap.size ≤ w.heap.size + 1 + 1 + 1 by omega) 1
    rw [← Hv2.out (fun h => h0 h.1)] at hfin
    have Hfin := Lib.hid hfin
    have G1 := Lib.hid g1
    clear hfin g1 h0
    go_wp2
    exact bodyPost_ret (v := .tuple #[.agg #[.int .i64 0, .int .i64 0, .slice none 0 0], .int .i64 1]) (results_term_err rfl G1.out rfl rfl) rfl Hfin.out
  have h0' : ¬ fr < 0 := by omega
  have Hc := Lib.hid (Hvis.out X HWX.out _ HS.out h0)
  rw [Hevr.out ()] at Hc
  simp only at Hc
  generalize hev : ta.every (canB fr by_) = ev at *
  have HEv := Lib.hid hev
  clear hev
  go_wp2_with fail
  refine Hc.out.mono ?_
  rintro e w2 ⟨rfl, hI, -, -⟩
  have k32 := turn_keep hI K3X.out
  have hw2 := HWX.out.trans hI (fun _ _ hf => hf)
  clear c0 c1 c2 lW q0 q1 q2 q3 q4 q5
  obtain ⟨q0, q1, q2, q3, q4, q5⟩ := (HS.out.turned hI).cells
  obtain ⟨c0, c1, c2, lW⟩ := HB.out w2 (HWX'.out.trans hI (fun _ _ hf => hf))
  cases ev
  · obtain ⟨e0, e1, e2, f0, f1, f2, l4⟩ := box3 k32
    obtain ⟨hfin, g1⟩ := newTe_zero k32 hw2 (show w.heap.size ≤ w.heap.size + 1 + 1 + 1 by omega) 1
    rw [← Hv2.out (fun h => by cases h.2)] at hfin
    have Hfin := Lib.hid hfin
    have G1 := Lib.hid g1
    clear hfin g1 k32 hI hw2
    go_wp2
    exact bodyPost_ret (v := .tuple #[.agg #[.int .i64 0, .int .i64 0, .slice none 0 0], .int .i64 1]) (results_term_err rfl G1.out rfl rfl) rfl Hfin.out
  · have Hc2 := Lib.hid (Hfil.out X HWX.out _ HS.out w2 hI (Hev.out h0 rfl))
    have hsz2 : X.heap.size ≤ w2.heap.size := hI.size
    have K32 := Lib.hid k32
    have HW2 := Lib.hid hw2
    clear hI hw2 k32
    go_wp2_with fail
    refine Hc2.out.mono ?_
    rintro e w3 ⟨v, rfl, hv, t3⟩
    obtain ⟨p, cp, rfl⟩ := hv.form
    have k33 := turn_keep t3 K32.out
    obtain ⟨e0, e1, e2, f0, f1, f2, l4⟩ := box3 k33
    obtain ⟨hfin, g1⟩ := newTe_put (w := w) (er := 0) hv k33 (HW2.out.trans t3 (fun _ _ hf => hf)) (show w.heap.size ≤ w.heap.size + 1 + 1 + 1 by omega) (by omega) (by omega)
    rw [← Hv1.out h0 (by first | rfl | trivial)] at hfin
    have Hfin := Lib.hid hfin
    have G1 := Lib.hid g1
    clear hfin g1 k33 hv t3 q0 q1 q2 q3 q4 q5 c0 c1 c2 lW
    generalize (ta.mapN (movF fr by_)).kind = yk at *
    generalize (ta.mapN (movF fr by_)).num = yn at *
    generalize (ta.mapN (movF fr by_)).kids.length = ym at *
    go_wp2
    exact bodyPost_ret (v := .tuple #[.agg #[.int .i64 yk, .int .i64 yn, .slice p ym cp], .int .i64 0]) (results_term_err rfl G1.out rfl rfl) rfl Hfin.out
end Go.Proofs.Ytljnmjehokijgaa

/- How great a tree is with everything put in: filledExtent. -/
namespace Go.Proofs.Ytljnmjehokijgaa
open Go.RowKit

mutual
/-- How many nodes there are with everything put in, and how deep they go. -/
def Tm.ext (en : Int → Int × Int) : Tm → Int × Int
  | .node k n l => if k = 1 then en n else Tm.exts en l (1, 1)
def Tm.exts (en : Int → Int × Int) : List Tm → Int × Int → Int × Int
  | [], a => a
  | t :: l, a => Tm.exts en l (a.1 + (t.ext en).1, max a.2 ((t.ext en).2 + 1))
end

theorem Tm.exts_snoc (en : Int → Int × Int) : ∀ (l : List Tm) (t : Tm) (a : Int × Int), Tm.exts en (l ++ [t]) a = ((Tm.exts en l a).1 + (t.ext en).1, max (Tm.exts en l a).2 ((t.ext en).2 + 1))
  | [], t, a => rfl
  | x :: l, t, a => by simp only [List.cons_append, Tm.exts]; exact Tm.exts_snoc en l t _

/-- The extents of variables are bounded. -/
def EnOk (en : Int → Int × Int) (x : Int) : Prop := 0 ≤ (en x).1 ∧ (en x).1 ≤ 2001 ∧ 0 ≤ (en x).2 ∧ (en x).2 ≤ 201

mutual
theorem Tm.ext_le (en : Int → Int × Int) : ∀ t : Tm, (∀ x, t.vin x → EnOk en x) → 0 ≤ (t.ext en).1 ∧ (t.ext en).1 ≤ 2001 * t.size ∧ 0 ≤ (t.ext en).2 ∧ (t.ext en).2 ≤ 201 + t.size
  | .node k n l, h => by
    by_cases hk : k = 1
    · have hn := h n (by simp [Tm.vin, hk])
      unfold EnOk at hn
      simp only [Tm.ext, if_pos hk, Tm.size]
      omega
    · have hl := Tm.exts_le en l (1, 1) (fun x hx => h x (by simp only [Tm.vin]; rw [if_neg hk]; exact hx)) (by simp) (by simp)
      simp only [Tm.ext, if_neg hk, Tm.size]
      simp only at hl
      omega
theorem Tm.exts_le (en : Int → Int × Int) : ∀ (l : List Tm) (a : Int × Int), (∀ x, Tm.vins x l → EnOk en x) → 0 ≤ a.1 → 0 ≤ a.2 → 0 ≤ (Tm.exts en l a).1 ∧ (Tm.exts en l a).1 ≤ a.1 + 2001 * Tm.sizes l ∧ 0 ≤ (Tm.exts en l a).2 ∧ (Tm.exts en l a).2 ≤ max a.2 (202 + Tm.sizes l)
  | [], a, _, h1, h2 => by simp only [Tm.exts, Tm.sizes]; omega
  | t :: l, a, h, h1, h2 => by
    have ht := Tm.ext_le en t (fun x hx => h x (.inl hx))
    have hl := Tm.exts_le en l (a.1 + (t.ext en).1, max a.2 ((t.ext en).2 + 1)) (fun x hx => h x (.inr hx)) (by simp only; omega) (by simp only; omega)
    simp only [Tm.exts, Tm.sizes]
    simp only at hl
    omega
end

/-- A box of two numbers. -/
theorem boxE {w : World} {Z : Nat} {a b : Value} {t : TypeId} (h : w.heap[Z]? = some (.cells #[a, b] t (0, 0))) :
    w.cell? ⟨Z, 0, none⟩ = some a ∧ w.cell? ⟨Z, 1, none⟩ = some b ∧ w.frozen? ⟨Z, 0, none⟩ = false ∧ w.frozen? ⟨Z, 1, none⟩ = false ∧ Z < w.heap.size := by
  refine ⟨?_, ?_, ?_, ?_, lt_of_block h⟩ <;> simp [World.cell?, World.frozen?, h]

theorem store2 {w : World} {Z : Nat} {c0 c1 : Value} {t : TypeId} {z : Nat × Nat} (h : w.heap[Z]? = some (.cells #[c0, c1] t z)) (a0 a1 : Value) :
    ((w.setCell ⟨Z, 0, none⟩ a0).setCell ⟨Z, 1, none⟩ a1).heap[Z]? = some (.cells #[a0, a1] t z) ∧ Turned w ((w.setCell ⟨Z, 0, none⟩ a0).setCell ⟨Z, 1, none⟩ a1) (fun k => k = Z) := by
  refine ⟨?_, ?_⟩
  · rw [setCell_block (setCell_block h (i := 0) a0) (i := 1) a1]
    rfl
  · exact (Turned.setCell (D := fun k => k = Z) (Turned.refl w _) (p := ⟨Z, 0, none⟩) (fun _ => rfl) a0).setCell (p := ⟨Z, 1, none⟩) (fun _ => rfl) a1

theorem results_ext {fn : Func} {p : Tmp} (h : fn.results = #[.cell p 83]) {tmps : Array Value} {W : World} {Z : Nat} {c0 c1 : Value} {z : Nat × Nat} (hk : W.heap[Z]? = some (.cells #[c0, c1] 83 z))
    (hp : tmps.getD p undef = .pointer (some ⟨Z, 0, none⟩)) : (results fn tmps).run Try.prog W = .ok (.agg #[c0, c1]) W :=
  results_cell_row h tmps W Z _ #[c0, c1] z _ hp hk Try.underlying83 rfl (by kernel_rfl)

/-- What a function that gives an extent gives. -/
def ExtP (w : World) (X : Int × Int) (e : Ending) (w' : World) : Prop := e = .returned (.agg #[.int .i64 X.1, .int .i64 X.2]) ∧ Turned w w' (fun _ => False)

set_option maxRecDepth 100000 in
theorem with_any (a b c d : Int) (w : World) (ha : 0 ≤ a) (ha2 : a ≤ 4000000000) (hc : 0 ≤ c) (hc2 : c ≤ 4000000000) (hd : 0 ≤ d) (hd2 : d ≤ 4000000000) :
    Calls Try.prog 80 #[.agg #[.int .i64 a, .int .i64 b], .agg #[.int .i64 c, .int .i64 d]] w (ExtP w (a + c, max b (d + 1))) := by
  obtain ⟨W, hW⟩ : ∃ W, W = ((w.alloc (.cells #[.int .i64 a, .int .i64 b] 83)).alloc (.cells #[.int .i64 c, .int .i64 d] 83)).alloc (.cells #[.int .i64 0, .int .i64 0] 83) := ⟨_, rfl⟩
  obtain ⟨k1, k2, k3, tW, -⟩ := alloc3 hW
  obtain ⟨a0, a1, a2, a3, a4⟩ := boxE k1
  obtain ⟨b0, b1, b2, b3, b4⟩ := boxE k2
  obtain ⟨d0, d1, d2, d3, d4⟩ := boxE k3
  obtain ⟨g1, g2⟩ := store2 k3 (.int .i64 (a + c)) (.int .i64 (max b (d + 1)))
  have e1 : IntKind.i64.wrap (a + c) = a + c := IntWalk.i64_in _ (by omega)
  have e2 : IntKind.i64.wrap (d + 1) = d + 1 := IntWalk.i64_in _ (by omega)
  have HW := Lib.hid hW
  have G1 := Lib.hid g1
  have Hfin := Lib.hid (show ExtP w (a + c, max b (d + 1)) (.returned (.agg #[.int .i64 (a + c), .int .i64 (max b (d + 1))])) _ from ⟨rfl, tW.trans g2 (fun i hi e => by omega)⟩)
  clear hW g1 g2 tW k1 k2 k3 ha ha2 hc hc2 hd hd2
  go_enter Try.func80, Try.ntmps80
  go_upto_region 1 with fail
  rw [← HW.out]
  by_cases hlt : b < d + 1
  · rw [show max b (d + 1) = d + 1 by omega] at *
    go_wp2
    exact bodyPost_ret (results_ext rfl G1.out rfl) rfl Hfin.out
  · rw [show max b (d + 1) = b by omega] at *
    go_wp2
    exact bodyPost_ret (results_ext rfl G1.out rfl) rfl Hfin.out

set_option maxRecDepth 100000 in
theorem extTree_any (a b : Int) (w : World) : Calls Try.prog 54 #[.agg #[.int .i64 a, .int .i64 b]] w fun e w' => e = .returned (.bool (decide (a ≤ 2000) && decide (b ≤ 200))) ∧ Turned w w' (fun _ => False) := by
  obtain ⟨W, hW⟩ : ∃ W, W = w.alloc (.cells #[.int .i64 a, .int .i64 b] 83) := ⟨_, rfl⟩
  have k1 : W.heap[w.heap.size]? = some (.cells #[.int .i64 a, .int .i64 b] 83 (0, 0)) := by rw [hW]; exact heap_alloc_new _ _
  obtain ⟨a0, a1, a2, a3, a4⟩ := boxE k1
  have TW := Lib.hid (show Turned w W (fun _ => False) by rw [hW]; exact (Turned.refl _ _).alloc _)
  have HW := Lib.hid hW
  clear hW k1
  by_cases h1 : a ≤ 2000
  · by_cases h2 : b ≤ 200
    · rw [show (decide (a ≤ 2000) && decide (b ≤ 200)) = true by simp [h1, h2]]
      go_enter Try.func54, Try.ntmps54
      go_upto_region 1 with fail
      rw [← HW.out]
      go_wp2
      go_ret
      exact ⟨rfl, TW.out⟩
    · rw [show (decide (a ≤ 2000) && decide (b ≤ 200)) = false by simp [h2]]
      have h3 := decide_eq_false h2
      go_enter Try.func54, Try.ntmps54
      go_upto_region 1 with fail
      rw [← HW.out]
      go_wp2
      go_ret
      exact ⟨(by first | rfl | (show Ending.returned (.bool (decide (b ≤ 200))) = _; rw [h3])), TW.out⟩
  · rw [show (decide (a ≤ 2000) && decide (b ≤ 200)) = false by simp [h1]]
    go_enter Try.func54, Try.ntmps54
    go_upto_region 1 with fail
    rw [← HW.out]
    go_wp2
    go_ret
    exact ⟨rfl, TW.out⟩

/-- A function value tells the extents of variables. -/
structure Tells (w1 : World) (g : FuncId) (caps : Array Value) (en : Int → Int × Int) (P : Int → Prop) : Prop where
  run : ∀ (x : Value) (w : World), (callFunc g (#[x] ++ caps)).run Try.prog w = .ok (.enter g (#[x] ++ caps)) w
  call : ∀ n w, P n → Turned w1 w (fun _ => False) → Calls Try.prog g (#[.int .i64 n] ++ caps) w (ExtP w (en n))
  ok : ∀ n, P n → EnOk en n

set_option maxRecDepth 100000 in
set_option maxHeartbeats 3200000 in
theorem filledExtent_any (w0 w1 : World) (h01 : Turned w0 w1 (fun _ => False)) (g : FuncId) (caps : Array Value) (en : Int → Int × Int) (P : Int → Prop) (hF : Tells w1 g caps en P) :
    ∀ (ta : Tm) (va : Value) (w : World), TmIn w0 ta va → Turned w1 w (fun _ => False) → (∀ x, ta.vin x → P x) → ta.size ≤ 1000000 →
    Calls Try.prog 52 #[va, .func (.func g) #[] caps] w (ExtP w (ta.ext en)) := by
  have HF := Lib.hid hF
  have H01 := Lib.hid h01
  clear hF h01
  intro ta
  refine Tm.ind (P := fun ta => ∀ (va : Value) (w : World), TmIn w0 ta va → Turned w1 w (fun _ => False) → (∀ x, ta.vin x → P x) → ta.size ≤ 1000000 →
    Calls Try.prog 52 #[va, .func (.func g) #[] caps] w (ExtP w (ta.ext en))) ?_ ta
  clear ta
  intro ka na la ih va w ha h1 hvin hsz
  obtain ⟨aa, ca, rfl, hla, ra⟩ := ha
  obtain ⟨W, hW⟩ : ∃ W, W = (w.alloc (.cells #[.int .i64 ka, .int .i64 na, .slice aa la.length ca] 24)).alloc (.cells #[.int .i64 0, .int .i64 0] 83) := ⟨_, rfl⟩
  have tW : Turned w W (fun _ => False) := by rw [hW]; exact ((Turned.refl _ _).alloc _).alloc _
  have hWs : W.heap.size = w.heap.size + 2 := by rw [hW]; simp
  have k0 : W.heap[w.heap.size]? = some (.cells #[.int .i64 ka, .int .i64 na, .slice aa la.length ca] 24 (0, 0)) := by
    rw [hW]; exact alloc_keep (heap_alloc_new _ _)
  have k4 : W.heap[w.heap.size + 1]? = some (.cells #[.int .i64 0, .int .i64 0] 83 (0, 0)) := by
    rw [hW]; exact alloc_at (by simp)
  obtain ⟨c0, c1, c2, -, -, -, lW⟩ := box3 k0
  have h1W := h1.trans tW (fun _ _ hf => hf)
  by_cases hk : ka = 1
  · subst hk
    have hcall := HF.out.call na W (hvin na (by simp [Tm.vin])) h1W
    have hrun := HF.out.run (.int .i64 na)
    have hv : (Tm.node 1 na la).ext en = en na := by simp [Tm.ext]
    rw [hv]
    generalize en na = X at *
    obtain ⟨x, y⟩ := X
    have Hcall := Lib.hid hcall
    have HW := Lib.hid hW
    have TW := Lib.hid tW
    have K4 := Lib.hid k4
    clear hcall hW tW ih k4 k0 h1W h1 hWs ra hla hvin hsz hv
    go_enter Try.func52, Try.ntmps52
    go_upto_region 1 with fail
    rw [← HW.out]
    go_wp2_with fail
    refine Hcall.out.mono ?_
    rintro e w2 ⟨rfl, t2⟩
    have k42 := turn_keep t2 K4.out
    obtain ⟨e0, e1, f0, f1, l4⟩ := boxE k42
    obtain ⟨g1, g2⟩ := store2 k42 (.int .i64 x) (.int .i64 y)
    have Hfin := Lib.hid (show ExtP w (x, y) (.returned (.agg #[.int .i64 x, .int .i64 y])) _ from ⟨rfl, (TW.out.trans t2 (fun _ _ hf => hf)).trans g2 (fun i hi e => by omega)⟩)
    have G1 := Lib.hid g1
    clear g1 g2 t2 k42 c0 c1 c2 lW
    go_wp2
    exact bodyPost_ret (results_ext rfl G1.out rfl) rfl Hfin.out
  have e1 : (ka == 1) = false := by simpa using hk
  have hss : Tm.sizes la ≤ 1000000 := by simp only [Tm.size] at hsz; omega
  have hlen : la.length ≤ 1000000 := Nat.le_trans (Tm.sizes_len la) hss
  obtain ⟨V, hV⟩ : ∃ V, V = W.alloc (.cells #[.int .i64 1, .int .i64 1] 83) := ⟨_, rfl⟩
  have tV : Turned W V (fun _ => False) := by rw [hV]; exact (Turned.refl _ _).alloc _
  have k5 : V.heap[w.heap.size + 2]? = some (.cells #[.int .i64 1, .int .i64 1] 83 (0, 0)) := by
    rw [hV]; exact alloc_at hWs
  have hv : (Tm.node ka na la).ext en = Tm.exts en la (1, 1) := by simp only [Tm.ext]; exact if_neg hk
  have hvk : ∀ t ∈ la, ∀ x, t.vin x → P x := fun t ht x hx => hvin x (by simp only [Tm.vin]; rw [if_neg hk]; exact Tm.vins_mem ht hx)
  have hbd : ∀ k, 0 ≤ (Tm.exts en (la.take k) (1, 1)).1 ∧ (Tm.exts en (la.take k) (1, 1)).1 ≤ 4000000000 := fun k => by
    have h := Tm.exts_le en (la.take k) (1, 1) (fun x hx => HF.out.ok x (hvin x (by
      simp only [Tm.vin]; rw [if_neg hk]
      obtain ⟨t, ht, htx⟩ : ∃ t ∈ la.take k, t.vin x := by
        revert hx
        generalize la.take k = m
        induction m with
        | nil => intro h; exact h.elim
        | cons y m ih2 => intro h; rcases h with h | h; exact ⟨y, .head _, h⟩; obtain ⟨t, a, b⟩ := ih2 h; exact ⟨t, .tail _ a, b⟩
      exact Tm.vins_mem (List.mem_of_mem_take ht) htx))) (by simp) (by simp)
    have h2 := Tm.sizes_take la k
    simp only at h
    omega
  have hbe : ∀ t ∈ la, 0 ≤ (t.ext en).1 ∧ (t.ext en).1 ≤ 4000000000 ∧ 0 ≤ (t.ext en).2 ∧ (t.ext en).2 ≤ 4000000000 := fun t ht => by
    have h := Tm.ext_le en t (fun x hx => HF.out.ok x (hvk t ht x hx))
    have h2 := Tm.sizes_mem ht
    omega
  have HW := Lib.hid hW
  have HV := Lib.hid hV
  have K4 := Lib.hid (turn_keep tV k4)
  have K0 := Lib.hid (turn_keep tV k0)
  have K5 := Lib.hid k5
  have TW := Lib.hid (tW.trans tV (fun _ _ hf => hf))
  have Ih := Lib.hid ih
  have Ra := Lib.hid ra
  have H1 := Lib.hid h1
  have Hvk := Lib.hid hvk
  have Hv := Lib.hid hv
  have Hbd := Lib.hid hbd
  have Hbe := Lib.hid hbe
  clear hW hV k4 k0 k5 tW tV ih ra h1 h1W hvk hv hvin hk hsz hbd hbe
  go_enter Try.func52, Try.ntmps52
  go_upto_region 1 with fail
  rw [← HW.out]
  go_upto_region 4 with fail
  rw [← HV.out]
  clear c0 c1 c2 lW e1 hWs
  have w02 : V.cell? ⟨w.heap.size, 2, none⟩ = some (.slice aa la.length ca) := by simp [World.cell?, K0.out]
  have lV : w.heap.size < V.heap.size := lt_of_block K0.out
  go_wp2
  clear w02 lV
  go_loopw [19] (fun i wr => ∃ k : Nat, k ≤ la.length ∧ i = .int .i64 k ∧ wr.heap[w.heap.size + 2]? = some (.cells #[.int .i64 (Tm.exts en (la.take k) (1, 1)).1, .int .i64 (Tm.exts en (la.take k) (1, 1)).2] 83 (0, 0)) ∧
      wr.heap[w.heap.size + 1]? = some (.cells #[.int .i64 0, .int .i64 0] 83 (0, 0)) ∧ Turned w wr (fun _ => False)) (fun i _ => la.length - (intOf i).toNat)
  case atStart => exact ⟨0, Nat.zero_le _, rfl, K5.out, K4.out, TW.out⟩
  case round =>
    obtain ⟨k, hk, rfl, k5, k4, ht⟩ := hrel
    by_cases hlt : k < la.length
    · have hki : (k : Int) < (la.length : Int) := by omega
      have h0r := (H01.out.trans H1.out (fun _ _ hf => hf)).trans ht (fun _ _ hf => hf)
      obtain ⟨ga, oa, sa, sc, rfl, lga, xa0, xa1, xa2, xat⟩ := tmsIn_at2 Ra.out k hlt
      have lga' : ga < wr.heap.size := Nat.lt_of_lt_of_le lga h0r.size
      have p0 := (h0r.cell (p := ⟨ga, oa + k * 3, none⟩) lga (fun hf => hf)).trans xa0
      have p1 := (h0r.cell (p := ⟨ga, oa + k * 3 + 1, none⟩) lga (fun hf => hf)).trans xa1
      have p2 := (h0r.cell (p := ⟨ga, oa + k * 3 + 2, none⟩) lga (fun hf => hf)).trans xa2
      obtain ⟨U, hU, tU, hCU⟩ := box1 wr (.int .i64 la[k].kind) (.int .i64 la[k].num) (.slice sa la[k].kids.length sc) 24
      obtain ⟨u0, u1, u2, lU⟩ := hCU U (Turned.refl _ _)
      have k5U := turn_keep tU k5
      obtain ⟨v0, v1, v2, v3, v4⟩ := boxE k5U
      have hsn : Tm.exts en (la.take (k + 1)) (1, 1) = ((Tm.exts en (la.take k) (1, 1)).1 + (la[k].ext en).1, max (Tm.exts en (la.take k) (1, 1)).2 ((la[k].ext en).2 + 1)) := by
        rw [List.take_succ_eq_append_getElem hlt, Tm.exts_snoc]
      obtain ⟨b1, b2⟩ := Hbd.out k
      obtain ⟨b3, b4, b5, b6⟩ := Hbe.out _ (List.getElem_mem hlt)
      have Hcall := Lib.hid (fun V (hV : Turned U V (fun _ => False)) => Ih.out la[k] (List.getElem_mem hlt) (.agg #[.int .i64 la[k].kind, .int .i64 la[k].num, .slice sa la[k].kids.length sc]) V xat ((H1.out.trans (ht.trans tU (fun _ _ hf => hf)) (fun _ _ hf => hf)).trans hV (fun _ _ hf => hf)) (Hvk.out _ (List.getElem_mem hlt)) (Nat.le_trans (Tm.sizes_mem (List.getElem_mem hlt)) hss))
      have K5' := Lib.hid k5U
      have K4' := Lib.hid (turn_keep tU k4)
      have Ht := Lib.hid (ht.trans tU (fun _ _ hf => hf))
      have HU := Lib.hid hU
      have Hsn := Lib.hid hsn
      have tt : Turned U U.drew (fun _ => False) := (Turned.refl U _).drew
      clear k5 k4 ht xa0 xa1 xa2 xat lga h0r hCU tU hU k5U hsn
      generalize la[k].kind = xk at *
      generalize la[k].num = xn at *
      generalize la[k].kids.length = xm at *
      generalize la[k].ext en = Y at *
      generalize Tm.exts en (la.take k) (1, 1) = A at *
      obtain ⟨y0, y1⟩ := Y
      obtain ⟨a0, a1⟩ := A
      simp only at b1 b2 b3 b4 b5 b6 v0 v1
      go_upto_region 7 with fail
      rw [← HU.out]
      go_region_law (first
        | (go_simp; go_at_call 52; refine (Hcall.out _ tt).mono ?_; rintro e w2 ⟨rfl, t1⟩; have t2 : Turned U w2 (fun _ => False) := tt.trans t1 (fun _ _ hf => hf); have k52 := turn_keep t2 K5'.out; obtain ⟨m0, m1, m2, m3, m4⟩ := boxE k52; have T2 := Lib.hid t2; clear t1 k52)
        | (go_simp; go_at_call 80; refine (with_any a0 a1 y0 y1 _ b1 b2 b3 b4 b5 b6).mono ?_; rintro e w3 ⟨rfl, t3⟩; have k53 := turn_keep (T2.out.trans t3 (fun _ _ hf => hf)) K5'.out; obtain ⟨n0, n1, n2, n3, n4⟩ := boxE k53; have T3 := Lib.hid (T2.out.trans t3 (fun _ _ hf => hf)); have K53 := Lib.hid k53; clear t3 k53))
      all_goals
        obtain ⟨g1, g2⟩ := store2 K53.out (.int .i64 (a0 + y0)) (.int .i64 (max a1 (y1 + 1)))
        have N5 := Lib.hid g1
        have N4 := Lib.hid ((g2.block _ (lt_of_block (turn_keep T3.out K4'.out)) (by omega)).trans (turn_keep T3.out K4'.out))
        have NT := Lib.hid ((Ht.out.trans T3.out (fun _ _ hf => hf)).trans g2 (fun i hi e => by omega))
        clear g1 g2 tt t2 m0 m1 m2 m3 m4 n0 n1 n2 n3 n4 v0 v1 v2 v3 v4 p0 p1 p2 u0 u1 u2 lU
        go_wp2
        go_roundw
        case rel => exact ⟨k + 1, by omega, by go_num, by rw [Hsn.out]; exact N5.out, N4.out, NT.out⟩
        case measure => simp [intOf]; omega
    · obtain rfl : k = la.length := by omega
      rw [List.take_of_length_le (Nat.le_refl _)] at k5
      obtain ⟨v0, v1, v2, v3, v4⟩ := boxE k5
      obtain ⟨e0, e1, f0, f1, l4⟩ := boxE k4
      obtain ⟨g1, g2⟩ := store2 k4 (.int .i64 (Tm.exts en la (1, 1)).1) (.int .i64 (Tm.exts en la (1, 1)).2)
      have Hfin := Lib.hid (show ExtP w (Tm.exts en la (1, 1)) (.returned (.agg #[.int .i64 (Tm.exts en la (1, 1)).1, .int .i64 (Tm.exts en la (1, 1)).2])) _ from ⟨rfl, ht.trans g2 (fun i hi e => by omega)⟩)
      rw [← Hv.out] at Hfin
      have G1 := Lib.hid g1
      clear g1 g2 ht k5 k4
      rw [← Hv.out] at *
      go_wp2
      exact bodyPost_ret (results_ext rfl G1.out rfl) rfl Hfin.out

/-! ### when a tree is none, for it is too great -/
mutual
theorem Tm.cnt_iff (M : Int) : ∀ (t : Tm) (left deep : Int), 0 ≤ left → ((t.cnt M left deep).2 = true ↔ (t.size : Int) ≤ left ∧ deep - 1 + t.depth ≤ M)
  | .node k n l, left, deep, h0 => by
    have hd : 1 ≤ (Tm.node k n l).depth := by simp [Tm.depth]
    simp only [Tm.cnt, Tm.size]
    by_cases h : left - 1 < 0 ∨ M < deep
    · rw [if_pos h]
      simp only [Tm.depth] at hd ⊢
      constructor
      · intro hh; cases hh
      · intro hh; omega
    · rw [if_neg h]
      have hl := Tm.cnts_iff M l (left - 1) deep (by omega) (by omega)
      rw [hl]
      simp only [Tm.depth]
      omega
theorem Tm.cnts_iff (M : Int) : ∀ (l : List Tm) (left deep : Int), 0 ≤ left → deep ≤ M → ((Tm.cnts M l left deep).2 = true ↔ (Tm.sizes l : Int) ≤ left ∧ deep + Tm.depths l 0 ≤ M)
  | [], left, deep, h0, hm => by simp only [Tm.cnts, Tm.sizes, Tm.depths]; constructor; intro _; omega; intro _; trivial
  | t :: l, left, deep, h0, hm => by
    have ht := Tm.cnt_iff M t left (deep + 1) h0
    simp only [Tm.cnts, Tm.sizes, Tm.depths]
    rw [Tm.depths_max l (max 0 t.depth)]
    by_cases h : (t.cnt M left (deep + 1)).2 = true
    · rw [if_pos h]
      have h1 := Tm.cnt_size M t left (deep + 1) h
      have h2 := (Tm.cnt_le M t left (deep + 1) h0).2.2 h
      have hl := Tm.cnts_iff M l _ deep h2 hm
      rw [hl, h1]
      have h3 := ht.1 h
      omega
    · rw [if_neg h]
      constructor
      · intro hh; cases hh
      · intro hh
        exact absurd (ht.2 (by omega)) h
end

theorem Tm.isTree_iff (t : Tm) : t.isTree = true ↔ t.size ≤ 2000 ∧ t.depth ≤ 200 ∧ t.right = true := by
  unfold Tm.isTree
  rw [Bool.and_eq_true, Tm.cnt_iff 200 t 2000 1 (by omega)]
  constructor
  · intro h; exact ⟨by omega, by omega, h.2⟩
  · intro h; exact ⟨by omega, h.2.2⟩

/-- Size of a tree. -/
theorem Tm.size2_tree {t : Tm} (h : t.isTree = true) : t.size2 = ((t.size : Int), (t.depth : Int)) := by
  have h2 := h
  unfold Tm.isTree at h2
  rw [Bool.and_eq_true] at h2
  unfold Tm.size2
  rw [if_pos h2.1, Tm.cnt_size 200 t 2000 1 h2.1]
  congr 1
  omega

/-- The extents of the elements of a list. -/
def enOf (l : List Tm) (n : Int) : Int × Int := ((l[n.toNat]?).getD (.node 0 0 [])).size2

mutual
theorem Tm.ext_repl (l : List Tm) (hl : l.all Tm.isTree = true) : ∀ t : Tm, (∀ x, t.vin x → 0 ≤ x ∧ x < l.length) → t.ext (enOf l) = (((t.repl l).size : Int), ((t.repl l).depth : Int))
  | .node k n ls, h => by
    by_cases hk : k = 1
    · have hx := h n (by simp [Tm.vin, hk])
      have hn : n.toNat < l.length := by omega
      simp only [Tm.ext, if_pos hk, Tm.repl, enOf, List.getElem?_eq_getElem hn, Option.getD_some]
      exact Tm.size2_tree (by rw [List.all_eq_true] at hl; exact hl _ (List.getElem_mem hn))
    · have h1 := Tm.exts_repl l hl ls (1, 1) (fun x hx => h x (by simp only [Tm.vin]; rw [if_neg hk]; exact hx)) (by simp)
      simp only [Tm.ext, if_neg hk, Tm.repl, Tm.size, Tm.depth]
      rw [h1]
      simp only [Prod.mk.injEq]
      omega
theorem Tm.exts_repl (l : List Tm) (hl : l.all Tm.isTree = true) : ∀ (ls : List Tm) (a : Int × Int), (∀ x, Tm.vins x ls → 0 ≤ x ∧ x < l.length) → 1 ≤ a.2 → Tm.exts (enOf l) ls a = (a.1 + (Tm.sizes (Tm.repls l ls) : Int), max a.2 ((Tm.depths (Tm.repls l ls) 0 : Int) + 1))
  | [], a, _, ha => by
    simp only [Tm.exts, Tm.repls, Tm.sizes, Tm.depths]
    obtain ⟨x, y⟩ := a
    simp only [Prod.mk.injEq]
    simp only at ha
    omega
  | t :: ls, a, h, ha => by
    have ht := Tm.ext_repl l hl t (fun x hx => h x (.inl hx))
    simp only [Tm.exts]
    rw [ht]
    have h1 := Tm.exts_repl l hl ls (a.1 + ((t.repl l).size : Int), max a.2 (((t.repl l).depth : Int) + 1)) (fun x hx => h x (.inr hx)) (by simp only; omega)
    simp only at h1 ⊢
    rw [h1]
    simp only [Tm.repls, Tm.sizes, Tm.depths]
    rw [Tm.depths_max (Tm.repls l ls) (max 0 (t.repl l).depth)]
    simp only [Prod.mk.injEq]
    omega
end

mutual
theorem Tm.repl_right (l : List Tm) (hl : l.all Tm.isTree = true) : ∀ t : Tm, t.right = true → (∀ x, t.vin x → 0 ≤ x ∧ x < l.length) → (t.repl l).right = true
  | .node k n ls, hr, h => by
    by_cases hk : k = 1
    · have hx := h n (by simp [Tm.vin, hk])
      have hn : n.toNat < l.length := by omega
      simp only [Tm.repl, if_pos hk, List.getElem?_eq_getElem hn, Option.getD_some]
      rw [List.all_eq_true] at hl
      exact ((Tm.isTree_iff _).1 (hl _ (List.getElem_mem hn))).2.2
    · have h1 := Tm.repls_right l hl ls (Tm.right_kids hr).1 (fun x hx => h x (by simp only [Tm.vin]; rw [if_neg hk]; exact hx))
      simp only [Tm.repl, if_neg hk]
      simp only [Tm.right, Bool.and_eq_true] at hr ⊢
      have e : (Tm.repls l ls).length = ls.length := by rw [Tm.repls_map, List.length_map]
      rw [e]
      exact ⟨hr.1, h1⟩
theorem Tm.repls_right (l : List Tm) (hl : l.all Tm.isTree = true) : ∀ ls : List Tm, Tm.rights ls = true → (∀ x, Tm.vins x ls → 0 ≤ x ∧ x < l.length) → Tm.rights (Tm.repls l ls) = true
  | [], _, _ => rfl
  | t :: ls, hr, h => by
    simp only [Tm.rights, Bool.and_eq_true] at hr
    simp only [Tm.repls, Tm.rights, Bool.and_eq_true]
    exact ⟨Tm.repl_right l hl t hr.1 (fun x hx => h x (.inl hx)), Tm.repls_right l hl ls hr.2 (fun x hx => h x (.inr hx))⟩
end

/-- What is asked of the extent is what makes a tree. -/
theorem Tm.repl_fit (l : List Tm) (hl : l.all Tm.isTree = true) (t : Tm) (hr : t.right = true) (h : ∀ x, t.vin x → 0 ≤ x ∧ x < l.length) :
    (t.repl l).fit = if (decide ((t.ext (enOf l)).1 ≤ 2000) && decide ((t.ext (enOf l)).2 ≤ 200)) = true then (t.repl l, 0) else (Tm.zero, 2) := by
  unfold Tm.fit
  rw [Tm.ext_repl l hl t h]
  have h1 := Tm.isTree_iff (t.repl l)
  have h2 := Tm.repl_right l hl t hr h
  by_cases h3 : (t.repl l).isTree = true
  · rw [if_pos h3, if_pos]
    have := h1.1 h3
    simp only [Bool.and_eq_true, decide_eq_true_eq]
    omega
  · rw [if_neg h3, if_neg]
    intro h4
    simp only [Bool.and_eq_true, decide_eq_true_eq] at h4
    exact h3 (h1.2 ⟨by omega, by omega, h2⟩)
end Go.Proofs.Ytljnmjehokijgaa

/- Subst. -/
namespace Go.Proofs.Ytljnmjehokijgaa
open Go.RowKit

/-- A list's box. -/
def LBox (w : World) (bl : Nat) (al : Option Addr) (n cl : Nat) : Prop := w.heap[bl]? = some (.cells #[.slice al n cl] 22 (0, 0))

theorem LBox.cells {w : World} {bl : Nat} {al : Option Addr} {n cl : Nat} (h : LBox w bl al n cl) : w.cell? ⟨bl, 0, none⟩ = some (.slice al n cl) ∧ bl < w.heap.size := by
  refine ⟨?_, lt_of_block h⟩
  simp only [World.cell?]
  unfold LBox at h
  simp [h]

theorem run_subst1 (x : Value) (bl : Nat) (w : World) : (callFunc 51 (#[x] ++ #[.pointer (some ⟨bl, 0, none⟩)])).run Try.prog w = .ok (.enter 51 (#[x] ++ #[.pointer (some ⟨bl, 0, none⟩)])) w := by kernel_rfl
theorem run_subst2 (x : Value) (bl : Nat) (w : World) : (callFunc 53 (#[x] ++ #[.pointer (some ⟨bl, 0, none⟩)])).run Try.prog w = .ok (.enter 53 (#[x] ++ #[.pointer (some ⟨bl, 0, none⟩)])) w := by kernel_rfl
theorem run_subst3 (x : Value) (bl : Nat) (w : World) : (callFunc 56 (#[x] ++ #[.pointer (some ⟨bl, 0, none⟩)])).run Try.prog w = .ok (.enter 56 (#[x] ++ #[.pointer (some ⟨bl, 0, none⟩)])) w := by kernel_rfl

/-- A node's variable is less than n. -/
def lessB (n : Nat) (t : Tm) : Bool := !(t.kind == 1) || decide (t.num < n)

set_option maxRecDepth 100000 in
set_option maxHeartbeats 1600000 in
theorem subst1_any (ta : Tm) (va : Value) (w : World) (bl : Nat) (al : Option Addr) (n cl : Nat) (ha : TmIn w ta va) (hS : LBox w bl al n cl) :
    Calls Try.prog 51 #[va, .pointer (some ⟨bl, 0, none⟩)] w fun e w' => e = .returned (.bool (lessB n ta)) ∧ Turned w w' (fun _ => False) := by
  obtain ⟨aa, ca, rfl, hla, -⟩ := ha.form
  obtain ⟨W, hW, tW, hC⟩ := box1 w (.int .i64 ta.kind) (.int .i64 ta.num) (.slice aa ta.kids.length ca) 24
  obtain ⟨c0, c1, c2, lW⟩ := hC W (Turned.refl _ _)
  obtain ⟨q0, q1⟩ := LBox.cells (show LBox W bl al n cl from turn_keep tW hS)
  unfold lessB
  have HW := Lib.hid hW
  have TW := Lib.hid tW
  clear hW hC tW ha hla hS
  generalize ta.kind = xk at *
  generalize ta.num = xn at *
  generalize ta.kids.length = xl at *
  by_cases h1 : xk = 1
  · subst h1
    by_cases h2 : xn < n
    · rw [show (!((1 : Int) == 1) || decide (xn < n)) = true by simp [h2]]
      go_enter Try.func51, Try.ntmps51
      go_upto_region 1 with fail
      rw [← HW.out]
      go_wp2
      go_ret
      exact ⟨rfl, TW.out⟩
    · rw [show (!((1 : Int) == 1) || decide (xn < n)) = false by simp [h2]]
      go_enter Try.func51, Try.ntmps51
      go_upto_region 1 with fail
      rw [← HW.out]
      go_wp2
      go_ret
      exact ⟨rfl, TW.out⟩
  · have e1 : (xk == 1) = false := by simpa using h1
    have e2 : (xk != 1) = true := by simpa using h1
    rw [show (!(xk == 1) || decide (xn < n)) = true by simp [e1]]
    go_enter Try.func51, Try.ntmps51
    go_upto_region 1 with fail
    rw [← HW.out]
    go_wp2
    go_ret
    exact ⟨rfl, TW.out⟩

set_option maxRecDepth 100000 in
set_option maxHeartbeats 1600000 in
theorem subst2_any (w0 : World) (l : List Tm) (al : Option Addr) (cl : Nat) (_hll : l.length ≤ maxLen) (hl : TmsIn w0 l al) (n : Nat) (hn : n < l.length) (w : World) (bl : Nat) (h0 : Turned w0 w (fun _ => False)) (hS : LBox w bl al l.length cl) :
    Calls Try.prog 53 #[.int .i64 n, .pointer (some ⟨bl, 0, none⟩)] w (ExtP w (enOf l n)) := by
  obtain ⟨W, hW⟩ : ∃ W, W = w.alloc (.cells #[.int .i64 0, .int .i64 0] 83) := ⟨_, rfl⟩
  have tW : Turned w W (fun _ => False) := by rw [hW]; exact (Turned.refl _ _).alloc _
  have k1 : W.heap[w.heap.size]? = some (.cells #[.int .i64 0, .int .i64 0] 83 (0, 0)) := by rw [hW]; exact heap_alloc_new _ _
  have h0W := h0.trans tW (fun _ _ hf => hf)
  obtain ⟨q0, q1⟩ := LBox.cells (show LBox W bl al l.length cl from turn_keep tW hS)
  have hni : (n : Int) < (l.length : Int) := by omega
  unfold maxLen at _hll
  obtain ⟨gl, ol, sa, sc, rfl, lgl, xa0, xa1, xa2, xat⟩ := tmsIn_at2 hl n hn
  have lgl' : gl < W.heap.size := Nat.lt_of_lt_of_le lgl h0W.size
  have p0 := (h0W.cell (p := ⟨gl, ol + n * 3, none⟩) lgl (fun hf => hf)).trans xa0
  have p1 := (h0W.cell (p := ⟨gl, ol + n * 3 + 1, none⟩) lgl (fun hf => hf)).trans xa1
  have p2 := (h0W.cell (p := ⟨gl, ol + n * 3 + 2, none⟩) lgl (fun hf => hf)).trans xa2
  have hcall := size_any l[n] _ W (TmIn.turned h0W _ xat)
  have he : enOf l n = l[n].size2 := by unfold enOf; rw [Int.toNat_natCast, List.getElem?_eq_getElem hn, Option.getD_some]
  rw [he]
  have Hcall := Lib.hid hcall
  have HW := Lib.hid hW
  have TW := Lib.hid tW
  have K1 := Lib.hid k1
  clear hcall hW tW k1 h0 h0W hS hl xa0 xa1 xa2 xat lgl he
  generalize l[n].size2 = X at *
  obtain ⟨x, y⟩ := X
  generalize l[n].kind = yk at *
  generalize l[n].num = yn at *
  generalize l[n].kids.length = ym at *
  go_enter Try.func53, Try.ntmps53
  go_upto_region 1 with fail
  rw [← HW.out]
  go_wp2_with fail
  refine Hcall.out.mono ?_
  rintro e w2 ⟨he, t2⟩
  obtain rfl : e = .returned (.tuple #[.int .i64 x, .int .i64 y]) := he
  have k2 := turn_keep t2 K1.out
  obtain ⟨e0, e1, f0, f1, l4⟩ := boxE k2
  obtain ⟨g1, g2⟩ := store2 k2 (.int .i64 x) (.int .i64 y)
  have Hfin := Lib.hid (show ExtP w (x, y) (.returned (.agg #[.int .i64 x, .int .i64 y])) _ from ⟨rfl, (TW.out.trans t2 (fun _ _ hf => hf)).trans g2 (fun i hi e => by omega)⟩)
  have G1 := Lib.hid g1
  clear g1 g2 t2 k2 p0 p1 p2 q0 q1
  go_wp2
  exact bodyPost_ret (results_ext rfl G1.out rfl) rfl Hfin.out

set_option maxRecDepth 100000 in
set_option maxHeartbeats 1600000 in
theorem subst3_any (w0 : World) (l : List Tm) (al : Option Addr) (cl : Nat) (_hll : l.length ≤ maxLen) (hl : TmsIn w0 l al) (n : Nat) (hn : n < l.length) (ht : l[n].isTree = true) (w : World) (bl : Nat) (h0 : Turned w0 w (fun _ => False)) (hS : LBox w bl al l.length cl) :
    Calls Try.prog 56 #[.int .i64 n, .pointer (some ⟨bl, 0, none⟩)] w (NewT w l[n]) := by
  obtain ⟨W, hW, tW, -⟩ := box1 w (.int .i64 0) (.int .i64 0) (.slice none 0 0) 24
  have k1 : W.heap[w.heap.size]? = some (.cells #[.int .i64 0, .int .i64 0, .slice none 0 0] 24 (0, 0)) := by rw [hW]; exact heap_alloc_new _ _
  have h0W := h0.trans tW (fun _ _ hf => hf)
  obtain ⟨q0, q1⟩ := LBox.cells (show LBox W bl al l.length cl from turn_keep tW hS)
  have hni : (n : Int) < (l.length : Int) := by omega
  unfold maxLen at _hll
  obtain ⟨gl, ol, sa, sc, rfl, lgl, xa0, xa1, xa2, xat⟩ := tmsIn_at2 hl n hn
  have lgl' : gl < W.heap.size := Nat.lt_of_lt_of_le lgl h0W.size
  have p0 := (h0W.cell (p := ⟨gl, ol + n * 3, none⟩) lgl (fun hf => hf)).trans xa0
  have p1 := (h0W.cell (p := ⟨gl, ol + n * 3 + 1, none⟩) lgl (fun hf => hf)).trans xa1
  have p2 := (h0W.cell (p := ⟨gl, ol + n * 3 + 2, none⟩) lgl (fun hf => hf)).trans xa2
  have hcall := copied_any l[n] _ W (TmIn.turned h0W _ xat) ((Tm.isTree_iff _).1 ht).2.2 (by have := ((Tm.isTree_iff _).1 ht).1; omega)
  have hs1 := tW.size
  have hs2 := lt_of_block k1
  have Hcall := Lib.hid hcall
  have HW := Lib.hid hW
  have TW := Lib.hid tW
  have K1 := Lib.hid k1
  clear hcall hW tW k1 h0 h0W hS hl xa0 xa1 xa2 xat lgl ht
  generalize l[n] = t at *
  generalize hyk : t.kind = yk at *
  generalize hyn : t.num = yn at *
  generalize hym : t.kids.length = ym at *
  have Hyk := Lib.hid (And.intro hyk (And.intro hyn hym))
  clear hyk hyn hym
  go_enter Try.func56, Try.ntmps56
  go_upto_region 1 with fail
  rw [← HW.out]
  go_wp2_with fail
  refine Hcall.out.mono ?_
  rintro e w2 ⟨v, rfl, hv, t2⟩
  obtain ⟨p, cp, rfl⟩ := hv.form
  have k2 := turn_keep t2 K1.out
  obtain ⟨e0, e1, e2, f0, f1, f2, l4⟩ := box3 k2
  obtain ⟨g1, g2⟩ := store3 k2 (.int .i64 t.kind) (.int .i64 t.num) (.slice p t.kids.length cp)
  have Hfin := Lib.hid (show NewT w t (.returned (.agg #[.int .i64 t.kind, .int .i64 t.num, .slice p t.kids.length cp])) _ from
    ⟨_, rfl, TmS.turned g2 (fun j _ hj e => by omega) (fun j _ hj => by omega) _ hv, (TW.out.trans t2 (fun _ _ hf => hf)).trans g2 (fun i hi e => by omega)⟩)
  have G1 := Lib.hid g1
  clear g1 g2 hv t2 k2 p0 p1 p2 q0 q1
  generalize t.kind = zk at *
  generalize t.num = zn at *
  generalize t.kids.length = zm at *
  go_wp2
  exact bodyPost_ret (results_term rfl G1.out rfl) rfl Hfin.out

theorem looks_less (w0 w1 : World) (h01 : Turned w0 w1 (fun _ => False)) (bl : Nat) (al : Option Addr) (n cl : Nat) (hS : LBox w1 bl al n cl) :
    Looks w0 51 #[.pointer (some ⟨bl, 0, none⟩)] (fun (s : Unit) x => (s, lessB n x)) (fun _ w => Turned w1 w (fun _ => False)) (fun _ _ => True) (fun _ => True) where
  run := fun x w => run_subst1 x bl w
  old := fun _ _ h => h01.trans h (fun _ _ hf => hf)
  step := fun _ _ _ h t => h.trans t (fun _ _ hf => hf)
  less := fun _ _ _ => trivial
  next := fun _ _ _ _ => trivial
  kids := fun _ _ _ _ _ _ => trivial
  call := fun s m t v w _ _ ht hI => by
    refine (subst1_any t v w bl al n cl (TmIn.turned (h01.trans hI (fun _ _ hf => hf)) _ ht) (turn_keep hI hS)).mono ?_
    rintro e w' ⟨rfl, t1⟩
    exact ⟨rfl, hI.trans t1 (fun _ _ hf => hf), KeepsT.of t1⟩

theorem size2_ok (t : Tm) (h : t.isTree = true) : 0 ≤ t.size2.1 ∧ t.size2.1 ≤ 2001 ∧ 0 ≤ t.size2.2 ∧ t.size2.2 ≤ 201 := by
  rw [Tm.size2_tree h]
  have := (Tm.isTree_iff t).1 h
  simp only
  omega

theorem tells_subst (w0 w1 : World) (h01 : Turned w0 w1 (fun _ => False)) (l : List Tm) (al : Option Addr) (cl : Nat) (hll : l.length ≤ maxLen) (hl : TmsIn w0 l al) (ht : l.all Tm.isTree = true) (bl : Nat) (hS : LBox w1 bl al l.length cl) :
    Tells w1 53 #[.pointer (some ⟨bl, 0, none⟩)] (enOf l) (fun n => 0 ≤ n ∧ n < l.length) where
  run := fun x w => run_subst2 x bl w
  call := fun n w hn hw => by
    obtain ⟨m, rfl⟩ : ∃ m : Nat, n = m := ⟨n.toNat, by omega⟩
    exact subst2_any w0 l al cl hll hl m (by omega) w bl (h01.trans hw (fun _ _ hf => hf)) (turn_keep hw hS)
  ok := fun n hn => by
    have hi : n.toNat < l.length := by omega
    unfold EnOk enOf
    rw [List.getElem?_eq_getElem hi, Option.getD_some]
    rw [List.all_eq_true] at ht
    exact size2_ok _ (ht _ (List.getElem_mem hi))

theorem says_subst (w0 w1 : World) (h01 : Turned w0 w1 (fun _ => False)) (l : List Tm) (al : Option Addr) (cl : Nat) (hll : l.length ≤ maxLen) (hl : TmsIn w0 l al) (ht : l.all Tm.isTree = true) (bl : Nat) (hS : LBox w1 bl al l.length cl) :
    Says w1 56 #[.pointer (some ⟨bl, 0, none⟩)] (fun n => (l[n.toNat]?).getD (.node 0 0 [])) (fun n => 0 ≤ n ∧ n < l.length) where
  run := fun x w => run_subst3 x bl w
  call := fun n w hn hw => by
    obtain ⟨m, rfl⟩ : ∃ m : Nat, n = m := ⟨n.toNat, by omega⟩
    have hi : m < l.length := by omega
    simp only [Int.toNat_natCast, List.getElem?_eq_getElem hi, Option.getD_some]
    rw [List.all_eq_true] at ht
    exact subst3_any w0 l al cl hll hl m hi (ht _ (List.getElem_mem hi)) w bl (h01.trans hw (fun _ _ hf => hf)) (turn_keep hw hS)

/-- Every variable is less than n: as the greatest one. -/
theorem every_less {t : Tm} (h : t.isTree = true) (n : Nat) : t.every (lessB n) = true ↔ t.top < (n : Int) := by
  have hr := ((Tm.isTree_iff t).1 h).2.2
  constructor
  · intro he
    refine Tm.top_lt h fun x hx => ?_
    have h3 : (!((1 : Int) == 1) || decide (x < n)) = true := Tm.every_vin hr he hx
    simpa using h3
  · intro ht
    have key : ∀ u : Tm, (∀ x, u.vin x → x < (n : Int)) → u.right = true → u.every (lessB n) = true := by
      intro u
      refine Tm.ind (P := fun u => (∀ x, u.vin x → x < (n : Int)) → u.right = true → u.every (lessB n) = true) ?_ u
      intro k m l ih hx hu
      obtain ⟨h1, h2⟩ := Tm.right_kids hu
      simp only [Tm.every, Bool.and_eq_true]
      have hall : ∀ m : List Tm, (∀ t ∈ m, t.every (lessB n) = true) → Tm.everys (lessB n) m = true := by
        intro m
        induction m with
        | nil => intro _; rfl
        | cons y m ih2 =>
          intro hm
          simp only [Tm.everys, Bool.and_eq_true]
          exact ⟨hm y (.head _), ih2 (fun t ht => hm t (.tail _ ht))⟩
      refine ⟨?_, hall l fun t ht => ih t ht (fun x hxt => hx x ?_) (Tm.rights_mem h1 ht)⟩
      · show (!(k == 1) || decide (m < n)) = true
        by_cases hk : k = 1
        · have := hx m (by simp [Tm.vin, hk])
          simp [this]
        · simp [hk]
      · simp only [Tm.vin]
        split
        · rename_i hk
          rw [h2 hk] at ht
          cases ht
        · exact Tm.vins_mem ht hxt
    exact key t (fun x hx => by have := Tm.vin_top h hx; omega) hr

set_option maxRecDepth 100000 in
set_option maxHeartbeats 1600000 in
theorem sigSubst_any (ta : Tm) (va : Value) (l : List Tm) (vl : Value) (w : World) (ha : TmIn w ta va) (hl : RowTm w vl l) :
    Calls Try.prog 21 #[va, vl] w (NewTe w (ta.subst l)) := by
  obtain ⟨aa, ca, rfl, hla, -⟩ := ha.form
  have hl2 := hl
  obtain ⟨al, cl, rfl, hll, hlr⟩ := hl2
  obtain ⟨W, hall⟩ : ∃ W, W = ((w.alloc (.cells #[.int .i64 ta.kind, .int .i64 ta.num, .slice aa ta.kids.length ca] 24)).alloc (.cells #[.slice al l.length cl] 22)).alloc (.cells #[.int .i64 0, .int .i64 0, .slice none 0 0] 24) := ⟨_, rfl⟩
  obtain ⟨k1, k2, k3, tW, hWs⟩ := alloc3 hall
  have hB : ∀ V, Turned W V (fun _ => False) → (V.cell? ⟨w.heap.size, 0, none⟩ = some (.int .i64 ta.kind) ∧ V.cell? ⟨w.heap.size, 1, none⟩ = some (.int .i64 ta.num) ∧ V.cell? ⟨w.heap.size, 2, none⟩ = some (.slice aa ta.kids.length ca) ∧ w.heap.size < V.heap.size ∧
      V.cell? ⟨w.heap.size + 1, 0, none⟩ = some (.slice al l.length cl) ∧ w.heap.size + 1 < V.heap.size) := fun V hV => by
    obtain ⟨a, b, c, -, -, -, d⟩ := box3 (turn_keep hV k1)
    obtain ⟨e, f⟩ := LBox.cells (show LBox V (w.heap.size + 1) al l.length cl from turn_keep hV k2)
    exact ⟨a, b, c, d, e, f⟩
  obtain ⟨c0, c1, c2, lW, q0, q1⟩ := hB W (Turned.refl _ _)
  have hE : ta.treeE = if ta.isTree = true then 0 else 4 := rfl
  have HTree := Lib.hid (tree_any ta _ W (TmIn.turned tW _ ha))
  have HAll := Lib.hid (fun V (hV : Turned W V (fun _ => False)) => areTrees_any l _ V (hl.turned (tW.trans hV (fun _ _ hf => hf))))
  have Hzero := Lib.hid (fun (V : World) (hV : Turned W V (fun _ => False)) (er : Int) => newTe_zero (turn_keep hV k3) (tW.trans hV (fun _ _ hf => hf)) (show w.heap.size ≤ w.heap.size + 1 + 1 by omega) er)
  have Hz3 := Lib.hid (fun (V : World) (hV : Turned W V (fun _ => False)) => box3 (turn_keep hV k3))
  have HB := Lib.hid hB
  have HW := Lib.hid hall
  have TW := Lib.hid tW
  have K3 := Lib.hid k3
  have hmf : ∀ (fn : Fn) (first cap : Array Value) (w : World), (Instr.makeFunc fn first cap).run Try.prog w = .ok (.func fn first cap) w := fun _ _ _ _ => rfl
  by_cases ht : ta.isTree = true
  rotate_left 1
  · have Hv := Lib.hid (show ta.subst l = (Tm.zero, 4) from if_neg (fun h => ht h.1))
    rw [if_neg ht] at hE
    rw [hE] at HTree
    clear hE ht hB hall tW k1 k2 k3 ha hla hlr hl hll HAll hWs
    generalize ta.kind = xk at *
    generalize ta.num = xn at *
    generalize ta.kids.length = xl at *
    go_enter Try.func21, Try.ntmps21
    go_upto_region 1 with fail
    rw [← HW.out]
    go_wp2_with fail
    refine HTree.out.mono ?_
    rintro e w1 ⟨rfl, t1⟩
    obtain ⟨e0, e1, e2, f0, f1, f2, l4⟩ := Hz3.out w1 t1
    obtain ⟨hfin, g1⟩ := Hzero.out w1 t1 4
    rw [← Hv.out] at hfin
    have Hfin := Lib.hid hfin
    have G1 := Lib.hid g1
    clear hfin g1 t1 c0 c1 c2 lW q0 q1
    go_wp2
    exact bodyPost_ret (v := .tuple #[.agg #[.int .i64 0, .int .i64 0, .slice none 0 0], .int .i64 4]) (results_term_err rfl G1.out rfl rfl) rfl Hfin.out
  rw [if_pos ht] at hE
  rw [hE] at HTree
  by_cases hlt : l.all Tm.isTree = true
  rotate_left 1
  · have Hv := Lib.hid (show ta.subst l = (Tm.zero, 4) from if_neg (fun h => hlt h.2))
    have hlf : l.all Tm.isTree = false := by simpa using hlt
    rw [hlf] at HAll
    clear hE ht hB hall tW k1 k2 k3 ha hla hlr hl hll hlt hlf hWs
    generalize ta.kind = xk at *
    generalize ta.num = xn at *
    generalize ta.kids.length = xl at *
    go_enter Try.func21, Try.ntmps21
    go_upto_region 1 with fail
    rw [← HW.out]
    go_wp2_with fail
    refine HTree.out.mono ?_
    rintro e w1 ⟨rfl, t1⟩
    have HT1 := Lib.hid t1
    clear c0 c1 c2 lW q0 q1
    obtain ⟨c0, c1, c2, lW, q0, q1⟩ := HB.out w1 t1
    clear t1
    go_wp2_with fail
    refine (HAll.out w1 HT1.out).mono ?_
    rintro e w2 ⟨rfl, t2⟩
    have t12 := HT1.out.trans t2 (fun _ _ hf => hf)
    obtain ⟨e0, e1, e2, f0, f1, f2, l4⟩ := Hz3.out w2 t12
    obtain ⟨hfin, g1⟩ := Hzero.out w2 t12 4
    rw [← Hv.out] at hfin
    have Hfin := Lib.hid hfin
    have G1 := Lib.hid g1
    clear hfin g1 t2 t12 c0 c1 c2 lW q0 q1
    go_wp2
    exact bodyPost_ret (v := .tuple #[.agg #[.int .i64 0, .int .i64 0, .slice none 0 0], .int .i64 4]) (results_term_err rfl G1.out rfl rfl) rfl Hfin.out
  rw [hlt] at HAll
  have hr := ((Tm.isTree_iff ta).1 ht).2.2
  have hsz : ta.size ≤ 1000000 := by have := ((Tm.isTree_iff ta).1 ht).1; omega
  have Hvis := Lib.hid (fun (X : World) (hX : Turned W X (fun _ => False)) => visit_any w _ _ _ _ _ _ (looks_less w X (tW.trans hX (fun _ _ hf => hf)) (w.heap.size + 1) al l.length cl (turn_keep hX k2)) ta _ () 0 X ha trivial (Turned.refl _ _) trivial)
  rw [Tm.visit_every (lessB l.length) ta] at Hvis
  have Htop := Lib.hid (every_less ht l.length)
  have Hext := Lib.hid (fun (X : World) (hX : Turned W X (fun _ => False)) (hx : ta.top < (l.length : Int)) => filledExtent_any w X (tW.trans hX (fun _ _ hf => hf)) _ _ _ _ (tells_subst w X (tW.trans hX (fun _ _ hf => hf)) l al cl hll hlr hlt (w.heap.size + 1) (turn_keep hX k2)) ta _ X ha (Turned.refl _ _) (fun x hxx => by have := Tm.vin_top ht hxx; omega) hsz)
  have Hfil := Lib.hid (fun (X : World) (hX : Turned W X (fun _ => False)) (hx : ta.top < (l.length : Int)) => filled_any w X (tW.trans hX (fun _ _ hf => hf)) _ _ _ _ (says_subst w X (tW.trans hX (fun _ _ hf => hf)) l al cl hll hlr hlt (w.heap.size + 1) (turn_keep hX k2)) ta _ X ha (Turned.refl _ _) (fun x hxx => by have := Tm.vin_top ht hxx; omega) hsz)
  rw [Tm.fill_repl l ta] at Hfil
  have Hv1 := Lib.hid (fun (h : ¬ ta.top < (l.length : Int)) => show ta.subst l = (Tm.zero, 1) by unfold Tm.subst; rw [if_pos ⟨ht, hlt⟩, if_pos (by omega)])
  have Hv2 := Lib.hid (fun (h : ta.top < (l.length : Int)) => show ta.subst l = if (decide ((ta.ext (enOf l)).1 ≤ 2000) && decide ((ta.ext (enOf l)).2 ≤ 200)) = true then (ta.repl l, 0) else (Tm.zero, 2) by
    unfold Tm.subst; rw [if_pos ⟨ht, hlt⟩, if_neg (by omega)]; exact Tm.repl_fit l hlt ta hr (fun x hxx => by have := Tm.vin_top ht hxx; omega))
  clear hE ht hB hall k1 k2 k3 ha hla hlr hl hll hlt hr hsz
  generalize hex : ta.ext (enOf l) = X at *
  obtain ⟨xx, xy⟩ := X
  clear hex
  generalize hkk : ta.kind = xk at *
  generalize hnn : ta.num = xn at *
  generalize hll2 : ta.kids.length = xl at *
  clear hkk hnn hll2
  go_enter Try.func21, Try.ntmps21
  go_upto_region 1 with fail
  rw [← HW.out]
  go_wp2_with fail
  refine HTree.out.mono ?_
  rintro e w1 ⟨rfl, t1⟩
  have HT1 := Lib.hid t1
  clear c0 c1 c2 lW q0 q1
  obtain ⟨c0, c1, c2, lW, q0, q1⟩ := HB.out w1 t1
  clear t1
  go_wp2_with fail
  refine (HAll.out w1 HT1.out).mono ?_
  rintro e w2 ⟨rfl, t2⟩
  have HT2 := Lib.hid (HT1.out.trans t2 (fun _ _ hf => hf))
  clear c0 c1 c2 lW q0 q1 t2
  obtain ⟨c0, c1, c2, lW, q0, q1⟩ := HB.out w2 HT2.out
  have Hc := Lib.hid (Hvis.out w2 HT2.out)
  have Htop2 := Lib.hid Htop.out
  generalize hev : ta.every (lessB l.length) = ev at *
  have HEv := Lib.hid hev
  clear hev
  go_wp2_with fail
  refine Hc.out.mono ?_
  rintro e w3 ⟨rfl, hI, -, -⟩
  have HT3 := Lib.hid (HT2.out.trans hI (fun _ _ hf => hf))
  clear c0 c1 c2 lW q0 q1 hI
  obtain ⟨c0, c1, c2, lW, q0, q1⟩ := HB.out w3 HT3.out
  cases ev
  · obtain ⟨e0, e1, e2, f0, f1, f2, l4⟩ := Hz3.out w3 HT3.out
    obtain ⟨hfin, g1⟩ := Hzero.out w3 HT3.out 1
    have hnt : ¬ ta.top < (l.length : Int) := fun h => by have := Htop2.out.2 h; cases this
    rw [← Hv1.out (by omega)] at hfin
    have Hfin := Lib.hid hfin
    have G1 := Lib.hid g1
    clear hfin g1 hnt
    go_wp2
    exact bodyPost_ret (v := .tuple #[.agg #[.int .i64 0, .int .i64 0, .slice none 0 0], .int .i64 1]) (results_term_err rfl G1.out rfl rfl) rfl Hfin.out
  have htp : ta.top < (l.length : Int) := Htop2.out.1 rfl
  have Hc3 := Lib.hid (Hext.out w3 HT3.out htp)
  have Hfl := Lib.hid (fun X hX => Hfil.out X hX htp)
  have Hv3 := Lib.hid (Hv2.out htp)
  clear htp Hext Hfil Hv1 Hv2 Htop Htop2 HEv Hvis
  go_wp2_with fail
  refine Hc3.out.mono ?_
  rintro e w4 ⟨rfl, t4⟩
  have HT4 := Lib.hid (HT3.out.trans t4 (fun _ _ hf => hf))
  clear c0 c1 c2 lW q0 q1 t4
  obtain ⟨Y, hY⟩ : ∃ Y, Y = w4.alloc (.cells #[.int .i64 xx, .int .i64 xy] 83) := ⟨_, rfl⟩
  have tY : Turned w4 Y (fun _ => False) := by rw [hY]; exact (Turned.refl _ _).alloc _
  have HTY := Lib.hid (HT4.out.trans tY (fun _ _ hf => hf))
  obtain ⟨y0, y1, -, -, y2⟩ := boxE (show Y.heap[w4.heap.size]? = some (.cells #[.int .i64 xx, .int .i64 xy] 83 (0, 0)) by rw [hY]; exact heap_alloc_new _ _)
  have HY := Lib.hid hY
  clear hY tY
  go_upto_region 6 with fail
  rw [← HY.out]
  go_wp2_with fail
  refine (extTree_any xx xy Y).mono ?_
  rintro e w5 ⟨rfl, t5⟩
  have HT5 := Lib.hid (HTY.out.trans t5 (fun _ _ hf => hf))
  clear t5 y0 y1 y2
  obtain ⟨c0, c1, c2, lW, q0, q1⟩ := HB.out w5 HT5.out
  generalize (decide (xx ≤ 2000) && decide (xy ≤ 200)) = ok at *
  cases ok
  · obtain ⟨e0, e1, e2, f0, f1, f2, l4⟩ := Hz3.out w5 HT5.out
    obtain ⟨hfin, g1⟩ := Hzero.out w5 HT5.out 2
    rw [show (Tm.zero, (2 : Int)) = ta.subst l by rw [Hv3.out]; rfl] at hfin
    have Hfin := Lib.hid hfin
    have G1 := Lib.hid g1
    clear hfin g1
    go_wp2
    exact bodyPost_ret (v := .tuple #[.agg #[.int .i64 0, .int .i64 0, .slice none 0 0], .int .i64 2]) (results_term_err rfl G1.out rfl rfl) rfl Hfin.out
  · have Hc4 := Lib.hid (Hfl.out w5 HT5.out)
    have hs5 : W.heap.size ≤ w5.heap.size := HT5.out.size
    go_wp2_with fail
    refine Hc4.out.mono ?_
    rintro e w6 ⟨v, rfl, hv, t6⟩
    obtain ⟨p, cp, rfl⟩ := hv.form
    have k36 := turn_keep (HT5.out.trans t6 (fun _ _ hf => hf)) K3.out
    obtain ⟨e0, e1, e2, f0, f1, f2, l4⟩ := box3 k36
    obtain ⟨hfin, g1⟩ := newTe_put (w := w) (er := 0) hv k36 ((TW.out.trans HT5.out (fun _ _ hf => hf)).trans t6 (fun _ _ hf => hf)) (show w.heap.size ≤ w.heap.size + 1 + 1 by omega) (by omega) (by omega)
    rw [show (ta.repl l, (0 : Int)) = ta.subst l by rw [Hv3.out]; rfl] at hfin
    have Hfin := Lib.hid hfin
    have G1 := Lib.hid g1
    clear hfin g1 k36 hv t6 c0 c1 c2 lW q0 q1
    generalize (ta.repl l).kind = yk at *
    generalize (ta.repl l).num = yn at *
    generalize (ta.repl l).kids.length = ym at *
    go_wp2
    exact bodyPost_ret (v := .tuple #[.agg #[.int .i64 yk, .int .i64 yn, .slice p ym cp], .int .i64 0]) (results_term_err rfl G1.out rfl rfl) rfl Hfin.out
end Go.Proofs.Ytljnmjehokijgaa
