/- Parts of the proof, one behind the other. -/
import Derived.Test.YtljnmjehokijgaaMg16

/- Shift there and back: the mathematics. -/
namespace Go.Proofs.Ytljnmjehokijgaa
open Go.RowKit

mutual
theorem Tm.mapN_size (f : Int → Int → Int) : ∀ t : Tm, (t.mapN f).size = t.size
  | .node k n l => by simp only [Tm.mapN, Tm.size, Tm.mapNs_size f l]
theorem Tm.mapNs_size (f : Int → Int → Int) : ∀ l : List Tm, Tm.sizes (Tm.mapNs f l) = Tm.sizes l
  | [] => rfl
  | t :: l => by simp only [Tm.mapNs, Tm.sizes, Tm.mapN_size f t, Tm.mapNs_size f l]
end
mutual
theorem Tm.mapN_depth (f : Int → Int → Int) : ∀ t : Tm, (t.mapN f).depth = t.depth
  | .node k n l => by simp only [Tm.mapN, Tm.depth, Tm.mapNs_depth f l]
theorem Tm.mapNs_depth (f : Int → Int → Int) : ∀ (l : List Tm) (m : Nat), Tm.depths (Tm.mapNs f l) m = Tm.depths l m
  | [], _ => rfl
  | t :: l, m => by simp only [Tm.mapNs, Tm.depths, Tm.mapN_depth f t, Tm.mapNs_depth f l]
end

theorem Tm.mapNs_length (f : Int → Int → Int) (l : List Tm) : (Tm.mapNs f l).length = l.length := by rw [Tm.mapNs_map, List.length_map]

theorem canB_node (fr bb k n : Int) (l : List Tm) : canB fr bb (.node k n l) = true ↔ k ≠ 1 ∨ n < fr ∨ (fr - n ≤ bb ∧ bb ≤ 1000000 - n) := by
  have e : canB fr bb (.node k n l) = ((!(k == 1) || decide (n < fr)) || (decide (fr - n ≤ bb) && decide (bb ≤ 1000000 - n))) := rfl
  rw [e]
  by_cases hk : k = 1
  · subst hk
    simp
  · simp [hk]

mutual
/-- What is moved is right. -/
theorem Tm.mov_right {fr bb : Int} (h0 : 0 ≤ fr) : ∀ t : Tm, t.right = true → t.every (canB fr bb) = true → (t.mapN (movF fr bb)).right = true
  | .node k n l, hr, hc => by
    rw [Tm.right_ok, Bool.and_eq_true] at hr
    simp only [Tm.every, Bool.and_eq_true] at hc
    simp only [Tm.mapN]
    rw [Tm.right_ok, Bool.and_eq_true]
    refine ⟨?_, Tm.movs_right h0 l hr.2 hc.2⟩
    have hr1 := hr.1
    have hc1 := (canB_node fr bb k n l).1 hc.1
    unfold Tm.okNode at hr1 ⊢
    simp only [Bool.or_eq_true, Bool.and_eq_true, Bool.not_eq_true', decide_eq_true_eq, decide_eq_false_iff_not, beq_iff_eq] at hr1 ⊢
    rw [Tm.mapNs_length]
    unfold movF
    rcases hr1 with ⟨⟨h1, h2⟩, h3⟩ | ⟨⟨h1, h2⟩, h3⟩
    · left
      refine ⟨⟨h1, ?_⟩, h3⟩
      split
      · rcases hc1 with h | h | h <;> omega
      · exact h2
    · right
      exact ⟨⟨h1, by rw [if_neg (by omega)]; exact h2⟩, h3⟩
theorem Tm.movs_right {fr bb : Int} (h0 : 0 ≤ fr) : ∀ l : List Tm, Tm.rights l = true → Tm.everys (canB fr bb) l = true → Tm.rights (Tm.mapNs (movF fr bb) l) = true
  | [], _, _ => rfl
  | t :: l, hr, hc => by
    simp only [Tm.rights, Bool.and_eq_true] at hr
    simp only [Tm.everys, Bool.and_eq_true] at hc
    simp only [Tm.mapNs, Tm.rights, Bool.and_eq_true]
    exact ⟨Tm.mov_right h0 t hr.1 hc.1, Tm.movs_right h0 l hr.2 hc.2⟩
end

mutual
theorem Tm.mov_mov {fr a b : Int} : ∀ t : Tm, t.every (canB fr a) = true → (t.mapN (movF fr a)).mapN (movF fr b) = t.mapN (movF fr (a + b))
  | .node k n l, hc => by
    simp only [Tm.every, Bool.and_eq_true] at hc
    have hc1 := (canB_node fr a k n l).1 hc.1
    simp only [Tm.mapN, Tm.movs_movs l hc.2]
    congr 1
    unfold movF
    by_cases hk : k = 1
    · subst hk
      by_cases hn : fr ≤ n
      · rw [if_pos (c := 1 = 1 ∧ fr ≤ n) ⟨rfl, hn⟩, if_pos ⟨rfl, by omega⟩, if_pos (c := 1 = 1 ∧ fr ≤ n) ⟨rfl, hn⟩]
        omega
      · rw [if_neg (c := 1 = 1 ∧ fr ≤ n) (fun h => hn h.2), if_neg (fun h => hn h.2), if_neg (fun h => hn h.2)]
    · rw [if_neg (c := k = 1 ∧ fr ≤ n) (fun h => hk h.1), if_neg (fun h => hk h.1), if_neg (fun h => hk h.1)]
theorem Tm.movs_movs {fr a b : Int} : ∀ l : List Tm, Tm.everys (canB fr a) l = true → Tm.mapNs (movF fr b) (Tm.mapNs (movF fr a) l) = Tm.mapNs (movF fr (a + b)) l
  | [], _ => rfl
  | t :: l, hc => by
    simp only [Tm.everys, Bool.and_eq_true] at hc
    simp only [Tm.mapNs, Tm.mov_mov t hc.1, Tm.movs_movs l hc.2]
end

mutual
theorem Tm.mov_zero {fr : Int} : ∀ t : Tm, t.mapN (movF fr 0) = t
  | .node k n l => by
    simp only [Tm.mapN, Tm.movs_zero l]
    congr 1
    unfold movF
    split <;> omega
theorem Tm.movs_zero {fr : Int} : ∀ l : List Tm, Tm.mapNs (movF fr 0) l = l
  | [] => rfl
  | t :: l => by simp only [Tm.mapNs, Tm.mov_zero t, Tm.movs_zero l]
end

mutual
theorem Tm.mov_every {fr a b c : Int} (hd : ∀ n, fr ≤ n → fr - n ≤ a → a ≤ 1000000 - n → (fr - (n + a) ≤ b ∧ b ≤ 1000000 - (n + a)) → fr - n ≤ c ∧ c ≤ 1000000 - n) : ∀ t : Tm, t.every (canB fr a) = true → (t.mapN (movF fr a)).every (canB fr b) = true → t.every (canB fr c) = true
  | .node k n l, h1, h2 => by
    simp only [Tm.mapN, Tm.every, Bool.and_eq_true] at h1 h2 ⊢
    refine ⟨?_, Tm.movs_every hd l h1.2 h2.2⟩
    have h3 := (canB_node fr a k n l).1 h1.1
    have h4 := (canB_node fr b k _ _).1 h2.1
    rw [canB_node]
    by_cases hk : k = 1
    · subst hk
      by_cases hn : fr ≤ n
      · unfold movF at h4
        rw [if_pos ⟨rfl, hn⟩] at h4
        right; right
        have h5 : fr - n ≤ a ∧ a ≤ 1000000 - n := by rcases h3 with h | h | h <;> omega
        exact hd n hn h5.1 h5.2 (by rcases h4 with h | h | h <;> omega)
      · right; left; omega
    · exact .inl hk
theorem Tm.movs_every {fr a b c : Int} (hd : ∀ n, fr ≤ n → fr - n ≤ a → a ≤ 1000000 - n → (fr - (n + a) ≤ b ∧ b ≤ 1000000 - (n + a)) → fr - n ≤ c ∧ c ≤ 1000000 - n) : ∀ l : List Tm, Tm.everys (canB fr a) l = true → Tm.everys (canB fr b) (Tm.mapNs (movF fr a) l) = true → Tm.everys (canB fr c) l = true
  | [], _, _ => rfl
  | t :: l, h1, h2 => by
    simp only [Tm.mapNs, Tm.everys, Bool.and_eq_true] at h1 h2 ⊢
    exact ⟨Tm.mov_every hd t h1.1 h2.1, Tm.movs_every hd l h1.2 h2.2⟩
end

mutual
theorem Tm.mov_back {fr a : Int} (ha : 0 ≤ a) : ∀ t : Tm, t.every (canB fr a) = true → (t.mapN (movF fr a)).every (canB fr (-a)) = true
  | .node k n l, h1 => by
    simp only [Tm.mapN, Tm.every, Bool.and_eq_true] at h1 ⊢
    refine ⟨?_, Tm.movs_back ha l h1.2⟩
    have h3 := (canB_node fr a k n l).1 h1.1
    rw [canB_node]
    by_cases hk : k = 1
    · subst hk
      unfold movF
      by_cases hn : fr ≤ n
      · rw [if_pos ⟨rfl, hn⟩]
        right; right
        rcases h3 with h | h | h <;> omega
      · rw [if_neg (fun h => hn h.2)]
        right; left; omega
    · exact .inl hk
theorem Tm.movs_back {fr a : Int} (ha : 0 ≤ a) : ∀ l : List Tm, Tm.everys (canB fr a) l = true → Tm.everys (canB fr (-a)) (Tm.mapNs (movF fr a) l) = true
  | [], _ => rfl
  | t :: l, h1 => by
    simp only [Tm.mapNs, Tm.everys, Bool.and_eq_true] at h1 ⊢
    exact ⟨Tm.mov_back ha t h1.1, Tm.movs_back ha l h1.2⟩
end

mutual
theorem Tm.mov_small {fr a : Int} (h0 : 0 ≤ fr) : ∀ t : Tm, t.small → t.every (canB fr a) = true → (t.mapN (movF fr a)).small
  | .node k n l, hs, h1 => by
    simp only [Tm.every, Bool.and_eq_true] at h1
    have h3 := (canB_node fr a k n l).1 h1.1
    refine ⟨?_, Tm.movs_small h0 l hs.2 h1.2⟩
    have hs1 := hs.1
    unfold movF
    split
    · rename_i h
      rcases h3 with h4 | h4 | h4 <;> omega
    · exact hs1
theorem Tm.movs_small {fr a : Int} (h0 : 0 ≤ fr) : ∀ l : List Tm, Tm.smalls l → Tm.everys (canB fr a) l = true → Tm.smalls (Tm.mapNs (movF fr a) l)
  | [], _, _ => trivial
  | t :: l, hs, h1 => by
    simp only [Tm.everys, Bool.and_eq_true] at h1
    exact ⟨Tm.mov_small h0 t hs.1 h1.1, Tm.movs_small h0 l hs.2 h1.2⟩
end

theorem Tm.mov_isTree {fr a : Int} {t : Tm} (h0 : 0 ≤ fr) (ht : t.isTree = true) (hc : t.every (canB fr a) = true) : (t.mapN (movF fr a)).isTree = true := by
  rw [Tm.isTree_iff] at ht ⊢
  rw [Tm.mapN_size, Tm.mapN_depth]
  exact ⟨ht.1, ht.2.1, Tm.mov_right h0 t ht.2.2 hc⟩

/-- Shift's laws. -/
theorem Tm.shift_laws (t : Tm) (fr a b : Int) : ((t.shift fr a).2 ≠ 0 → (t.shift fr a).1 = Tm.zero) ∧
    ((t.shift fr a).2 = 0 → (0 ≤ a → (t.shift fr a).1.shift fr (-a) = (t, 0)) ∧ (((t.shift fr a).1.shift fr b).2 = 0 → (t.shift fr (a + b)).2 = 0 ∧ ((t.shift fr a).1.shift fr b).1 = (t.shift fr (a + b)).1)) := by
  unfold Tm.shift
  by_cases ht : t.isTree = true
  rotate_left 1
  · rw [if_neg ht]
    exact ⟨fun _ => rfl, fun h => by cases h⟩
  rw [if_pos ht]
  by_cases hc : 0 ≤ fr ∧ t.every (canB fr a) = true
  rotate_left 1
  · rw [if_neg hc]
    exact ⟨fun _ => rfl, fun h => by cases h⟩
  rw [if_pos hc]
  refine ⟨fun h => absurd rfl h, fun _ => ⟨fun ha => ?_, fun h => ?_⟩⟩
  · rw [if_pos (Tm.mov_isTree hc.1 ht hc.2), if_pos ⟨hc.1, Tm.mov_back ha t hc.2⟩, Tm.mov_mov t hc.2]
    rw [show a + -a = 0 by omega, Tm.mov_zero]
  · rw [if_pos (Tm.mov_isTree hc.1 ht hc.2)] at h ⊢
    by_cases h2 : 0 ≤ fr ∧ (t.mapN (movF fr a)).every (canB fr b) = true
    · have h3 := Tm.mov_every (c := a + b) (fun n h1 h2 h3 h4 => by omega) t hc.2 h2.2
      rw [if_pos h2, if_pos ht, if_pos ⟨hc.1, h3⟩]
      exact ⟨rfl, Tm.mov_mov t hc.2⟩
    · rw [if_neg h2] at h
      cases h

theorem Tm.shift_small {t : Tm} {fr a : Int} (h : t.small) : (t.shift fr a).1.small := by
  unfold Tm.shift
  split
  · split
    · rename_i hc
      exact Tm.mov_small hc.1 t h hc.2
    · exact ⟨by omega, trivial⟩
  · exact ⟨by omega, trivial⟩
end Go.Proofs.Ytljnmjehokijgaa

/- SigShifts: the walk. -/
namespace Go.Proofs.Ytljnmjehokijgaa
open Go.RowKit

set_option maxRecDepth 100000 in
set_option maxHeartbeats 3200000 in
theorem sigShifts_any (w : World) (t : Tm) (v : Value) (fr a b : Int) (ht : TmIn w t v) (hs : t.small) (hf : -9223372036854775808 ≤ fr ∧ fr ≤ 9223372036854775807) (_ha : -9223372036854775808 ≤ a ∧ a ≤ 9223372036854775807) (_hb : -9223372036854775808 ≤ b ∧ b ≤ 9223372036854775807) :
    Calls Try.prog 7 #[v, .int .i64 fr, .int .i64 a, .int .i64 b] w fun e w' => e = .returned (.bool true) ∧ Below w.heap.size w w' := by
  obtain ⟨p, c, rfl, -⟩ := ht.form
  obtain ⟨W, hW, tW, hC⟩ := box1 w (.int .i64 t.kind) (.int .i64 t.num) (.slice p t.kids.length c) 24
  have hfin : ∀ V, Turned W V (fun _ => False) → Below w.heap.size w V := fun V hV => (tW.trans hV (fun _ _ hf => hf)).below (Nat.le_refl _) (fun _ hf => hf.elim)
  have hF := fun V V' (hV : Turned W V (fun _ => False)) (hV' : V' = V.alloc (.cells #[.int .i64 t.kind, .int .i64 t.num, .slice p t.kids.length c] 24)) =>
    few_any [t] (.slice (some ⟨V.heap.size, 0, none⟩) 1 1) V' (rowTm_one ht (by rw [hV']; exact (tW.trans hV (fun _ _ hf => hf)).alloc _) (by rw [hV']; exact heap_alloc_new _ _) 1)
  have hS1 := fun V (hV : Turned W V (fun _ => False)) => sigShift_any t _ fr a V (TmIn.turned (tW.trans hV (fun _ _ hf => hf)) _ ht) hs hf.2
  have hS2 := fun V (hV : Turned W V (fun _ => False)) => sigShift_any t _ fr (a + b) V (TmIn.turned (tW.trans hV (fun _ _ hf => hf)) _ ht) hs hf.2
  have hSX := fun (by_ : Int) V (v : Value) (hv : TmIn V (t.shift fr a).1 v) => sigShift_any (t.shift fr a).1 v fr by_ V hv (Tm.shift_small hs) hf.2
  obtain ⟨L1, L2⟩ := Tm.shift_laws t fr a b
  have hSame := fun V (y : Tm) (vy : Value) (hV : Turned W V (fun _ => False)) (hy : TmIn V y vy) => rsame_any y t vy _ V hy (TmIn.turned (tW.trans hV (fun _ _ hf => hf)) _ ht)
  have HW := Lib.hid hW
  have HC := Lib.hid hC
  have Hfin := Lib.hid hfin
  have Hsane := Lib.hid (sane_all W)
  have HF := Lib.hid hF
  have HS1 := Lib.hid hS1
  have HS2 := Lib.hid hS2
  have HSX := Lib.hid hSX
  have HL1 := Lib.hid L1
  have HL2 := Lib.hid L2
  have HSame := Lib.hid hSame
  clear hW hC hfin hF hS1 hS2 hSX L1 L2 hSame ht hs tW _ha _hb
  generalize fewB [t] = fw at *
  go_enter Try.func7, Try.ntmps7
  go_wp2_with fail
  rw [← HW.out]
  refine Hsane.out.mono ?_
  rintro e w1 ⟨rfl, t1⟩
  obtain ⟨c0, c1, c2, l1⟩ := HC.out w1 t1
  obtain ⟨V', hV'⟩ : ∃ V', V' = w1.alloc (.cells #[.int .i64 t.kind, .int .i64 t.num, .slice p t.kids.length c] 24) := ⟨_, rfl⟩
  have Hfw := Lib.hid (HF.out w1 V' t1 hV')
  have T1 := Lib.hid (show Turned W V' (fun _ => False) by rw [hV']; exact t1.alloc _)
  have HV' := Lib.hid hV'
  clear t1 hV' HF
  go_wp2_with fail
  rw [← HV'.out]
  refine Hfw.out.mono ?_
  rintro e w2 ⟨rfl, t2⟩
  have T2 := Lib.hid (T1.out.trans t2 (fun _ _ hf => hf))
  clear t2 c0 c1 c2 l1
  cases fw
  · go_wp2
    go_ret
    exact ⟨rfl, Hfin.out _ T2.out⟩
  by_cases h1 : a < -2000000
  · go_wp2
    go_ret
    exact ⟨rfl, Hfin.out _ T2.out⟩
  by_cases h2 : 2000000 < a
  · go_wp2
    go_ret
    exact ⟨rfl, Hfin.out _ T2.out⟩
  by_cases h3 : b < -2000000
  · go_wp2
    go_ret
    exact ⟨rfl, Hfin.out _ T2.out⟩
  by_cases h4 : 2000000 < b
  · go_wp2
    go_ret
    exact ⟨rfl, Hfin.out _ T2.out⟩
  have e1 : IntKind.i64.wrap (-a) = -a := IntWalk.i64_in _ (by omega)
  have e2 : IntKind.i64.wrap (a + b) = a + b := IntWalk.i64_in _ (by omega)
  obtain ⟨c0, c1, c2, l1⟩ := HC.out w2 T2.out
  have Hq1 := Lib.hid (HS1.out w2 T2.out)
  clear HS1
  go_wp2_with fail
  refine Hq1.out.mono ?_
  rintro e w3 ⟨v3, rfl, hv3, t3⟩
  have HX := Lib.hid (TmS.toIn _ hv3)
  obtain ⟨p3, q3, rfl⟩ := hv3.form
  have T3 := Lib.hid (T2.out.trans t3 (fun _ _ hf => hf))
  clear hv3 t3 c0 c1 c2 l1 Hq1
  generalize t.shift fr a = X at *
  obtain ⟨x, ex⟩ := X
  simp only at HX HL1 HL2 HSX
  obtain ⟨V4, hV4, tV4, hC4⟩ := box1 w3 (.int .i64 x.kind) (.int .i64 x.num) (.slice p3 x.kids.length q3) 24
  have T4 := Lib.hid (T3.out.trans tV4 (fun _ _ hf => hf))
  have HX4 := Lib.hid (TmIn.turned tV4 _ HX.out)
  obtain ⟨d0, d1, d2, dl⟩ := hC4 V4 (Turned.refl _ _)
  have HC4 := Lib.hid hC4
  have HV4 := Lib.hid hV4
  clear hV4 tV4 hC4 HX
  go_upto_region 6 with fail
  rw [← HV4.out]
  by_cases hx : ex = 0
  rotate_left 1
  · have hk0 : x.kind = 0 := by rw [HL1.out hx]; rfl
    have f1 : (ex == 0) = false := by simpa using hx
    have f2 : (ex != 0) = true := by simpa using hx
    rw [hk0] at d0
    clear hx hk0 HL1 HL2 HSX HX4 HC4
    go_wp2
    go_ret
    exact ⟨rfl, Hfin.out _ T4.out⟩
  subst hx
  have HL := Lib.hid (HL2.out rfl)
  clear HL1 HL2
  by_cases ha : 0 ≤ a
  · have Hq2 := Lib.hid (HSX.out (-a) V4 _ HX4.out)
    rw [HL.out.1 ha] at Hq2
    go_wp2_with fail
    refine Hq2.out.mono ?_
    rintro e w5 ⟨v5, rfl, hv5, t5⟩
    have HY := Lib.hid (TmS.toIn _ hv5)
    obtain ⟨p5, q5, rfl⟩ := hv5.form
    have T5 := Lib.hid t5
    clear hv5 t5 d0 d1 d2 dl Hq2
    obtain ⟨V6, hV6, tV6, hC6⟩ := box1 w5 (.int .i64 t.kind) (.int .i64 t.num) (.slice p5 t.kids.length q5) 24
    have T6 := Lib.hid (T5.out.trans tV6 (fun _ _ hf => hf))
    have TW6 := Lib.hid (T4.out.trans T6.out (fun _ _ hf => hf))
    have HY6 := Lib.hid (TmIn.turned tV6 _ HY.out)
    obtain ⟨f0, f1, f2, fl⟩ := hC6 V6 (Turned.refl _ _)
    obtain ⟨c0, c1, c2, l1⟩ := HC.out V6 TW6.out
    have Hq5 := Lib.hid (HSame.out V6 t _ TW6.out HY6.out)
    rw [(Tm.same_iff t t).2 rfl] at Hq5
    have HV6 := Lib.hid hV6
    clear hV6 tV6 hC6 HY T5 HSame
    go_upto_region 10 with fail
    rw [← HV6.out]
    go_wp2_with fail
    refine Hq5.out.mono ?_
    rintro e VC ⟨rfl, t7⟩
    have TC := Lib.hid (TW6.out.trans t7 (fun _ _ hf => hf))
    have TVC := Lib.hid (T6.out.trans t7 (fun _ _ hf => hf))
    clear t7 f0 f1 f2 fl c0 c1 c2 l1 Hq5 HY6 T6 TW6
    obtain ⟨c0, c1, c2, l1⟩ := HC.out VC TC.out
    obtain ⟨d0, d1, d2, dl⟩ := HC4.out VC TVC.out
    have Hq3 := Lib.hid (HSX.out b VC _ (TmIn.turned TVC.out _ HX4.out))
    go_wp2_with fail
    refine Hq3.out.mono ?_
    rintro e w7 ⟨v7, rfl, hv7, t7⟩
    have HY := Lib.hid (TmS.toIn _ hv7)
    obtain ⟨p7, q7, rfl⟩ := hv7.form
    have T7 := Lib.hid (TC.out.trans t7 (fun _ _ hf => hf))
    clear hv7 t7 c0 c1 c2 l1 d0 d1 d2 dl Hq3 HSX
    generalize x.shift fr b = Y at *
    obtain ⟨y, ey⟩ := Y
    simp only at HY HL
    obtain ⟨V8, hV8, tV8, hC8⟩ := box1 w7 (.int .i64 y.kind) (.int .i64 y.num) (.slice p7 y.kids.length q7) 24
    have T8 := Lib.hid (T7.out.trans tV8 (fun _ _ hf => hf))
    have HY8 := Lib.hid (TmIn.turned tV8 _ HY.out)
    have HC8 := Lib.hid hC8
    have HV8 := Lib.hid hV8
    obtain ⟨c0, c1, c2, l1⟩ := HC.out V8 T8.out
    have Hq4 := Lib.hid (HS2.out V8 T8.out)
    clear hV8 tV8 hC8 HY T7 HS2
    go_upto_region 13 with fail
    rw [← HV8.out]
    go_wp2_with fail
    refine Hq4.out.mono ?_
    rintro e w9 ⟨v9, rfl, hv9, t9⟩
    have HZ := Lib.hid (TmS.toIn _ hv9)
    obtain ⟨p9, q9, rfl⟩ := hv9.form
    have T9 := Lib.hid t9
    clear hv9 t9 c0 c1 c2 l1 Hq4
    generalize t.shift fr (a + b) = Z at *
    obtain ⟨z, ez⟩ := Z
    simp only at HZ HL
    obtain ⟨V10, hV10, tV10, hC10⟩ := box1 w9 (.int .i64 z.kind) (.int .i64 z.num) (.slice p9 z.kids.length q9) 24
    have T10 := Lib.hid (T9.out.trans tV10 (fun _ _ hf => hf))
    have TW10 := Lib.hid (T8.out.trans T10.out (fun _ _ hf => hf))
    have HZ10 := Lib.hid (TmIn.turned tV10 _ HZ.out)
    obtain ⟨f0, f1, f2, fl⟩ := hC10 V10 (Turned.refl _ _)
    obtain ⟨g0, g1, g2, gl⟩ := HC8.out V10 T10.out
    have HV10 := Lib.hid hV10
    have HY10 := Lib.hid (TmIn.turned T10.out _ HY8.out)
    clear hV10 tV10 hC10 HZ T9 T10
    by_cases hy : ey = 0
    rotate_left 1
    · have f3 : (ey == 0) = false := by simpa using hy
      have f4 : (ey != 0) = true := by simpa using hy
      clear hy
      go_upto_region 14 with fail
      rw [← HV10.out]
      go_wp2
      go_ret
      exact ⟨rfl, Hfin.out _ TW10.out⟩
    obtain ⟨rfl, rfl⟩ := HL.out.2 hy
    subst hy
    have Hq5 := Lib.hid (rsame_any y y _ _ V10 HY10.out HZ10.out)
    rw [(Tm.same_iff y y).2 rfl] at Hq5
    go_upto_region 14 with fail
    rw [← HV10.out]
    go_wp2_with fail
    refine Hq5.out.mono ?_
    rintro e w11 ⟨rfl, t11⟩
    have T11 := Lib.hid (TW10.out.trans t11 (fun _ _ hf => hf))
    clear t11 f0 f1 f2 fl g0 g1 g2 gl
    go_wp2
    go_ret
    exact ⟨rfl, Hfin.out _ T11.out⟩
  · obtain ⟨VC, hVC⟩ : ∃ VC, VC = V4 := ⟨_, rfl⟩
    have TC := Lib.hid (show Turned W VC (fun _ => False) by rw [hVC]; exact T4.out)
    have TVC := Lib.hid (show Turned V4 VC (fun _ => False) by rw [hVC]; exact Turned.refl _ _)
    rw [← hVC]
    clear hVC d0 d1 d2 dl HSame
    obtain ⟨c0, c1, c2, l1⟩ := HC.out VC TC.out
    obtain ⟨d0, d1, d2, dl⟩ := HC4.out VC TVC.out
    have Hq3 := Lib.hid (HSX.out b VC _ (TmIn.turned TVC.out _ HX4.out))
    go_wp2_with fail
    refine Hq3.out.mono ?_
    rintro e w7 ⟨v7, rfl, hv7, t7⟩
    have HY := Lib.hid (TmS.toIn _ hv7)
    obtain ⟨p7, q7, rfl⟩ := hv7.form
    have T7 := Lib.hid (TC.out.trans t7 (fun _ _ hf => hf))
    clear hv7 t7 c0 c1 c2 l1 d0 d1 d2 dl Hq3 HSX
    generalize x.shift fr b = Y at *
    obtain ⟨y, ey⟩ := Y
    simp only at HY HL
    obtain ⟨V8, hV8, tV8, hC8⟩ := box1 w7 (.int .i64 y.kind) (.int .i64 y.num) (.slice p7 y.kids.length q7) 24
    have T8 := Lib.hid (T7.out.trans tV8 (fun _ _ hf => hf))
    have HY8 := Lib.hid (TmIn.turned tV8 _ HY.out)
    have HC8 := Lib.hid hC8
    have HV8 := Lib.hid hV8
    obtain ⟨c0, c1, c2, l1⟩ := HC.out V8 T8.out
    have Hq4 := Lib.hid (HS2.out V8 T8.out)
    clear hV8 tV8 hC8 HY T7 HS2
    go_upto_region 13 with fail
    rw [← HV8.out]
    go_wp2_with fail
    refine Hq4.out.mono ?_
    rintro e w9 ⟨v9, rfl, hv9, t9⟩
    have HZ := Lib.hid (TmS.toIn _ hv9)
    obtain ⟨p9, q9, rfl⟩ := hv9.form
    have T9 := Lib.hid t9
    clear hv9 t9 c0 c1 c2 l1 Hq4
    generalize t.shift fr (a + b) = Z at *
    obtain ⟨z, ez⟩ := Z
    simp only at HZ HL
    obtain ⟨V10, hV10, tV10, hC10⟩ := box1 w9 (.int .i64 z.kind) (.int .i64 z.num) (.slice p9 z.kids.length q9) 24
    have T10 := Lib.hid (T9.out.trans tV10 (fun _ _ hf => hf))
    have TW10 := Lib.hid (T8.out.trans T10.out (fun _ _ hf => hf))
    have HZ10 := Lib.hid (TmIn.turned tV10 _ HZ.out)
    obtain ⟨f0, f1, f2, fl⟩ := hC10 V10 (Turned.refl _ _)
    obtain ⟨g0, g1, g2, gl⟩ := HC8.out V10 T10.out
    have HV10 := Lib.hid hV10
    have HY10 := Lib.hid (TmIn.turned T10.out _ HY8.out)
    clear hV10 tV10 hC10 HZ T9 T10
    by_cases hy : ey = 0
    rotate_left 1
    · have f3 : (ey == 0) = false := by simpa using hy
      have f4 : (ey != 0) = true := by simpa using hy
      clear hy
      go_upto_region 14 with fail
      rw [← HV10.out]
      go_wp2
      go_ret
      exact ⟨rfl, Hfin.out _ TW10.out⟩
    obtain ⟨rfl, rfl⟩ := HL.out.2 hy
    subst hy
    have Hq5 := Lib.hid (rsame_any y y _ _ V10 HY10.out HZ10.out)
    rw [(Tm.same_iff y y).2 rfl] at Hq5
    go_upto_region 14 with fail
    rw [← HV10.out]
    go_wp2_with fail
    refine Hq5.out.mono ?_
    rintro e w11 ⟨rfl, t11⟩
    have T11 := Lib.hid (TW10.out.trans t11 (fun _ _ hf => hf))
    clear t11 f0 f1 f2 fl g0 g1 g2 gl
    go_wp2
    go_ret
    exact ⟨rfl, Hfin.out _ T11.out⟩
end Go.Proofs.Ytljnmjehokijgaa
