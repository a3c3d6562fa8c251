/- Parts of the proof, one behind the other. -/
import Derived.IntWalk
import Derived.Lib.Hide
import Derived.Deep.QuietTactic
import Derived.BigQuiet
import Derived.Deep.RegionHeld3
import Derived.Test.YtljnmjehokijgaaMg1

/- Trees held against each other. -/
namespace Go.Proofs.Ytljnmjehokijgaa
open Go.RowKit

mutual
def Tm.same : Tm → Tm → Bool
  | .node k n l, .node k' n' l' => k == k' && n == n' && Tm.sames l l'
def Tm.sames : List Tm → List Tm → Bool
  | [], [] => true
  | [], _ :: _ => false
  | _ :: _, [] => false
  | a :: l, b :: m => Tm.same a b && Tm.sames l m
end

mutual
theorem Tm.same_iff : ∀ a b : Tm, a.same b = true ↔ a = b
  | .node k n l, .node k' n' l' => by
    simp only [Tm.same, Bool.and_eq_true, beq_iff_eq, Tm.sames_iff l l', Tm.node.injEq, and_assoc]
theorem Tm.sames_iff : ∀ l m : List Tm, Tm.sames l m = true ↔ l = m
  | [], [] => by simp [Tm.sames]
  | [], _ :: _ => by simp [Tm.sames]
  | _ :: _, [] => by simp [Tm.sames]
  | a :: l, b :: m => by simp only [Tm.sames, Bool.and_eq_true, Tm.same_iff a b, Tm.sames_iff l m, List.cons.injEq]
end

theorem Tm.same_false {a b : Tm} (h : a ≠ b) : a.same b = false := by
  cases hs : a.same b with
  | false => rfl
  | true => exact absurd ((Tm.same_iff a b).1 hs) h

theorem Tm.sames_false {a b : List Tm} (h : a ≠ b) : Tm.sames a b = false := by
  cases hs : Tm.sames a b with
  | false => rfl
  | true => exact absurd ((Tm.sames_iff a b).1 hs) h

/-- A value put into a box of its own. -/
theorem box1 (w : World) (x y z : Value) (t : TypeId) : ∃ W, W = w.alloc (.cells #[x, y, z] t) ∧ Turned w W (fun _ => False) ∧ ∀ V, Turned W V (fun _ => False) →
    V.cell? ⟨w.heap.size, 0, none⟩ = some x ∧ V.cell? ⟨w.heap.size, 1, none⟩ = some y ∧ V.cell? ⟨w.heap.size, 2, none⟩ = some z ∧ w.heap.size < V.heap.size := by
  refine ⟨_, rfl, (Turned.refl w _).alloc _, fun V hV => ?_⟩
  have h := heap_alloc_new w (.cells #[x, y, z] t)
  have h1 := (hV.block _ (lt_of_block h) (fun hf => hf)).trans h
  refine ⟨?_, ?_, ?_, lt_of_block h1⟩ <;> simp [World.cell?, h1]

/-- Two of them. -/
theorem box2 (w : World) (x y z x' y' z' : Value) (t t' : TypeId) : ∃ W, W = (w.alloc (.cells #[x, y, z] t)).alloc (.cells #[x', y', z'] t') ∧ Turned w W (fun _ => False) ∧ ∀ V, Turned W V (fun _ => False) →
    V.cell? ⟨w.heap.size, 0, none⟩ = some x ∧ V.cell? ⟨w.heap.size, 1, none⟩ = some y ∧ V.cell? ⟨w.heap.size, 2, none⟩ = some z ∧
    V.cell? ⟨w.heap.size + 1, 0, none⟩ = some x' ∧ V.cell? ⟨w.heap.size + 1, 1, none⟩ = some y' ∧ V.cell? ⟨w.heap.size + 1, 2, none⟩ = some z' ∧ w.heap.size + 1 < V.heap.size := by
  obtain ⟨W1, h1, t1, c1⟩ := box1 w x y z t
  obtain ⟨W2, h2, t2, c2⟩ := box1 W1 x' y' z' t'
  refine ⟨W2, by rw [h2, h1], t1.trans t2 (fun _ _ hf => hf), fun V hV => ?_⟩
  obtain ⟨a1, a2, a3, -⟩ := c1 V (t2.trans hV (fun _ _ hf => hf))
  obtain ⟨b1, b2, b3, b4⟩ := c2 V hV
  have hs : W1.heap.size = w.heap.size + 1 := by rw [h1]; simp
  rw [hs] at b1 b2 b3 b4
  exact ⟨a1, a2, a3, b1, b2, b3, b4⟩

theorem tm_take {l m : List Tm} {k : Nat} (h : l.take k = m.take k) (hl : k < l.length) (hm : k < m.length) (he : l[k] = m[k]) : l.take (k + 1) = m.take (k + 1) := by
  rw [List.take_succ_eq_append_getElem hl, List.take_succ_eq_append_getElem hm, h, he]

set_option maxRecDepth 100000 in
set_option maxHeartbeats 1600000 in
theorem rsame_any : ∀ (ta tb : Tm) (va vb : Value) (w : World), TmIn w ta va → TmIn w tb vb →
    Calls Try.prog 18 #[va, vb] w fun e w' => e = .returned (.bool (ta.same tb)) ∧ Turned w w' (fun _ => False) := by
  intro ta
  refine Tm.ind (P := fun ta => ∀ (tb : Tm) (va vb : Value) (w : World), TmIn w ta va → TmIn w tb vb →
    Calls Try.prog 18 #[va, vb] w fun e w' => e = .returned (.bool (ta.same tb)) ∧ Turned w w' (fun _ => False)) ?_ ta
  clear ta
  intro ka na la ih tb va vb w ha hb
  obtain ⟨kb, nb, lb⟩ := tb
  obtain ⟨aa, ca, rfl, hla, ra⟩ := ha
  obtain ⟨ab, cb, rfl, hlb, rb⟩ := hb
  have hla2 := hla
  unfold maxLen at hla2
  obtain ⟨W, hW, tW, hC⟩ := box2 w (.int .i64 ka) (.int .i64 na) (.slice aa la.length ca) (.int .i64 kb) (.int .i64 nb) (.slice ab lb.length cb) 24 24
  obtain ⟨c0, c1, c2, d0, d1, d2, lW⟩ := hC W (Turned.refl _ _)
  have HW := Lib.hid hW
  have Ih := Lib.hid ih
  have HC := Lib.hid hC
  have TW := Lib.hid tW
  clear hW ih hC tW
  by_cases hk : ka = kb
  rotate_left 1
  · rw [Tm.same_false (by intro h; simp only [Tm.node.injEq] at h; exact hk h.1)]
    have e1 : (ka == kb) = false := by simpa using hk
    have e2 : (ka != kb) = true := by simpa using hk
    go_enter Try.func18, Try.ntmps18
    go_wp2_with fail
    rw [← HW.out]
    go_wp2
    go_ret
    exact ⟨rfl, TW.out⟩
  subst hk
  by_cases hn : na = nb
  rotate_left 1
  · rw [Tm.same_false (by intro h; simp only [Tm.node.injEq] at h; exact hn h.2.1)]
    have e1 : (na == nb) = false := by simpa using hn
    have e2 : (na != nb) = true := by simpa using hn
    go_enter Try.func18, Try.ntmps18
    go_wp2_with fail
    rw [← HW.out]
    go_wp2
    go_ret
    exact ⟨rfl, TW.out⟩
  subst hn
  by_cases hl : la.length = lb.length
  rotate_left 1
  · rw [Tm.same_false (by intro h; simp only [Tm.node.injEq] at h; exact hl (by rw [h.2.2]))]
    have e1 : ((la.length : Int) == (lb.length : Int)) = false := by simp; omega
    have e2 : ((la.length : Int) != (lb.length : Int)) = true := by simp; omega
    go_enter Try.func18, Try.ntmps18
    go_wp2_with fail
    rw [← HW.out]
    go_wp2
    go_ret
    exact ⟨rfl, TW.out⟩
  have e1 : ((la.length : Int) == (lb.length : Int)) = true := by simp; omega
  have e2 : ((la.length : Int) != (lb.length : Int)) = false := by simp; omega
  have Hl := Lib.hid hl
  have Ra := Lib.hid ra
  have Rb := Lib.hid rb
  clear hl ra rb
  go_enter Try.func18, Try.ntmps18
  go_wp2_with fail
  rw [← HW.out]
  go_wp2
  clear e1 e2 c0 c1 c2 d0 d1 d2 lW
  go_loopw [5] (fun i wr => ∃ k : Nat, k ≤ la.length ∧ i = .int .i64 k ∧ la.take k = lb.take k ∧ Turned W wr (fun _ => False)) (fun i _ => la.length - (intOf i).toNat)
  case atStart => exact ⟨0, Nat.zero_le _, rfl, rfl, Turned.refl _ _⟩
  case round =>
    obtain ⟨k, hk, rfl, htk, ht⟩ := hrel
    have Htk := Lib.hid htk
    clear htk
    by_cases hlt : k < la.length
    · have hltb : k < lb.length := by rw [← Hl.out]; exact hlt
      have hki : (k : Int) < (la.length : Int) := by omega
      have hki2 : (k : Int) < (lb.length : Int) := by omega
      obtain ⟨ga, oa, x0, x1, x2, rfl, lga, xa0, xa1, xa2, xat⟩ := tmsIn_at Ra.out k hlt
      obtain ⟨gb, ob, y0, y1, y2, rfl, lgb, yb0, yb1, yb2, ybt⟩ := tmsIn_at Rb.out k hltb
      have hwr : Turned w wr (fun _ => False) := TW.out.trans ht (fun _ _ hf => hf)
      have lga' : ga < wr.heap.size := Nat.lt_of_lt_of_le lga hwr.size
      have lgb' : gb < wr.heap.size := Nat.lt_of_lt_of_le lgb hwr.size
      have Sof : ∀ w' : World, Turned wr w' (fun _ => False) → w'.cell? ⟨w.heap.size, 2, none⟩ = some (.slice (some ⟨ga, oa, none⟩) la.length ca) ∧ w'.cell? ⟨w.heap.size + 1, 2, none⟩ = some (.slice (some ⟨gb, ob, none⟩) lb.length cb) ∧
          w'.cell? ⟨ga, oa + k * 3, none⟩ = some x0 ∧ w'.cell? ⟨ga, oa + k * 3 + 1, none⟩ = some x1 ∧ w'.cell? ⟨ga, oa + k * 3 + 2, none⟩ = some x2 ∧
          w'.cell? ⟨gb, ob + k * 3, none⟩ = some y0 ∧ w'.cell? ⟨gb, ob + k * 3 + 1, none⟩ = some y1 ∧ w'.cell? ⟨gb, ob + k * 3 + 2, none⟩ = some y2 ∧ Turned wr w' (fun _ => False) := by
        intro w' t
        have t2 : Turned w w' (fun _ => False) := hwr.trans t (fun _ _ hf => hf)
        obtain ⟨-, -, c2, -, -, d2, -⟩ := HC.out w' (ht.trans t (fun _ _ hf => hf))
        exact ⟨c2, d2, (t2.cell (p := ⟨ga, oa + k * 3, none⟩) lga (fun hf => hf)).trans xa0, (t2.cell (p := ⟨ga, oa + k * 3 + 1, none⟩) lga (fun hf => hf)).trans xa1, (t2.cell (p := ⟨ga, oa + k * 3 + 2, none⟩) lga (fun hf => hf)).trans xa2,
          (t2.cell (p := ⟨gb, ob + k * 3, none⟩) lgb (fun hf => hf)).trans yb0, (t2.cell (p := ⟨gb, ob + k * 3 + 1, none⟩) lgb (fun hf => hf)).trans yb1, (t2.cell (p := ⟨gb, ob + k * 3 + 2, none⟩) lgb (fun hf => hf)).trans yb2, t⟩
      have lC := (HC.out wr ht).2.2.2.2.2.2
      have HSof := Lib.hid Sof
      have Hcall := Lib.hid (fun V (hV : Turned wr V (fun _ => False)) => Ih.out la[k] (List.getElem_mem hlt) lb[k] (.agg #[x0, x1, x2]) (.agg #[y0, y1, y2]) V (TmIn.turned (hwr.trans hV (fun _ _ hf => hf)) _ xat) (TmIn.turned (hwr.trans hV (fun _ _ hf => hf)) _ ybt))
      have Ht := Lib.hid ht
      have tt : Turned wr wr.drew (fun _ => False) := (Turned.refl wr _).drew
      obtain ⟨p0, q0, p1, p2, p3, q1, q2, q3, _⟩ := Sof wr (Turned.refl _ _)
      have hne : la[k].same lb[k] = false → (Tm.node ka na la).same (.node ka na lb) = false := fun h => Tm.same_false (by
        intro e
        simp only [Tm.node.injEq, true_and] at e
        subst e
        rw [(Tm.same_iff _ _).2 rfl] at h
        cases h)
      have hnx : la[k].same lb[k] = true → la.take (k + 1) = lb.take (k + 1) := fun h => tm_take Htk.out hlt hltb ((Tm.same_iff _ _).1 h)
      have Hne := Lib.hid hne
      have Hnx := Lib.hid hnx
      clear xa0 xa1 xa2 xat yb0 yb1 yb2 ybt Sof ht hwr lga lgb hne hnx
      generalize hsm : la[k].same lb[k] = sm at *
      go_wp2_with fail
      go_region_held3 (fun w' => w'.cell? ⟨w.heap.size, 2, none⟩ = some (.slice (some ⟨ga, oa, none⟩) la.length ca) ∧ w'.cell? ⟨w.heap.size + 1, 2, none⟩ = some (.slice (some ⟨gb, ob, none⟩) lb.length cb) ∧
          w'.cell? ⟨ga, oa + k * 3, none⟩ = some x0 ∧ w'.cell? ⟨ga, oa + k * 3 + 1, none⟩ = some x1 ∧ w'.cell? ⟨ga, oa + k * 3 + 2, none⟩ = some x2 ∧
          w'.cell? ⟨gb, ob + k * 3, none⟩ = some y0 ∧ w'.cell? ⟨gb, ob + k * 3 + 1, none⟩ = some y1 ∧ w'.cell? ⟨gb, ob + k * 3 + 2, none⟩ = some y2 ∧ Turned wr w' (fun _ => False))
        ((go_split_ands; first | exact HSof.out _ (by assumption) | exact HSof.out _ (Turned.drew (by assumption)) | exact HSof.out _ (Turned.trans tt t1 (fun _ _ hf => hf))))
        (first
          | (go_at_call 18; go_split_ands; refine (Hcall.out _ tt).mono ?_; rintro e w1 ⟨rfl, t1⟩))
      have t3 : Turned W w1 (fun _ => False) := Ht.out.trans (tt.trans t1 (fun _ _ hf => hf)) (fun _ _ hf => hf)
      have T3 := Lib.hid t3
      have Hsm := Lib.hid hsm
      clear t3 hsm t1 tt p0 p1 p2 p3 q0 q1 q2 q3
      cases sm
      · have hf := Hne.out rfl
        have Hf := Lib.hid hf
        clear hf Hne
        go_wp2
        go_ret
        rw [Hf.out]
        exact ⟨rfl, TW.out.trans T3.out (fun _ _ hf => hf)⟩
      · have hk1 := Hnx.out rfl
        have Hk1 := Lib.hid hk1
        clear hk1
        go_wp2
        go_roundw
        case rel => exact ⟨k + 1, by omega, by go_num, Hk1.out, T3.out⟩
        case measure => simp [intOf]; omega
    · obtain rfl : k = la.length := by omega
      have hfin : (Tm.node ka na la).same (.node ka na lb) = true := by
        rw [Tm.same_iff]
        have h5 := Htk.out
        rw [List.take_of_length_le (Nat.le_refl _), List.take_of_length_le (by rw [Hl.out]; exact Nat.le_refl _)] at h5
        rw [h5]
      have Hfin := Lib.hid hfin
      obtain ⟨-, -, c2, -, -, d2, lC⟩ := HC.out wr ht
      clear hfin
      go_wp2
      go_ret
      rw [Hfin.out]
      exact ⟨rfl, TW.out.trans ht (fun _ _ hf => hf)⟩
end Go.Proofs.Ytljnmjehokijgaa

/- Lists of trees, and of numbers, held against each other. -/
namespace Go.Proofs.Ytljnmjehokijgaa
open Go.RowKit

/-- A list of numbers as a value. -/
def RowI (w : World) (v : Value) (l : List Int) : Prop :=
  ∃ a cap, v = .slice a l.length cap ∧ l.length ≤ maxLen ∧ (l ≠ [] → ∃ g off, a = some ⟨g, off, none⟩ ∧ g < w.heap.size ∧ ∀ (j : Nat) (x : Int), l[j]? = some x → w.cell? ⟨g, off + j, none⟩ = some (.int .i64 x))

theorem RowI.turned {w w' : World} (h : Turned w w' (fun _ => False)) {v : Value} {l : List Int} (hr : RowI w v l) : RowI w' v l := by
  obtain ⟨a, cap, hv, hl, hx⟩ := hr
  refine ⟨a, cap, hv, hl, fun hne => ?_⟩
  obtain ⟨g, off, ha, hg, hc⟩ := hx hne
  exact ⟨g, off, ha, Nat.lt_of_lt_of_le hg h.size, fun j x hj => (h.cell (p := ⟨g, off + j, none⟩) hg (fun hf => hf)).trans (hc j x hj)⟩

theorem RowI.nil (w : World) : RowI w (.slice none 0 0) [] := ⟨none, 0, rfl, Nat.zero_le _, fun h => absurd rfl h⟩

theorem RowI.at {w : World} {a : Option Addr} {n cap : Nat} {l : List Int} (h : RowI w (.slice a n cap) l) (k : Nat) (hk : k < l.length) : ∃ g off, a = some ⟨g, off, none⟩ ∧ g < w.heap.size ∧ w.cell? ⟨g, off + k, none⟩ = some (.int .i64 l[k]) := by
  obtain ⟨a', cap', hv, -, hx⟩ := h
  simp only [Value.slice.injEq] at hv
  obtain ⟨rfl, -, -⟩ := hv
  obtain ⟨g, off, ha, hg, hc⟩ := hx (by intro e; subst e; exact absurd hk (Nat.not_lt_zero _))
  exact ⟨g, off, ha, hg, hc k _ (List.getElem?_eq_getElem hk)⟩

def intsB (la lb : List Int) : Bool := decide (la = lb)

theorem ints_take {l m : List Int} {k : Nat} (h : l.take k = m.take k) (hl : k < l.length) (hm : k < m.length) (he : l[k] = m[k]) : l.take (k + 1) = m.take (k + 1) := by
  rw [List.take_succ_eq_append_getElem hl, List.take_succ_eq_append_getElem hm, h, he]

set_option maxRecDepth 100000 in
set_option maxHeartbeats 1600000 in
theorem rsameInts_any (la lb : List Int) (va vb : Value) (w : World) (ha : RowI w va la) (hb : RowI w vb lb) :
    Calls Try.prog 32 #[va, vb] w fun e w' => e = .returned (.bool (intsB la lb)) ∧ Turned w w' (fun _ => False) := by
  have ha2 := ha
  have hb2 := hb
  obtain ⟨aa, ca, rfl, hla, -⟩ := ha2
  obtain ⟨ab, cb, rfl, hlb, -⟩ := hb2
  have hla2 := hla
  unfold maxLen at hla2
  have Ha := Lib.hid ha
  have Hb := Lib.hid hb
  clear ha hb
  by_cases hl : la.length = lb.length
  rotate_left 1
  · rw [show intsB la lb = false from decide_eq_false (by intro h; exact hl (by rw [h]))]
    have e1 : ((la.length : Int) == (lb.length : Int)) = false := by simp; omega
    have e2 : ((la.length : Int) != (lb.length : Int)) = true := by simp; omega
    go_enter Try.func32, Try.ntmps32
    go_wp2
    go_ret
    exact ⟨rfl, Turned.refl _ _⟩
  have e1 : ((la.length : Int) == (lb.length : Int)) = true := by simp; omega
  have e2 : ((la.length : Int) != (lb.length : Int)) = false := by simp; omega
  have Hl := Lib.hid hl
  clear hl
  go_enter Try.func32, Try.ntmps32
  go_wp2
  clear e1 e2
  go_loopw [5] (fun i wr => ∃ k : Nat, k ≤ la.length ∧ i = .int .i64 k ∧ la.take k = lb.take k ∧ Turned w wr (fun _ => False)) (fun i _ => la.length - (intOf i).toNat)
  case atStart => exact ⟨0, Nat.zero_le _, rfl, rfl, Turned.refl _ _⟩
  case round =>
    obtain ⟨k, hk, rfl, htk, ht⟩ := hrel
    have Htk := Lib.hid htk
    clear htk
    by_cases hlt : k < la.length
    · have hltb : k < lb.length := by rw [← Hl.out]; exact hlt
      have hki : (k : Int) < (la.length : Int) := by omega
      have hki2 : (k : Int) < (lb.length : Int) := by omega
      obtain ⟨ga, oa, rfl, lga, xa⟩ := Ha.out.at k hlt
      obtain ⟨gb, ob, rfl, lgb, xb⟩ := Hb.out.at k hltb
      have pa := (ht.cell (p := ⟨ga, oa + k, none⟩) lga (fun hf => hf)).trans xa
      have pb := (ht.cell (p := ⟨gb, ob + k, none⟩) lgb (fun hf => hf)).trans xb
      have Hne := Lib.hid (fun (h : la[k] ≠ lb[k]) => show intsB la lb = false from decide_eq_false (by intro e; subst e; exact h rfl))
      have Hnx := Lib.hid (fun (h : la[k] = lb[k]) => ints_take Htk.out hlt hltb h)
      have lga' : ga < wr.heap.size := Nat.lt_of_lt_of_le lga ht.size
      have lgb' : gb < wr.heap.size := Nat.lt_of_lt_of_le lgb ht.size
      have Ht := Lib.hid ht
      clear xa xb ht lga lgb
      generalize la[k] = x at *
      generalize lb[k] = y at *
      by_cases hxy : x = y
      · subst hxy
        have hk1 := Hnx.out rfl
        have Hk1 := Lib.hid hk1
        clear hk1 Hnx Hne
        go_wp2_with fail
        go_quiet (fail)
        go_wp2
        go_roundw
        case rel => exact ⟨k + 1, by omega, by go_num, Hk1.out, Ht.out.drewN _⟩
        case measure => simp [intOf]; omega
      · have hf := Hne.out hxy
        have Hf := Lib.hid hf
        have e1 : (x == y) = false := by simpa using hxy
        have e2 : (x != y) = true := by simpa using hxy
        clear hf Hne Hnx hxy
        go_wp2_with fail
        go_quiet (fail)
        go_wp2
        go_ret
        rw [Hf.out]
        exact ⟨rfl, Ht.out.drewN _⟩
    · obtain rfl : k = la.length := by omega
      have hfin : intsB la lb = true := decide_eq_true (by
        have h5 := Htk.out
        rwa [List.take_of_length_le (Nat.le_refl _), List.take_of_length_le (by rw [Hl.out]; exact Nat.le_refl _)] at h5)
      have Hfin := Lib.hid hfin
      clear hfin
      go_wp2
      go_ret
      rw [Hfin.out]
      exact ⟨rfl, ht⟩

set_option maxRecDepth 100000 in
set_option maxHeartbeats 1600000 in
theorem rsameAll_any (la lb : List Tm) (va vb : Value) (w : World) (ha : RowTm w va la) (hb : RowTm w vb lb) :
    Calls Try.prog 23 #[va, vb] w fun e w' => e = .returned (.bool (Tm.sames la lb)) ∧ Turned w w' (fun _ => False) := by
  obtain ⟨aa, ca, rfl, hla, ra⟩ := ha
  obtain ⟨ab, cb, rfl, hlb, rb⟩ := hb
  have hla2 := hla
  unfold maxLen at hla2
  have Ra := Lib.hid ra
  have Rb := Lib.hid rb
  clear ra rb
  by_cases hl : la.length = lb.length
  rotate_left 1
  · rw [Tm.sames_false (by intro h; exact hl (by rw [h]))]
    have e1 : ((la.length : Int) == (lb.length : Int)) = false := by simp; omega
    have e2 : ((la.length : Int) != (lb.length : Int)) = true := by simp; omega
    go_enter Try.func23, Try.ntmps23
    go_wp2
    go_ret
    exact ⟨rfl, Turned.refl _ _⟩
  have e1 : ((la.length : Int) == (lb.length : Int)) = true := by simp; omega
  have e2 : ((la.length : Int) != (lb.length : Int)) = false := by simp; omega
  have Hl := Lib.hid hl
  clear hl
  go_enter Try.func23, Try.ntmps23
  go_wp2
  clear e1 e2
  go_loopw [5] (fun i wr => ∃ k : Nat, k ≤ la.length ∧ i = .int .i64 k ∧ la.take k = lb.take k ∧ Turned w wr (fun _ => False)) (fun i _ => la.length - (intOf i).toNat)
  case atStart => exact ⟨0, Nat.zero_le _, rfl, rfl, Turned.refl _ _⟩
  case round =>
    obtain ⟨k, hk, rfl, htk, ht⟩ := hrel
    have Htk := Lib.hid htk
    clear htk
    by_cases hlt : k < la.length
    · have hltb : k < lb.length := by rw [← Hl.out]; exact hlt
      have hki : (k : Int) < (la.length : Int) := by omega
      have hki2 : (k : Int) < (lb.length : Int) := by omega
      obtain ⟨ga, oa, x0, x1, x2, rfl, lga, xa0, xa1, xa2, xat⟩ := tmsIn_at Ra.out k hlt
      obtain ⟨gb, ob, y0, y1, y2, rfl, lgb, yb0, yb1, yb2, ybt⟩ := tmsIn_at Rb.out k hltb
      have lga' : ga < wr.heap.size := Nat.lt_of_lt_of_le lga ht.size
      have lgb' : gb < wr.heap.size := Nat.lt_of_lt_of_le lgb ht.size
      have Sof : ∀ w' : World, Turned wr w' (fun _ => False) → w'.cell? ⟨ga, oa + k * 3, none⟩ = some x0 ∧ w'.cell? ⟨ga, oa + k * 3 + 1, none⟩ = some x1 ∧ w'.cell? ⟨ga, oa + k * 3 + 2, none⟩ = some x2 ∧
          w'.cell? ⟨gb, ob + k * 3, none⟩ = some y0 ∧ w'.cell? ⟨gb, ob + k * 3 + 1, none⟩ = some y1 ∧ w'.cell? ⟨gb, ob + k * 3 + 2, none⟩ = some y2 ∧ Turned wr w' (fun _ => False) := by
        intro w' t
        have t2 : Turned w w' (fun _ => False) := ht.trans t (fun _ _ hf => hf)
        exact ⟨(t2.cell (p := ⟨ga, oa + k * 3, none⟩) lga (fun hf => hf)).trans xa0, (t2.cell (p := ⟨ga, oa + k * 3 + 1, none⟩) lga (fun hf => hf)).trans xa1, (t2.cell (p := ⟨ga, oa + k * 3 + 2, none⟩) lga (fun hf => hf)).trans xa2,
          (t2.cell (p := ⟨gb, ob + k * 3, none⟩) lgb (fun hf => hf)).trans yb0, (t2.cell (p := ⟨gb, ob + k * 3 + 1, none⟩) lgb (fun hf => hf)).trans yb1, (t2.cell (p := ⟨gb, ob + k * 3 + 2, none⟩) lgb (fun hf => hf)).trans yb2, t⟩
      have HSof := Lib.hid Sof
      have Hcall := Lib.hid (fun V (hV : Turned wr V (fun _ => False)) => rsame_any la[k] lb[k] (.agg #[x0, x1, x2]) (.agg #[y0, y1, y2]) V (TmIn.turned (ht.trans hV (fun _ _ hf => hf)) _ xat) (TmIn.turned (ht.trans hV (fun _ _ hf => hf)) _ ybt))
      have Ht := Lib.hid ht
      have tt : Turned wr wr.drew (fun _ => False) := (Turned.refl wr _).drew
      obtain ⟨p1, p2, p3, q1, q2, q3, _⟩ := Sof wr (Turned.refl _ _)
      have hne : la[k].same lb[k] = false → Tm.sames la lb = false := fun h => Tm.sames_false (by
        intro e
        subst e
        rw [(Tm.same_iff _ _).2 rfl] at h
        cases h)
      have hnx : la[k].same lb[k] = true → la.take (k + 1) = lb.take (k + 1) := fun h => tm_take Htk.out hlt hltb ((Tm.same_iff _ _).1 h)
      have Hne := Lib.hid hne
      have Hnx := Lib.hid hnx
      clear xa0 xa1 xa2 xat yb0 yb1 yb2 ybt Sof ht lga lgb hne hnx
      generalize hsm : la[k].same lb[k] = sm at *
      go_wp2_with fail
      go_region_held3 (fun w' => w'.cell? ⟨ga, oa + k * 3, none⟩ = some x0 ∧ w'.cell? ⟨ga, oa + k * 3 + 1, none⟩ = some x1 ∧ w'.cell? ⟨ga, oa + k * 3 + 2, none⟩ = some x2 ∧
          w'.cell? ⟨gb, ob + k * 3, none⟩ = some y0 ∧ w'.cell? ⟨gb, ob + k * 3 + 1, none⟩ = some y1 ∧ w'.cell? ⟨gb, ob + k * 3 + 2, none⟩ = some y2 ∧ Turned wr w' (fun _ => False))
        ((go_split_ands; first | exact HSof.out _ (by assumption) | exact HSof.out _ (Turned.drew (by assumption)) | exact HSof.out _ (Turned.trans tt t1 (fun _ _ hf => hf))))
        (first
          | (go_at_call 18; go_split_ands; refine (Hcall.out _ tt).mono ?_; rintro e w1 ⟨rfl, t1⟩))
      have t3 : Turned w w1 (fun _ => False) := Ht.out.trans (tt.trans t1 (fun _ _ hf => hf)) (fun _ _ hf => hf)
      have T3 := Lib.hid t3
      have Hsm := Lib.hid hsm
      clear t3 hsm t1 tt p1 p2 p3 q1 q2 q3
      cases sm
      · have hf := Hne.out rfl
        have Hf := Lib.hid hf
        clear hf Hne
        go_wp2
        go_ret
        rw [Hf.out]
        exact ⟨rfl, T3.out⟩
      · have hk1 := Hnx.out rfl
        have Hk1 := Lib.hid hk1
        clear hk1
        go_wp2
        go_roundw
        case rel => exact ⟨k + 1, by omega, by go_num, Hk1.out, T3.out⟩
        case measure => simp [intOf]; omega
    · obtain rfl : k = la.length := by omega
      have hfin : Tm.sames la lb = true := by
        rw [Tm.sames_iff]
        have h5 := Htk.out
        rwa [List.take_of_length_le (Nat.le_refl _), List.take_of_length_le (by rw [Hl.out]; exact Nat.le_refl _)] at h5
      have Hfin := Lib.hid hfin
      clear hfin
      go_wp2
      go_ret
      rw [Hfin.out]
      exact ⟨rfl, ht⟩
end Go.Proofs.Ytljnmjehokijgaa

/- Which trees are right: nodes, their number, their depth. -/
namespace Go.Proofs.Ytljnmjehokijgaa
open Go.RowKit

mutual
/-- All nodes are right. -/
def Tm.right : Tm → Bool
  | .node k n l => !decide (n < 0) && (k == 1 || k == 2) && !(k == 1 && decide (0 < l.length)) && decide (l.length ≤ 8) && Tm.rights l
def Tm.rights : List Tm → Bool
  | [] => true
  | t :: l => t.right && Tm.rights l
end

mutual
/-- How many nodes are left, and whether the depth is right (M deep at most). -/
def Tm.cnt (M : Int) : Tm → Int → Int → Int × Bool
  | .node _ _ l, left, deep => if left - 1 < 0 ∨ M < deep then (left - 1, false) else Tm.cnts M l (left - 1) deep
def Tm.cnts (M : Int) : List Tm → Int → Int → Int × Bool
  | [], left, _ => (left, true)
  | t :: l, left, deep => if (t.cnt M left (deep + 1)).2 = true then Tm.cnts M l (t.cnt M left (deep + 1)).1 deep else ((t.cnt M left (deep + 1)).1, false)
end

/-- A tree, as the chapter says. -/
def Tm.isTree (t : Tm) : Bool := (t.cnt 200 2000 1).2 && t.right

theorem Tm.rights_all : ∀ l : List Tm, Tm.rights l = l.all Tm.right
  | [] => rfl
  | t :: l => by simp only [Tm.rights, List.all_cons, Tm.rights_all l]

theorem Tm.cnts_snoc (M : Int) : ∀ (l : List Tm) (t : Tm) (left deep : Int), Tm.cnts M (l ++ [t]) left deep = if (Tm.cnts M l left deep).2 = true then t.cnt M (Tm.cnts M l left deep).1 (deep + 1) else Tm.cnts M l left deep
  | [], t, left, deep => by
    simp only [List.nil_append, Tm.cnts, if_true]
    rcases t.cnt M left (deep + 1) with ⟨x, b⟩
    cases b <;> simp
  | x :: l, t, left, deep => by
    simp only [List.cons_append, Tm.cnts]
    split
    · rename_i h
      exact Tm.cnts_snoc M l t _ deep
    · rename_i h
      simp

theorem Tm.cnts_stop (M : Int) : ∀ (l m : List Tm) (left deep : Int), (Tm.cnts M l left deep).2 = false → Tm.cnts M (l ++ m) left deep = Tm.cnts M l left deep
  | [], m, left, deep, h => by simp [Tm.cnts] at h
  | x :: l, m, left, deep, h => by
    simp only [List.cons_append, Tm.cnts] at h ⊢
    split
    · rename_i h2
      rw [if_pos h2] at h
      exact Tm.cnts_stop M l m _ deep h
    · rfl

mutual
/-- What is left is no more than there was, and not less than -1. -/
theorem Tm.cnt_le (M : Int) : ∀ (t : Tm) (left deep : Int), 0 ≤ left → (t.cnt M left deep).1 ≤ left ∧ -1 ≤ (t.cnt M left deep).1 ∧ ((t.cnt M left deep).2 = true → 0 ≤ (t.cnt M left deep).1)
  | .node _ _ l, left, deep, h => by
    simp only [Tm.cnt]
    split
    · exact ⟨by simp only; omega, by simp only; omega, fun hh => by cases hh⟩
    · have := Tm.cnts_le M l (left - 1) deep (by omega)
      exact ⟨by omega, this.2.1, this.2.2⟩
theorem Tm.cnts_le (M : Int) : ∀ (l : List Tm) (left deep : Int), 0 ≤ left → (Tm.cnts M l left deep).1 ≤ left ∧ -1 ≤ (Tm.cnts M l left deep).1 ∧ ((Tm.cnts M l left deep).2 = true → 0 ≤ (Tm.cnts M l left deep).1)
  | [], left, deep, h => by simp only [Tm.cnts]; exact ⟨Int.le_refl _, by omega, fun _ => h⟩
  | t :: l, left, deep, h => by
    have h1 := Tm.cnt_le M t left (deep + 1) h
    simp only [Tm.cnts]
    split
    · rename_i h2
      have h3 := Tm.cnts_le M l (t.cnt M left (deep + 1)).1 deep (h1.2.2 h2)
      exact ⟨by omega, h3.2.1, h3.2.2⟩
    · exact ⟨h1.1, h1.2.1, fun hh => by cases hh⟩
end

set_option maxRecDepth 100000 in
set_option maxHeartbeats 1600000 in
theorem rnodes_any : ∀ (ta : Tm) (va : Value) (w : World), TmIn w ta va →
    Calls Try.prog 42 #[va] w fun e w' => e = .returned (.bool ta.right) ∧ Turned w w' (fun _ => False) := by
  intro ta
  refine Tm.ind (P := fun ta => ∀ (va : Value) (w : World), TmIn w ta va →
    Calls Try.prog 42 #[va] w fun e w' => e = .returned (.bool ta.right) ∧ Turned w w' (fun _ => False)) ?_ ta
  clear ta
  intro ka na la ih va w ha
  obtain ⟨aa, ca, rfl, hla, ra⟩ := ha
  have hla2 := hla
  unfold maxLen at hla2
  by_cases gv : ka = 1 ∧ la = []
  · obtain ⟨rfl, rfl⟩ := gv
    simp only [List.length_nil]
    obtain ⟨W, hW, tW, hC⟩ := box1 w (.int .i64 1) (.int .i64 na) (.slice aa 0 ca) 24
    obtain ⟨c0, c1, c2, lW⟩ := hC W (Turned.refl _ _)
    have HW := Lib.hid hW
    have TW := Lib.hid tW
    clear ih ra hC hW tW hla hla2
    by_cases g1 : na < 0
    · have hr : (Tm.node 1 na []).right = false := by simp [Tm.right, g1]
      rw [hr]
      clear hr
      go_enter Try.func42, Try.ntmps42
      go_wp2_with fail
      rw [← HW.out]
      go_wp2
      go_ret
      exact ⟨rfl, TW.out⟩
    · have hr : (Tm.node 1 na []).right = true := by
        have h1 : decide (na < 0) = false := decide_eq_false g1
        simp only [Tm.right, Tm.rights, h1]
        rfl
      rw [hr]
      clear hr
      go_enter Try.func42, Try.ntmps42
      go_wp2_with fail
      rw [← HW.out]
      go_wp2
      clear c0 c1 lW
      go_loopw [3] (fun i wr => i = .int .i64 0 ∧ wr = W) (fun i _ => 0)
      case atStart => exact ⟨rfl, rfl⟩
      case round =>
        obtain ⟨rfl, hwr⟩ := hrel
        have c2' : wr.cell? ⟨w.heap.size, 2, none⟩ = some (.slice aa 0 ca) := by rw [hwr]; exact c2
        have Hwr := Lib.hid hwr
        clear hwr c2
        go_wp2
        go_ret
        exact ⟨rfl, by rw [Hwr.out]; exact TW.out⟩
  obtain ⟨W, hW, tW, hC⟩ := box1 w (.int .i64 ka) (.int .i64 na) (.slice aa la.length ca) 24
  obtain ⟨c0, c1, c2, lW⟩ := hC W (Turned.refl _ _)
  have HW := Lib.hid hW
  have Ih := Lib.hid ih
  have HC := Lib.hid hC
  have TW := Lib.hid tW
  have hbad : (na < 0 ∨ (ka ≠ 1 ∧ ka ≠ 2) ∨ (ka = 1 ∧ 0 < la.length) ∨ 8 < la.length) → (Tm.node ka na la).right = false := by
    intro h
    simp only [Tm.right]
    rcases h with h | h | h | h
    · simp [h]
    · simp [h.1, h.2]
    · simp [h.1, h.2]
    · have : ¬ la.length ≤ 8 := by omega
      simp [this]
  have Hbad := Lib.hid hbad
  clear hW ih hC tW hbad
  by_cases g1 : na < 0
  · rw [Hbad.out (.inl g1)]
    go_enter Try.func42, Try.ntmps42
    go_wp2_with fail
    rw [← HW.out]
    go_wp2
    go_ret
    exact ⟨rfl, TW.out⟩
  by_cases g2 : ka ≠ 1 ∧ ka ≠ 2
  · rw [Hbad.out (.inr (.inl g2))]
    obtain ⟨g3, g4⟩ := g2
    have e1 : (ka == 1) = false := by simpa using g3
    have e2 : (ka != 1) = true := by simpa using g3
    have e3 : (ka == 2) = false := by simpa using g4
    have e4 : (ka != 2) = true := by simpa using g4
    go_enter Try.func42, Try.ntmps42
    go_wp2_with fail
    rw [← HW.out]
    go_wp2
    go_ret
    exact ⟨rfl, TW.out⟩
  by_cases g3 : ka = 1 ∧ 0 < la.length
  · rw [Hbad.out (.inr (.inr (.inl g3)))]
    obtain ⟨rfl, g4⟩ := g3
    have e1 : ((0 : Int) < (la.length : Int)) := by omega
    go_enter Try.func42, Try.ntmps42
    go_wp2_with fail
    rw [← HW.out]
    go_wp2
    go_ret
    exact ⟨rfl, TW.out⟩
  by_cases g4 : 8 < la.length
  · rw [Hbad.out (.inr (.inr (.inr g4)))]
    have hk : ka = 2 := by omega
    subst hk
    have e1 : ((8 : Int) < (la.length : Int)) := by omega
    go_enter Try.func42, Try.ntmps42
    go_wp2_with fail
    rw [← HW.out]
    go_wp2
    go_ret
    exact ⟨rfl, TW.out⟩
  have hgood : (Tm.node ka na la).right = Tm.rights la := by
    have h1 : decide (na < 0) = false := decide_eq_false g1
    have h2 : (ka == 1 || ka == 2) = true := by simp; omega
    have h3 : (ka == 1 && decide (0 < la.length)) = false := by
      rw [Bool.eq_false_iff]
      intro h
      simp only [Bool.and_eq_true, beq_iff_eq, decide_eq_true_eq] at h
      exact g3 h
    have h4 : decide (la.length ≤ 8) = true := decide_eq_true (by omega)
    simp only [Tm.right, h1, h2, h3, h4]
    simp
  have Hgood := Lib.hid hgood
  have Ra := Lib.hid ra
  rw [hgood]
  have e8 : ¬ ((8 : Int) < (la.length : Int)) := by omega
  have hka : ka = 2 := by
    rcases Decidable.em (ka = 1) with h | h
    · exact absurd ⟨h, List.length_eq_zero_iff.1 (by omega)⟩ gv
    · omega
  clear gv
  clear hgood Hgood Hbad ra g2 g3 g4
  subst hka
  go_enter Try.func42, Try.ntmps42
  go_wp2_with fail
  rw [← HW.out]
  go_wp2
  clear c0 c1 c2 lW
  go_loopw [3] (fun i wr => ∃ k : Nat, k ≤ la.length ∧ i = .int .i64 k ∧ (la.take k).all Tm.right = true ∧ Turned W wr (fun _ => False)) (fun i _ => la.length - (intOf i).toNat)
  case atStart => exact ⟨0, Nat.zero_le _, rfl, rfl, Turned.refl _ _⟩
  case round =>
    obtain ⟨k, hk, rfl, htk, ht⟩ := hrel
    have Htk := Lib.hid htk
    obtain ⟨c0, c1, c2, lC⟩ := HC.out wr ht
    clear htk
    by_cases hlt : k < la.length
    · have hki : (k : Int) < (la.length : Int) := by omega
      obtain ⟨ga, oa, x0, x1, x2, rfl, lga, xa0, xa1, xa2, xat⟩ := tmsIn_at Ra.out k hlt
      have hwr : Turned w wr (fun _ => False) := TW.out.trans ht (fun _ _ hf => hf)
      have lga' : ga < wr.heap.size := Nat.lt_of_lt_of_le lga hwr.size
      have p0 := (hwr.cell (p := ⟨ga, oa + k * 3, none⟩) lga (fun hf => hf)).trans xa0
      have p1 := (hwr.cell (p := ⟨ga, oa + k * 3 + 1, none⟩) lga (fun hf => hf)).trans xa1
      have p2 := (hwr.cell (p := ⟨ga, oa + k * 3 + 2, none⟩) lga (fun hf => hf)).trans xa2
      have Hcall := Lib.hid (Ih.out la[k] (List.getElem_mem hlt) (.agg #[x0, x1, x2]) wr (TmIn.turned hwr _ xat))
      have hne : la[k].right = false → Tm.rights la = false := fun h => by
        rw [Tm.rights_all, List.all_eq_false]
        exact ⟨_, List.getElem_mem hlt, by simpa using h⟩
      have hnx : la[k].right = true → (la.take (k + 1)).all Tm.right = true := fun h => by
        rw [List.take_succ_eq_append_getElem hlt, List.all_append, Htk.out]
        simp [h]
      have Hne := Lib.hid hne
      have Hnx := Lib.hid hnx
      have Ht := Lib.hid ht
      clear xa0 xa1 xa2 xat ht hwr lga hne hnx
      generalize hsm : la[k].right = sm at *
      go_wp2_with fail
      refine Hcall.out.mono ?_
      rintro e w1 ⟨rfl, t1⟩
      have T3 := Lib.hid (Ht.out.trans t1 (fun _ _ hf => hf))
      have Hsm := Lib.hid hsm
      clear hsm t1 p0 p1 p2 c0 c1 c2
      cases sm
      · have hf := Hne.out rfl
        have Hf := Lib.hid hf
        clear hf Hne
        go_wp2
        go_ret
        rw [Hf.out]
        exact ⟨rfl, TW.out.trans T3.out (fun _ _ hf => hf)⟩
      · have hk1 := Hnx.out rfl
        have Hk1 := Lib.hid hk1
        clear hk1
        go_wp2
        go_roundw
        case rel => exact ⟨k + 1, by omega, by go_num, Hk1.out, T3.out⟩
        case measure => simp [intOf]; omega
    · obtain rfl : k = la.length := by omega
      have hfin : Tm.rights la = true := by
        have h5 := Htk.out
        rw [List.take_of_length_le (Nat.le_refl _)] at h5
        rw [Tm.rights_all, h5]
      have Hfin := Lib.hid hfin
      clear hfin
      go_wp2
      go_ret
      rw [Hfin.out]
      exact ⟨rfl, TW.out.trans ht (fun _ _ hf => hf)⟩
end Go.Proofs.Ytljnmjehokijgaa

/- How many nodes a tree has, and how deep it is: counted, Is, All, Tree. -/
namespace Go.Proofs.Ytljnmjehokijgaa
open Go.RowKit

/-- What a count gives. -/
def CntPost (X : Int × Bool) (e : Ending) : Prop := e = .returned (.tuple #[.int .i64 X.1, .bool X.2])

set_option maxRecDepth 100000 in
set_option maxHeartbeats 1600000 in
theorem rcounted_any : ∀ (ta : Tm) (va : Value) (w : World) (left deep : Int), TmIn w ta va → 0 ≤ left → left ≤ 10000 → 0 ≤ deep → deep ≤ 10000 →
    Calls Try.prog 41 #[va, .int .i64 left, .int .i64 deep] w fun e w' => CntPost (ta.cnt 200 left deep) e ∧ Turned w w' (fun _ => False) := by
  intro ta
  refine Tm.ind (P := fun ta => ∀ (va : Value) (w : World) (left deep : Int), TmIn w ta va → 0 ≤ left → left ≤ 10000 → 0 ≤ deep → deep ≤ 10000 →
    Calls Try.prog 41 #[va, .int .i64 left, .int .i64 deep] w fun e w' => CntPost (ta.cnt 200 left deep) e ∧ Turned w w' (fun _ => False)) ?_ ta
  clear ta
  intro ka na la ih va w left deep ha hl0 hl1 hd0 hd1
  obtain ⟨aa, ca, rfl, hla, ra⟩ := ha
  have hla2 := hla
  unfold maxLen at hla2
  obtain ⟨W, hW, tW, hC⟩ := box1 w (.int .i64 ka) (.int .i64 na) (.slice aa la.length ca) 24
  obtain ⟨c0, c1, c2, lW⟩ := hC W (Turned.refl _ _)
  have HW := Lib.hid hW
  have Ih := Lib.hid ih
  have HC := Lib.hid hC
  have TW := Lib.hid tW
  have Ra := Lib.hid ra
  clear hW ih hC tW ra
  by_cases g1 : left - 1 < 0
  · have hp : ∀ e, e = .returned (.tuple #[.int .i64 (left - 1), .bool false]) → CntPost ((Tm.node ka na la).cnt 200 left deep) e := fun e h => by
      rw [show (Tm.node ka na la).cnt 200 left deep = (left - 1, false) by simp only [Tm.cnt]; exact if_pos (.inl g1)]
      exact h
    have Hp := Lib.hid hp
    clear hp
    go_enter Try.func41, Try.ntmps41
    go_wp2_with fail
    rw [← HW.out]
    go_wp2
    go_ret2
    exact ⟨Hp.out _ rfl, TW.out⟩
  by_cases g2 : 200 < deep
  · have hp : ∀ e, e = .returned (.tuple #[.int .i64 (left - 1), .bool false]) → CntPost ((Tm.node ka na la).cnt 200 left deep) e := fun e h => by
      rw [show (Tm.node ka na la).cnt 200 left deep = (left - 1, false) by simp only [Tm.cnt]; exact if_pos (.inr g2)]
      exact h
    have Hp := Lib.hid hp
    clear hp
    go_enter Try.func41, Try.ntmps41
    go_wp2_with fail
    rw [← HW.out]
    go_wp2
    go_ret2
    exact ⟨Hp.out _ rfl, TW.out⟩
  have hv : (Tm.node ka na la).cnt 200 left deep = Tm.cnts 200 la (left - 1) deep := by
    simp only [Tm.cnt]
    exact if_neg (by omega)
  rw [hv]
  clear hv
  obtain ⟨L, rfl⟩ : ∃ L : Int, left = L + 1 := ⟨left - 1, by omega⟩
  rw [show L + 1 - 1 = L by omega]
  have hL0 : 0 ≤ L := by omega
  have hL1 : L ≤ 10000 := by omega
  have e1 : ¬ L + 1 - 1 < 0 := by omega
  have e2 : IntKind.i64.wrap (L + 1 - 1) = L := by rw [IntWalk.i64_in _ (by omega)]; omega
  have e3 : ¬ L < 0 := by omega
  go_enter Try.func41, Try.ntmps41
  go_wp2_with fail
  rw [← HW.out]
  go_wp2
  clear c0 c1 c2 lW
  clear e1 e2 e3 g1 hl0 hl1
  go_loopw [8, 1] (fun i l wr => ∃ k : Nat, k ≤ la.length ∧ i = .int .i64 k ∧ l = .int .i64 (Tm.cnts 200 (la.take k) L deep).1 ∧ (Tm.cnts 200 (la.take k) L deep).2 = true ∧ Turned W wr (fun _ => False)) (fun i _ _ => la.length - (intOf i).toNat)
  case atStart => exact ⟨0, Nat.zero_le _, rfl, rfl, rfl, Turned.refl _ _⟩
  case round =>
    obtain ⟨k, hk, rfl, rfl, htk, ht⟩ := hrel
    obtain ⟨c0, c1, c2, lC⟩ := HC.out wr ht
    have hcl := Tm.cnts_le 200 (la.take k) L deep hL0
    have hc0 := hcl.2.2 htk
    have hc1 : (Tm.cnts 200 (la.take k) L deep).1 ≤ 10000 := by omega
    by_cases hlt : k < la.length
    · have hki : (k : Int) < (la.length : Int) := by omega
      obtain ⟨ga, oa, x0, x1, x2, rfl, lga, xa0, xa1, xa2, xat⟩ := tmsIn_at Ra.out k hlt
      have hwr : Turned w wr (fun _ => False) := TW.out.trans ht (fun _ _ hf => hf)
      have lga' : ga < wr.heap.size := Nat.lt_of_lt_of_le lga hwr.size
      have p0 := (hwr.cell (p := ⟨ga, oa + k * 3, none⟩) lga (fun hf => hf)).trans xa0
      have p1 := (hwr.cell (p := ⟨ga, oa + k * 3 + 1, none⟩) lga (fun hf => hf)).trans xa1
      have p2 := (hwr.cell (p := ⟨ga, oa + k * 3 + 2, none⟩) lga (fun hf => hf)).trans xa2
      have hsn : Tm.cnts 200 (la.take (k + 1)) L deep = la[k].cnt 200 (Tm.cnts 200 (la.take k) L deep).1 (deep + 1) := by
        rw [List.take_succ_eq_append_getElem hlt, Tm.cnts_snoc, if_pos htk]
      have hst : (Tm.cnts 200 (la.take (k + 1)) L deep).2 = false → Tm.cnts 200 la L deep = Tm.cnts 200 (la.take (k + 1)) L deep := fun h => by
        have := Tm.cnts_stop 200 (la.take (k + 1)) (la.drop (k + 1)) L deep h
        rwa [List.take_append_drop] at this
      have hcall := Ih.out la[k] (List.getElem_mem hlt) (.agg #[x0, x1, x2]) wr (Tm.cnts 200 (la.take k) L deep).1 (deep + 1) (TmIn.turned hwr _ xat) hc0 hc1 (by omega) (by omega)
      rw [← hsn] at hcall
      have Hcall := Lib.hid hcall
      have Hst := Lib.hid hst
      have Ht := Lib.hid ht
      generalize hcur : (Tm.cnts 200 (la.take k) L deep).1 = cur at *
      clear hcl htk hc1 hc0 xa0 xa1 xa2 xat ht hwr lga hsn hcall hst hcur
      go_wp2_with fail
      refine Hcall.out.mono ?_
      rintro e w1 ⟨hp, t1⟩
      have T3 := Lib.hid (Ht.out.trans t1 (fun _ _ hf => hf))
      clear t1 p0 p1 p2 c0 c1 c2
      generalize hX : Tm.cnts 200 (la.take (k + 1)) L deep = X at *
      have HX := Lib.hid hX
      clear hX
      obtain ⟨xl, xb⟩ := X
      obtain rfl : e = .returned (.tuple #[.int .i64 xl, .bool xb]) := hp
      cases xb
      · have hf := Hst.out rfl
        have hp2 : ∀ e, e = .returned (.tuple #[.int .i64 xl, .bool false]) → CntPost (Tm.cnts 200 la L deep) e := fun e h => by rw [hf]; exact h
        have Hp2 := Lib.hid hp2
        clear hf hp2 Hst
        go_wp2
        go_ret2
        exact ⟨Hp2.out _ rfl, TW.out.trans T3.out (fun _ _ hf => hf)⟩
      · go_wp2
        go_roundw
        case rel => exact ⟨k + 1, by omega, by go_num, by rw [HX.out], by rw [HX.out], T3.out⟩
        case measure => simp [intOf]; omega
    · obtain rfl : k = la.length := by omega
      rw [List.take_of_length_le (Nat.le_refl _)] at htk hc0 hc1 ⊢
      have hp2 : ∀ e, e = .returned (.tuple #[.int .i64 (Tm.cnts 200 la L deep).1, .bool true]) → CntPost (Tm.cnts 200 la L deep) e := fun e h => by rw [← htk] at h; exact h
      have Hp2 := Lib.hid hp2
      clear hcl htk hp2
      generalize (Tm.cnts 200 la L deep).1 = cur at *
      go_wp2
      go_ret2
      exact ⟨Hp2.out _ rfl, TW.out.trans ht (fun _ _ hf => hf)⟩
end Go.Proofs.Ytljnmjehokijgaa

/- Is, All; the order of trees. -/
namespace Go.Proofs.Ytljnmjehokijgaa
open Go.RowKit

set_option maxRecDepth 100000 in
set_option maxHeartbeats 1600000 in
theorem ris_any (ta : Tm) (va : Value) (w : World) (ha : TmIn w ta va) :
    Calls Try.prog 13 #[va] w fun e w' => e = .returned (.bool ta.isTree) ∧ Turned w w' (fun _ => False) := by
  have ha2 := ha
  obtain ⟨aa, ca, rfl, hla, -⟩ := ha2.form
  obtain ⟨W, hW, tW, hC⟩ := box1 w (.int .i64 ta.kind) (.int .i64 ta.num) (.slice aa ta.kids.length ca) 24
  obtain ⟨c0, c1, c2, lW⟩ := hC W (Turned.refl _ _)
  have HW := Lib.hid hW
  have HC := Lib.hid hC
  have TW := Lib.hid tW
  have Hcnt := Lib.hid (rcounted_any ta _ W 2000 1 (TmIn.turned tW _ ha) (by omega) (by omega) (by omega) (by omega))
  have Hnod := Lib.hid (fun V (hV : Turned w V (fun _ => False)) => rnodes_any ta _ V (TmIn.turned hV _ ha))
  have hT : (ta.cnt 200 2000 1).2 = true → ta.isTree = ta.right := fun h => by unfold Tm.isTree; rw [h, Bool.true_and]
  have hF : (ta.cnt 200 2000 1).2 = false → ta.isTree = false := fun h => by unfold Tm.isTree; rw [h, Bool.false_and]
  have HT := Lib.hid hT
  have HF := Lib.hid hF
  clear hW tW hC ha hla hT hF ha2
  generalize ta.kids.length = n at *
  go_enter Try.func13, Try.ntmps13
  go_wp2_with fail
  rw [← HW.out]
  refine Hcnt.out.mono ?_
  rintro e w1 ⟨hp, t1⟩
  generalize ta.cnt 200 2000 1 = X at *
  obtain ⟨xl, xb⟩ := X
  obtain rfl : e = .returned (.tuple #[.int .i64 xl, .bool xb]) := hp
  obtain ⟨d0, d1, d2, l1⟩ := HC.out w1 t1
  have T1 := Lib.hid (TW.out.trans t1 (fun _ _ hf => hf))
  clear t1 c0 c1 c2 lW
  cases xb
  · have hf := HF.out rfl
    have Hf := Lib.hid hf
    clear hf HT HF
    go_wp2
    go_ret
    rw [Hf.out]
    exact ⟨rfl, T1.out⟩
  · have hf := HT.out rfl
    have Hf := Lib.hid hf
    clear hf HT HF
    go_wp2_with fail
    refine (Hnod.out _ T1.out).mono ?_
    rintro e w2 ⟨rfl, t2⟩
    go_wp2
    go_ret
    rw [Hf.out]
    exact ⟨rfl, T1.out.trans t2 (fun _ _ hf => hf)⟩

set_option maxRecDepth 100000 in
set_option maxHeartbeats 1600000 in
theorem rall_any (la : List Tm) (va : Value) (w : World) (ha : RowTm w va la) :
    Calls Try.prog 20 #[va] w fun e w' => e = .returned (.bool (la.all Tm.isTree)) ∧ Turned w w' (fun _ => False) := by
  obtain ⟨aa, ca, rfl, hla, ra⟩ := ha
  have hla2 := hla
  unfold maxLen at hla2
  have Ra := Lib.hid ra
  clear ra
  go_enter Try.func20, Try.ntmps20
  go_wp2
  go_loopw [3] (fun i wr => ∃ k : Nat, k ≤ la.length ∧ i = .int .i64 k ∧ (la.take k).all Tm.isTree = true ∧ Turned w wr (fun _ => False)) (fun i _ => la.length - (intOf i).toNat)
  case atStart => exact ⟨0, Nat.zero_le _, rfl, rfl, Turned.refl _ _⟩
  case round =>
    obtain ⟨k, hk, rfl, htk, ht⟩ := hrel
    have Htk := Lib.hid htk
    clear htk
    by_cases hlt : k < la.length
    · have hki : (k : Int) < (la.length : Int) := by omega
      obtain ⟨ga, oa, x0, x1, x2, rfl, lga, xa0, xa1, xa2, xat⟩ := tmsIn_at Ra.out k hlt
      have lga' : ga < wr.heap.size := Nat.lt_of_lt_of_le lga ht.size
      have p0 := (ht.cell (p := ⟨ga, oa + k * 3, none⟩) lga (fun hf => hf)).trans xa0
      have p1 := (ht.cell (p := ⟨ga, oa + k * 3 + 1, none⟩) lga (fun hf => hf)).trans xa1
      have p2 := (ht.cell (p := ⟨ga, oa + k * 3 + 2, none⟩) lga (fun hf => hf)).trans xa2
      have Hcall := Lib.hid (ris_any la[k] (.agg #[x0, x1, x2]) wr (TmIn.turned ht _ xat))
      have hne : la[k].isTree = false → la.all Tm.isTree = false := fun h => by
        rw [List.all_eq_false]
        exact ⟨_, List.getElem_mem hlt, by simpa using h⟩
      have hnx : la[k].isTree = true → (la.take (k + 1)).all Tm.isTree = true := fun h => by
        rw [List.take_succ_eq_append_getElem hlt, List.all_append, Htk.out]
        simp [h]
      have Hne := Lib.hid hne
      have Hnx := Lib.hid hnx
      have Ht := Lib.hid ht
      clear xa0 xa1 xa2 xat ht lga hne hnx
      generalize hsm : la[k].isTree = sm at *
      go_wp2_with fail
      refine Hcall.out.mono ?_
      rintro e w1 ⟨rfl, t1⟩
      have T3 := Lib.hid (Ht.out.trans t1 (fun _ _ hf => hf))
      have Hsm := Lib.hid hsm
      clear hsm t1 p0 p1 p2
      cases sm
      · have hf := Hne.out rfl
        have Hf := Lib.hid hf
        clear hf Hne
        go_wp2
        go_ret
        rw [Hf.out]
        exact ⟨rfl, T3.out⟩
      · have hk1 := Hnx.out rfl
        have Hk1 := Lib.hid hk1
        clear hk1
        go_wp2
        go_roundw
        case rel => exact ⟨k + 1, by omega, by go_num, Hk1.out, T3.out⟩
        case measure => simp [intOf]; omega
    · obtain rfl : k = la.length := by omega
      have hfin : la.all Tm.isTree = true := by
        have h5 := Htk.out
        rwa [List.take_of_length_le (Nat.le_refl _)] at h5
      have Hfin := Lib.hid hfin
      clear hfin
      go_wp2
      go_ret
      rw [Hfin.out]
      exact ⟨rfl, ht⟩

/-! ### the order -/
def ord (a b : Int) : Int := if a < b then -1 else if b < a then 1 else 0

mutual
def Tm.cmp : Tm → Tm → Int
  | .node k n l, .node k' n' l' => if ord k k' ≠ 0 then ord k k' else if ord n n' ≠ 0 then ord n n' else if ord l.length l'.length ≠ 0 then ord l.length l'.length else Tm.cmps l l'
def Tm.cmps : List Tm → List Tm → Int
  | a :: l, b :: m => if a.cmp b ≠ 0 then a.cmp b else Tm.cmps l m
  | _, _ => 0
end

theorem Tm.cmps_snoc : ∀ (l m : List Tm) (a b : Tm), l.length = m.length → Tm.cmps l m = 0 → Tm.cmps (l ++ [a]) (m ++ [b]) = a.cmp b
  | [], [], a, b, _, _ => by simp only [List.nil_append, Tm.cmps]; split <;> simp_all
  | x :: l, y :: m, a, b, h, h0 => by
    simp only [List.cons_append, Tm.cmps] at h0 ⊢
    split at h0
    · rename_i h1; exact absurd h0 h1
    · rename_i h1
      rw [if_neg h1]
      exact Tm.cmps_snoc l m a b (by simpa using h) h0

theorem Tm.cmps_stop : ∀ (l m l' m' : List Tm), l.length = m.length → Tm.cmps l m ≠ 0 → Tm.cmps (l ++ l') (m ++ m') = Tm.cmps l m
  | [], [], _, _, _, h => absurd (by simp [Tm.cmps]) h
  | x :: l, y :: m, l', m', h, h0 => by
    simp only [List.cons_append, Tm.cmps] at h0 ⊢
    split
    · rfl
    · rename_i h1
      rw [if_neg h1] at h0
      exact Tm.cmps_stop l m l' m' (by simpa using h) h0

end Go.Proofs.Ytljnmjehokijgaa

/- Compare of trees. -/
namespace Go.Proofs.Ytljnmjehokijgaa
open Go.RowKit

theorem ord_zero {a b : Int} : ord a b = 0 ↔ a = b := by
  unfold ord
  split
  · omega
  · split <;> omega

end Go.Proofs.Ytljnmjehokijgaa
