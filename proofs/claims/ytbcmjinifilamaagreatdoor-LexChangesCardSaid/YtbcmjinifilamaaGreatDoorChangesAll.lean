/- LexChanges: rows of tokens held against each other, Change, the reference's Change, the walk. -/
import Derived.Test.YtbcmjinifilamaaGreatDoorLike
import Derived.Laws.Concat
import Derived.IntWalk
import Derived.Test.YtbcmjinifilamaaGreatDoorRKind
import Derived.Test.YtbcmjinifilamaaGreatDoorRecutAll
import Derived.Lib.ItoaLen

namespace Go.Proofs.YtbcmjinifilamaaGreatDoor
open Go.RowKit

def sumS (l : List ATok) : Nat := (l.map fun t => t.s.length).sum

theorem sumS_snoc (l : List ATok) (k : Nat) (h : k < l.length) : sumS (l.take (k + 1)) = sumS (l.take k) + l[k].s.length := by
  unfold sumS
  rw [List.take_succ_eq_append_getElem h, List.map_append, List.sum_append]
  simp

theorem sumS_take (l : List ATok) (k : Nat) : sumS (l.take k) ≤ sumS l := by
  have : sumS l = sumS (l.take k) + sumS (l.drop k) := by
    unfold sumS
    rw [← List.sum_append, ← List.map_append, List.take_append_drop]
  omega

theorem rowA_at {w : World} {va : Option Addr} {n vc : Nat} {l : List ATok} (h : RowOf w (.slice va n vc) l) (j : Nat) (hj : j < l.length) : ∃ g off, va = some ⟨g, off, none⟩ ∧ g < w.heap.size ∧
    ∀ (i : Nat) (u : Value), (l[j].cells)[i]? = some u → w.cell? ⟨g, off + j * 5 + i, none⟩ = some u := by
  obtain ⟨a, cap, hv, hr⟩ := h
  simp only [Value.slice.injEq] at hv
  obtain ⟨g, off, ha, hg, hc⟩ := hr (by intro h; subst h; exact absurd hj (Nat.not_lt_zero _))
  exact ⟨g, off, hv.1.trans ha, hg, fun i u hu => hc j l[j] (List.getElem?_eq_getElem hj) i u hu⟩

def fewB (l : List ATok) : Bool := decide (l.length ≤ 2000) && decide (sumS l ≤ 20000)

theorem sumS_le (M : Nat) : ∀ l : List ATok, (∀ t ∈ l, t.s.length ≤ M) → sumS l ≤ l.length * M
  | [], _ => by simp [sumS]
  | x :: l, h => by
    have h1 := sumS_le M l (fun s hs => h s (List.mem_cons_of_mem _ hs))
    have h2 := h x List.mem_cons_self
    unfold sumS at *
    simp only [List.map_cons, List.sum_cons, List.length_cons, Nat.add_mul]
    omega

set_option maxRecDepth 100000 in
set_option maxHeartbeats 1600000 in
theorem few_any (v : Value) (l : List ATok) (w : World) (hv : RowOf w v l) (hl : ∀ t ∈ l, t.s.length ≤ 140737488351232) (hln : l.length ≤ 9223372036854775807) :
    Calls Tryz.prog 22 #[v] w fun e w' => e = .returned (.bool (fewB l)) ∧ Turned w w' (fun _ => False) := by
  have hv2 := hv
  obtain ⟨va, vc, rfl, -⟩ := hv
  have Hv := Lib.hid hv2
  have Hl := Lib.hid hl
  clear hv2 hl
  by_cases h2000 : l.length ≤ 2000
  · have hs := sumS_le _ l Hl.out
    have hs2 : sumS l ≤ 2000 * 140737488351232 := Nat.le_trans hs (Nat.mul_le_mul_right _ h2000)
    have Hs := Lib.hid hs2
    clear hs hs2
    go_enter Tryz.func22, Tryz.ntmps22
    go_wp2_with fail
    go_loopw [3, 8] (fun m i wr => ∃ k : Nat, k ≤ l.length ∧ i = .int .i64 k ∧ m = .int .i64 (sumS (l.take k) : Nat) ∧ Turned w wr (fun _ => False)) (fun _ i _ => l.length - (intOf i).toNat)
    case atStart => exact ⟨0, Nat.zero_le _, rfl, rfl, Turned.refl _ _⟩
    case round =>
      obtain ⟨k, hk, rfl, rfl, ht⟩ := hrel
      by_cases hlt : k < l.length
      · have hki : (k : Int) < (l.length : Int) := by omega
        obtain ⟨g, off, rfl, lg, xc⟩ := rowA_at Hv.out k hlt
        have h1 := sumS_snoc l k hlt
        have h2 := sumS_take l (k + 1)
        have h3 := Hs.out
        rw [h1] at h2
        generalize sumS (l.take k) = M at *
        generalize l[k] = x at *
        obtain ⟨k1, n1, s1, a1, e1⟩ := x
        have hM : M + s1.length ≤ 2000 * 140737488351232 := Nat.le_trans h2 h3
        have pa := fun (i : Nat) (u : Value) (hu : (ATok.cells ⟨k1, n1, s1, a1, e1⟩)[i]? = some u) => (ht.cell (p := ⟨g, off + k * 5 + i, none⟩) lg (fun hf => hf)).trans (xc i u hu)
        have p0 : wr.cell? ⟨g, off + k * 5, none⟩ = some (.int .i64 k1) := pa 0 _ rfl
        have p1 : wr.cell? ⟨g, off + k * 5 + 1, none⟩ = some (.int .i64 n1) := pa 1 _ rfl
        have p2 : wr.cell? ⟨g, off + k * 5 + 2, none⟩ = some (.string ⟨s1.toArray⟩) := pa 2 _ rfl
        have p3 : wr.cell? ⟨g, off + k * 5 + 3, none⟩ = some (.int .i64 a1) := pa 3 _ rfl
        have p4 : wr.cell? ⟨g, off + k * 5 + 4, none⟩ = some (.int .i64 e1) := pa 4 _ rfl
        have lg' : g < wr.heap.size := Nat.lt_of_lt_of_le lg ht.size
        have H1 := Lib.hid h1
        clear xc pa lg h1 h2 h3
        go_wp2
        go_roundw
        case rel => exact ⟨k + 1, by omega, by go_num, by rw [H1.out]; go_num, ht.alloc _⟩
        case measure => simp [intOf]; omega
      · obtain rfl : k = l.length := by omega
        have hall : fewB l = (decide (l.length ≤ 2000) && decide (sumS l ≤ 20000)) := rfl
        rw [List.take_of_length_le (Nat.le_refl _)]
        generalize sumS l = M at *
        have Hall := Lib.hid hall
        clear hall
        have i1 : (l.length : Int) ≤ 2000 := by omega
        by_cases hM : M ≤ 20000
        · have i2 : (M : Int) ≤ 20000 := by omega
          go_wp2
          go_ret
          exact ⟨by rw [Hall.out]; simp [h2000, hM], ht⟩
        · have i2 : ¬ (M : Int) ≤ 20000 := by omega
          go_wp2
          go_ret
          exact ⟨by rw [Hall.out]; simp [h2000, hM], ht⟩
  · have hall : fewB l = false := by unfold fewB; simp [h2000]
    have Hall := Lib.hid hall
    have i1 : ¬ (l.length : Int) ≤ 2000 := by omega
    clear hall
    go_enter Tryz.func22, Tryz.ntmps22
    go_wp2_with fail
    go_loopw [3, 8] (fun m i wr => ∃ k : Nat, ∃ z : Int, k ≤ l.length ∧ i = .int .i64 k ∧ m = .int .i64 z ∧ Turned w wr (fun _ => False)) (fun _ i _ => l.length - (intOf i).toNat)
    case atStart => exact ⟨0, 0, Nat.zero_le _, rfl, rfl, Turned.refl _ _⟩
    case round =>
      obtain ⟨k, z, hk, rfl, rfl, ht⟩ := hrel
      by_cases hlt : k < l.length
      · have hki : (k : Int) < (l.length : Int) := by omega
        obtain ⟨g, off, rfl, lg, xc⟩ := rowA_at Hv.out k hlt
        generalize l[k] = x at *
        obtain ⟨k1, n1, s1, a1, e1⟩ := x
        have pa := fun (i : Nat) (u : Value) (hu : (ATok.cells ⟨k1, n1, s1, a1, e1⟩)[i]? = some u) => (ht.cell (p := ⟨g, off + k * 5 + i, none⟩) lg (fun hf => hf)).trans (xc i u hu)
        have p0 : wr.cell? ⟨g, off + k * 5, none⟩ = some (.int .i64 k1) := pa 0 _ rfl
        have p1 : wr.cell? ⟨g, off + k * 5 + 1, none⟩ = some (.int .i64 n1) := pa 1 _ rfl
        have p2 : wr.cell? ⟨g, off + k * 5 + 2, none⟩ = some (.string ⟨s1.toArray⟩) := pa 2 _ rfl
        have p3 : wr.cell? ⟨g, off + k * 5 + 3, none⟩ = some (.int .i64 a1) := pa 3 _ rfl
        have p4 : wr.cell? ⟨g, off + k * 5 + 4, none⟩ = some (.int .i64 e1) := pa 4 _ rfl
        have lg' : g < wr.heap.size := Nat.lt_of_lt_of_le lg ht.size
        clear xc pa lg
        go_wp2
        go_roundw
        case rel => exact ⟨k + 1, _, by omega, by go_num, rfl, ht.alloc _⟩
        case measure => simp [intOf]; omega
      · obtain rfl : k = l.length := by omega
        go_wp2
        go_ret
        exact ⟨by rw [Hall.out]; rfl, ht⟩
end Go.Proofs.YtbcmjinifilamaaGreatDoor

namespace Go.Proofs.YtbcmjinifilamaaGreatDoor
open Go.RowKit

def ATok.eqv (a b : ATok) : Bool := a.kind == b.kind && a.n == b.n && a.s == b.s && a.at_ == b.at_ && a.end_ == b.end_

/-- Whether two lists of tokens are the same. -/
def eqB (la lb : List ATok) : Bool := la.length == lb.length && (la.zip lb).all fun x => x.1.eqv x.2

theorem ATok.eqv_iff (a b : ATok) : a.eqv b = true ↔ a = b := by
  obtain ⟨k1, n1, s1, a1, e1⟩ := a
  obtain ⟨k2, n2, s2, a2, e2⟩ := b
  simp [ATok.eqv, and_assoc]

theorem eqB_iff : ∀ (la lb : List ATok), eqB la lb = true ↔ la = lb
  | [], [] => by simp [eqB]
  | [], _ :: _ => by simp [eqB]
  | _ :: _, [] => by simp [eqB]
  | a :: la, b :: lb => by
    have ih := eqB_iff la lb
    unfold eqB at ih ⊢
    simp only [List.length_cons, List.zip_cons_cons, List.all_cons, Bool.and_eq_true, beq_iff_eq, Nat.add_right_cancel_iff, List.cons.injEq, ATok.eqv_iff] at ih ⊢
    constructor
    · rintro ⟨h1, h2, h3⟩
      exact ⟨h2, ih.1 ⟨h1, h3⟩⟩
    · rintro ⟨rfl, rfl⟩
      exact ⟨rfl, rfl, (ih.2 rfl).2⟩

theorem bytes_ne {a b : Lx.Bytes} (h : a ≠ b) : ((⟨a.toArray⟩ : ByteArray).toList == (⟨b.toArray⟩ : ByteArray).toList) = false := by
  rw [Bool.eq_false_iff]
  intro e
  have e2 := eq_of_beq e
  rw [ByteArray.toList_eq, ByteArray.toList_eq] at e2
  exact h e2

set_option maxRecDepth 100000 in
set_option maxHeartbeats 1600000 in
/-- The reference's Same. -/
theorem same_any2 (va vb : Value) (la lb : List ATok) (w : World) (ha : RowOf w va la) (hb : RowOf w vb lb) (hl : la.length ≤ 1000000) (hl2 : lb.length ≤ 1000000) :
    Calls Tryz.prog 14 #[va, vb] w fun e w' => e = .returned (.bool (eqB la lb)) ∧ Turned w w' (fun _ => False) := by
  obtain ⟨aa, ca, rfl, ra⟩ := ha
  obtain ⟨ab, cb, rfl, rb⟩ := hb
  by_cases hne : la.length = lb.length
  · have Hne := Lib.hid hne
    rw [hne]
    clear hne
    have Ra := Lib.hid ra
    have Rb := Lib.hid rb
    clear ra rb
    go_enter Tryz.func14, Tryz.ntmps14
    go_wp2_with fail
    go_loopw [5] (fun i wr => ∃ k : Nat, k ≤ lb.length ∧ i = .int .i64 k ∧ ((la.zip lb).take k).all (fun x => x.1.eqv x.2) = true ∧ Turned w wr (fun _ => False)) (fun i _ => lb.length - (intOf i).toNat)
    case atStart => exact ⟨0, Nat.zero_le _, rfl, by simp, Turned.refl _ _⟩
    case round =>
      obtain ⟨k, hk, rfl, hall, ht⟩ := hrel
      have Hall := Lib.hid hall
      clear hall
      by_cases hlt : k < lb.length
      · have hlta : k < la.length := by rw [Hne.out]; exact hlt
        have hki : (k : Int) < (lb.length : Int) := by omega
        obtain ⟨ga, oa, rfl, lga, ca'⟩ := Ra.out (by intro h; subst h; exact absurd hlta (Nat.not_lt_zero _))
        obtain ⟨gb, ob, rfl, lgb, cb'⟩ := Rb.out (by intro h; subst h; exact absurd hlt (Nat.not_lt_zero _))
        have xa := ca' k _ (List.getElem?_eq_getElem hlta)
        have xb := cb' k _ (List.getElem?_eq_getElem hlt)
        have hz : (la.zip lb)[k]? = some (la[k], lb[k]) := List.getElem?_zip_eq_some.2 ⟨List.getElem?_eq_getElem hlta, List.getElem?_eq_getElem hlt⟩
        have hzl : k < (la.zip lb).length := (List.getElem?_eq_some_iff.1 hz).1
        have hstep : la[k].eqv lb[k] = true → ((la.zip lb).take (k + 1)).all (fun x => x.1.eqv x.2) = true := by
          intro h
          rw [List.take_succ_eq_append_getElem hzl, List.all_append, Hall.out]
          simpa using h
        have hdiff : la[k].eqv lb[k] = false → eqB la lb = false := by
          intro h
          have : (la.zip lb).all (fun x => x.1.eqv x.2) = false := by
            rw [List.all_eq_false]
            exact ⟨_, List.mem_of_getElem? hz, by simpa using h⟩
          unfold eqB
          rw [this, Bool.and_false]
        clear ca' cb' hz hzl
        generalize la[k] = x at *
        generalize lb[k] = y at *
        obtain ⟨k1, n1, s1, a1, e1⟩ := x
        obtain ⟨k2, n2, s2, a2, e2⟩ := y
        have lga' : ga < wr.heap.size := Nat.lt_of_lt_of_le lga ht.size
        have lgb' : gb < wr.heap.size := Nat.lt_of_lt_of_le lgb ht.size
        have pa := fun (i : Nat) (u : Value) (hu : (ATok.cells ⟨k1, n1, s1, a1, e1⟩)[i]? = some u) => (ht.cell (p := ⟨ga, oa + k * 5 + i, none⟩) lga (fun hf => hf)).trans (xa i u hu)
        have pb := fun (i : Nat) (u : Value) (hu : (ATok.cells ⟨k2, n2, s2, a2, e2⟩)[i]? = some u) => (ht.cell (p := ⟨gb, ob + k * 5 + i, none⟩) lgb (fun hf => hf)).trans (xb i u hu)
        have p0 : wr.cell? ⟨ga, oa + k * 5, none⟩ = some (.int .i64 k1) := pa 0 _ rfl
        have p1 : wr.cell? ⟨ga, oa + k * 5 + 1, none⟩ = some (.int .i64 n1) := pa 1 _ rfl
        have p2 : wr.cell? ⟨ga, oa + k * 5 + 2, none⟩ = some (.string ⟨s1.toArray⟩) := pa 2 _ rfl
        have p3 : wr.cell? ⟨ga, oa + k * 5 + 3, none⟩ = some (.int .i64 a1) := pa 3 _ rfl
        have p4 : wr.cell? ⟨ga, oa + k * 5 + 4, none⟩ = some (.int .i64 e1) := pa 4 _ rfl
        have q0 : wr.cell? ⟨gb, ob + k * 5, none⟩ = some (.int .i64 k2) := pb 0 _ rfl
        have q1 : wr.cell? ⟨gb, ob + k * 5 + 1, none⟩ = some (.int .i64 n2) := pb 1 _ rfl
        have q2 : wr.cell? ⟨gb, ob + k * 5 + 2, none⟩ = some (.string ⟨s2.toArray⟩) := pb 2 _ rfl
        have q3 : wr.cell? ⟨gb, ob + k * 5 + 3, none⟩ = some (.int .i64 a2) := pb 3 _ rfl
        have q4 : wr.cell? ⟨gb, ob + k * 5 + 4, none⟩ = some (.int .i64 e2) := pb 4 _ rfl
        have Hstep := Lib.hid hstep
        have Hdiff := Lib.hid hdiff
        have Ht := Lib.hid ht
        clear xa xb pa pb lga lgb hstep hdiff ht
        by_cases hk1 : k1 = k2
        · subst hk1
          by_cases hn1 : n1 = n2
          · subst hn1
            by_cases hs1 : s1 = s2
            · subst hs1
              by_cases ha1 : a1 = a2
              · subst ha1
                by_cases he1 : e1 = e2
                · subst he1
                  have hst : (ATok.eqv ⟨k1, n1, s1, a1, e1⟩ ⟨k1, n1, s1, a1, e1⟩) = true := (ATok.eqv_iff _ _).2 rfl
                  have hst2 := Hstep.out hst
                  have Hst2 := Lib.hid hst2
                  clear hst hst2
                  go_wp2_with fail
                  go_quiet (fail)
                  go_wp2
                  go_roundw
                  case rel => exact ⟨k + 1, by omega, by go_num, Hst2.out, Ht.out.drewN _⟩
                  case measure => simp [intOf]; omega
                · have hb : (e1 == e2) = false := by simpa using he1
                  have hno : eqB la lb = false := Hdiff.out (by rw [Bool.eq_false_iff]; intro h5; have h6 := (ATok.eqv_iff _ _).1 h5; simp only [ATok.mk.injEq, true_and] at h6; first | exact he1 h6.1 | exact he1 h6)
                  have Hno := Lib.hid hno
                  clear hno he1
                  go_wp2_with fail
                  go_quiet (fail)
                  go_wp2
                  go_ret
                  exact ⟨by rw [Hno.out]; rfl, Ht.out.drewN _⟩
              · have hb : (a1 == a2) = false := by simpa using ha1
                have hno : eqB la lb = false := Hdiff.out (by rw [Bool.eq_false_iff]; intro h5; have h6 := (ATok.eqv_iff _ _).1 h5; simp only [ATok.mk.injEq, true_and] at h6; first | exact ha1 h6.1 | exact ha1 h6)
                have Hno := Lib.hid hno
                clear hno ha1
                go_wp2_with fail
                go_quiet (fail)
                go_wp2
                go_ret
                exact ⟨by rw [Hno.out]; rfl, Ht.out.drewN _⟩
            · have hb := bytes_ne hs1
              have hb2 : (s1 == s2) = false := by simpa using hs1
              have hb3 : (s1.toArray == s2.toArray) = false := by simpa using hs1
              have hb4 : ((⟨s1.toArray⟩ : ByteArray) == ⟨s2.toArray⟩) = false := (beq_toListBytes _ _).trans hb
              have hb5 : ¬ s1 = s2 := hs1
              have hno : eqB la lb = false := Hdiff.out (by rw [Bool.eq_false_iff]; intro h5; have h6 := (ATok.eqv_iff _ _).1 h5; simp only [ATok.mk.injEq, true_and] at h6; first | exact hs1 h6.1 | exact hs1 h6)
              have Hno := Lib.hid hno
              clear hno hs1
              go_wp2_with fail
              go_quiet (fail)
              go_wp2
              go_ret
              exact ⟨by rw [Hno.out]; rfl, Ht.out.drewN _⟩
          · have hb : (n1 == n2) = false := by simpa using hn1
            have hno : eqB la lb = false := Hdiff.out (by rw [Bool.eq_false_iff]; intro h5; have h6 := (ATok.eqv_iff _ _).1 h5; simp only [ATok.mk.injEq, true_and] at h6; first | exact hn1 h6.1 | exact hn1 h6)
            have Hno := Lib.hid hno
            clear hno hn1
            go_wp2_with fail
            go_quiet (fail)
            go_wp2
            go_ret
            exact ⟨by rw [Hno.out]; rfl, Ht.out.drewN _⟩
        · have hb : (k1 == k2) = false := by simpa using hk1
          have hno : eqB la lb = false := Hdiff.out (by rw [Bool.eq_false_iff]; intro h5; have h6 := (ATok.eqv_iff _ _).1 h5; simp only [ATok.mk.injEq] at h6; first | exact hk1 h6.1 | exact hk1 h6)
          have Hno := Lib.hid hno
          clear hno hk1
          go_wp2_with fail
          go_quiet (fail)
          go_wp2
          go_ret
          exact ⟨by rw [Hno.out]; rfl, Ht.out.drewN _⟩
      · obtain rfl : k = lb.length := by omega
        have hfin : eqB la lb = true := by
          have h5 := Hall.out
          rw [List.take_of_length_le (by simp [Hne.out])] at h5
          unfold eqB
          rw [h5, Hne.out]
          simp
        have Hfin := Lib.hid hfin
        clear hfin
        go_wp2
        go_ret
        rw [Hfin.out]
        exact ⟨rfl, ht⟩
  · have hn1 : ((la.length : Int) == (lb.length : Int)) = false := by
      rw [Bool.eq_false_iff]
      intro e
      apply hne
      have : (la.length : Int) = lb.length := by simpa using e
      omega
    have hfin : eqB la lb = false := by
      unfold eqB
      have : (la.length == lb.length) = false := by simpa using hne
      rw [this, Bool.false_and]
    have Hfin := Lib.hid hfin
    clear hfin
    go_enter Tryz.func14, Tryz.ntmps14
    go_wp2
    go_ret
    rw [Hfin.out]
    exact ⟨rfl, Turned.refl _ _⟩

set_option maxRecDepth 100000 in
set_option maxHeartbeats 1600000 in
/-- slices.Equal at tokens. -/
theorem equal_any (va vb : Value) (la lb : List ATok) (w : World) (ha : RowOf w va la) (hb : RowOf w vb lb) (hl : la.length ≤ 1000000) (hl2 : lb.length ≤ 1000000) :
    Calls Tryz.prog 62 #[va, vb] w fun e w' => e = .returned (.bool (eqB la lb)) ∧ Turned w w' (fun _ => False) := by
  obtain ⟨aa, ca, rfl, ra⟩ := ha
  obtain ⟨ab, cb, rfl, rb⟩ := hb
  by_cases hne : la.length = lb.length
  · have Hne := Lib.hid hne
    rw [hne]
    clear hne
    have Ra := Lib.hid ra
    have Rb := Lib.hid rb
    clear ra rb
    go_enter Tryz.func62, Tryz.ntmps62
    go_wp2_with fail
    go_loopw [13] (fun i wr => ∃ k : Nat, k ≤ lb.length ∧ i = .int .i64 k ∧ ((la.zip lb).take k).all (fun x => x.1.eqv x.2) = true ∧ Turned w wr (fun _ => False)) (fun i _ => lb.length - (intOf i).toNat)
    case atStart => exact ⟨0, Nat.zero_le _, rfl, by simp, Turned.refl _ _⟩
    case round =>
      obtain ⟨k, hk, rfl, hall, ht⟩ := hrel
      have Hall := Lib.hid hall
      clear hall
      by_cases hlt : k < lb.length
      · have hlta : k < la.length := by rw [Hne.out]; exact hlt
        have hki : (k : Int) < (lb.length : Int) := by omega
        obtain ⟨ga, oa, rfl, lga, ca'⟩ := Ra.out (by intro h; subst h; exact absurd hlta (Nat.not_lt_zero _))
        obtain ⟨gb, ob, rfl, lgb, cb'⟩ := Rb.out (by intro h; subst h; exact absurd hlt (Nat.not_lt_zero _))
        have xa := ca' k _ (List.getElem?_eq_getElem hlta)
        have xb := cb' k _ (List.getElem?_eq_getElem hlt)
        have hz : (la.zip lb)[k]? = some (la[k], lb[k]) := List.getElem?_zip_eq_some.2 ⟨List.getElem?_eq_getElem hlta, List.getElem?_eq_getElem hlt⟩
        have hzl : k < (la.zip lb).length := (List.getElem?_eq_some_iff.1 hz).1
        have hstep : la[k].eqv lb[k] = true → ((la.zip lb).take (k + 1)).all (fun x => x.1.eqv x.2) = true := by
          intro h
          rw [List.take_succ_eq_append_getElem hzl, List.all_append, Hall.out]
          simpa using h
        have hdiff : la[k].eqv lb[k] = false → eqB la lb = false := by
          intro h
          have : (la.zip lb).all (fun x => x.1.eqv x.2) = false := by
            rw [List.all_eq_false]
            exact ⟨_, List.mem_of_getElem? hz, by simpa using h⟩
          unfold eqB
          rw [this, Bool.and_false]
        clear ca' cb' hz hzl
        generalize la[k] = x at *
        generalize lb[k] = y at *
        obtain ⟨k1, n1, s1, a1, e1⟩ := x
        obtain ⟨k2, n2, s2, a2, e2⟩ := y
        have lga' : ga < wr.heap.size := Nat.lt_of_lt_of_le lga ht.size
        have lgb' : gb < wr.heap.size := Nat.lt_of_lt_of_le lgb ht.size
        have pa := fun (i : Nat) (u : Value) (hu : (ATok.cells ⟨k1, n1, s1, a1, e1⟩)[i]? = some u) => (ht.cell (p := ⟨ga, oa + k * 5 + i, none⟩) lga (fun hf => hf)).trans (xa i u hu)
        have pb := fun (i : Nat) (u : Value) (hu : (ATok.cells ⟨k2, n2, s2, a2, e2⟩)[i]? = some u) => (ht.cell (p := ⟨gb, ob + k * 5 + i, none⟩) lgb (fun hf => hf)).trans (xb i u hu)
        have p0 : wr.cell? ⟨ga, oa + k * 5, none⟩ = some (.int .i64 k1) := pa 0 _ rfl
        have p1 : wr.cell? ⟨ga, oa + k * 5 + 1, none⟩ = some (.int .i64 n1) := pa 1 _ rfl
        have p2 : wr.cell? ⟨ga, oa + k * 5 + 2, none⟩ = some (.string ⟨s1.toArray⟩) := pa 2 _ rfl
        have p3 : wr.cell? ⟨ga, oa + k * 5 + 3, none⟩ = some (.int .i64 a1) := pa 3 _ rfl
        have p4 : wr.cell? ⟨ga, oa + k * 5 + 4, none⟩ = some (.int .i64 e1) := pa 4 _ rfl
        have q0 : wr.cell? ⟨gb, ob + k * 5, none⟩ = some (.int .i64 k2) := pb 0 _ rfl
        have q1 : wr.cell? ⟨gb, ob + k * 5 + 1, none⟩ = some (.int .i64 n2) := pb 1 _ rfl
        have q2 : wr.cell? ⟨gb, ob + k * 5 + 2, none⟩ = some (.string ⟨s2.toArray⟩) := pb 2 _ rfl
        have q3 : wr.cell? ⟨gb, ob + k * 5 + 3, none⟩ = some (.int .i64 a2) := pb 3 _ rfl
        have q4 : wr.cell? ⟨gb, ob + k * 5 + 4, none⟩ = some (.int .i64 e2) := pb 4 _ rfl
        have Hstep := Lib.hid hstep
        have Hdiff := Lib.hid hdiff
        have Ht := Lib.hid ht
        clear xa xb pa pb lga lgb hstep hdiff ht
        by_cases hk1 : k1 = k2
        · subst hk1
          by_cases hn1 : n1 = n2
          · subst hn1
            by_cases hs1 : s1 = s2
            · subst hs1
              by_cases ha1 : a1 = a2
              · subst ha1
                by_cases he1 : e1 = e2
                · subst he1
                  have hst : (ATok.eqv ⟨k1, n1, s1, a1, e1⟩ ⟨k1, n1, s1, a1, e1⟩) = true := (ATok.eqv_iff _ _).2 rfl
                  have hst2 := Hstep.out hst
                  have Hst2 := Lib.hid hst2
                  clear hst hst2
                  go_wp2_with fail
                  go_quiet (fail)
                  go_wp2
                  go_roundw
                  case rel => exact ⟨k + 1, by omega, by go_num, Hst2.out, Ht.out.drewN _⟩
                  case measure => simp [intOf]; omega
                · have hb : (e1 == e2) = false := by simpa using he1
                  have hno : eqB la lb = false := Hdiff.out (by rw [Bool.eq_false_iff]; intro h5; have h6 := (ATok.eqv_iff _ _).1 h5; simp only [ATok.mk.injEq, true_and] at h6; first | exact he1 h6.1 | exact he1 h6)
                  have Hno := Lib.hid hno
                  clear hno he1
                  go_wp2_with fail
                  go_quiet (fail)
                  go_wp2
                  go_ret
                  exact ⟨by rw [Hno.out]; rfl, Ht.out.drewN _⟩
              · have hb : (a1 == a2) = false := by simpa using ha1
                have hno : eqB la lb = false := Hdiff.out (by rw [Bool.eq_false_iff]; intro h5; have h6 := (ATok.eqv_iff _ _).1 h5; simp only [ATok.mk.injEq, true_and] at h6; first | exact ha1 h6.1 | exact ha1 h6)
                have Hno := Lib.hid hno
                clear hno ha1
                go_wp2_with fail
                go_quiet (fail)
                go_wp2
                go_ret
                exact ⟨by rw [Hno.out]; rfl, Ht.out.drewN _⟩
            · have hb := bytes_ne hs1
              have hb2 : (s1 == s2) = false := by simpa using hs1
              have hb3 : (s1.toArray == s2.toArray) = false := by simpa using hs1
              have hb4 : ((⟨s1.toArray⟩ : ByteArray) == ⟨s2.toArray⟩) = false := (beq_toListBytes _ _).trans hb
              have hb5 : ¬ s1 = s2 := hs1
              have hno : eqB la lb = false := Hdiff.out (by rw [Bool.eq_false_iff]; intro h5; have h6 := (ATok.eqv_iff _ _).1 h5; simp only [ATok.mk.injEq, true_and] at h6; first | exact hs1 h6.1 | exact hs1 h6)
              have Hno := Lib.hid hno
              clear hno hs1
              go_wp2_with fail
              go_quiet (fail)
              go_wp2
              go_ret
              exact ⟨by rw [Hno.out]; rfl, Ht.out.drewN _⟩
          · have hb : (n1 == n2) = false := by simpa using hn1
            have hno : eqB la lb = false := Hdiff.out (by rw [Bool.eq_false_iff]; intro h5; have h6 := (ATok.eqv_iff _ _).1 h5; simp only [ATok.mk.injEq, true_and] at h6; first | exact hn1 h6.1 | exact hn1 h6)
            have Hno := Lib.hid hno
            clear hno hn1
            go_wp2_with fail
            go_quiet (fail)
            go_wp2
            go_ret
            exact ⟨by rw [Hno.out]; rfl, Ht.out.drewN _⟩
        · have hb : (k1 == k2) = false := by simpa using hk1
          have hno : eqB la lb = false := Hdiff.out (by rw [Bool.eq_false_iff]; intro h5; have h6 := (ATok.eqv_iff _ _).1 h5; simp only [ATok.mk.injEq] at h6; first | exact hk1 h6.1 | exact hk1 h6)
          have Hno := Lib.hid hno
          clear hno hk1
          go_wp2_with fail
          go_quiet (fail)
          go_wp2
          go_ret
          exact ⟨by rw [Hno.out]; rfl, Ht.out.drewN _⟩
      · obtain rfl : k = lb.length := by omega
        have hfin : eqB la lb = true := by
          have h5 := Hall.out
          rw [List.take_of_length_le (by simp [Hne.out])] at h5
          unfold eqB
          rw [h5, Hne.out]
          simp
        have Hfin := Lib.hid hfin
        clear hfin
        go_wp2
        go_ret
        rw [Hfin.out]
        exact ⟨rfl, ht⟩
  · have hn1 : ((la.length : Int) == (lb.length : Int)) = false := by
      rw [Bool.eq_false_iff]
      intro e
      apply hne
      have : (la.length : Int) = lb.length := by simpa using e
      omega
    have hfin : eqB la lb = false := by
      unfold eqB
      have : (la.length == lb.length) = false := by simpa using hne
      rw [this, Bool.false_and]
    have Hfin := Lib.hid hfin
    clear hfin
    go_enter Tryz.func62, Tryz.ntmps62
    go_wp2
    go_ret
    rw [Hfin.out]
    exact ⟨rfl, Turned.refl _ _⟩

end Go.Proofs.YtbcmjinifilamaaGreatDoor

namespace Go.Proofs.YtbcmjinifilamaaGreatDoor
open Go.RowKit

/-- An edited text. -/
def edOf (l s : Lx.Bytes) (a c : Int) : Lx.Bytes := l.take a.toNat ++ s ++ l.drop (a.toNat + c.toNat)

/-- What Change gives. -/
def ChangePost (B : Nat) (l s : Lx.Bytes) (la : List ATok) (a c : Int) (e : Ending) (w' : World) : Prop :=
  if (Lx.toks l).bad = none ∧ eqB la ((Lx.toks l).toks.map ofTok) = true ∧ withinB a c l.length = true then
    ∃ tv at' er, e = .returned (.tuple #[.string ⟨(edOf l s a c).toArray⟩, tv, at', er]) ∧ TokPost B ⟨(edOf l s a c).toArray⟩ (.returned (.tuple #[tv, at', er])) w'
  else e = .returned (.tuple #[.string ⟨#[]⟩, .slice none 0 0, .int .i64 0, .int .i64 1])

theorem oldRow_of {w : World} {B : Nat} {va : Option Addr} {vc n : Nat} {o : List Lx.Tok} (hn : n = o.length) (h : w.ownsRow B 43 5 (.slice va n vc) n (o.flatMap tokCells)) :
    OldRow w va o ∧ n ≤ vc ∧ vc ≤ maxLen ∧ (∀ g off, va = some ⟨g, off, none⟩ → g < w.heap.size) ∧ (0 < vc → ∃ g off, va = some ⟨g, off, none⟩) := by
  subst hn
  rcases h.2 with ⟨h1, h2⟩ | ⟨g, cap, cur, h1, h2, h3, h4, h5, -⟩
  · simp only [Value.slice.injEq] at h1
    obtain ⟨rfl, -, rfl⟩ := h1
    refine ⟨fun j t ht => ?_, by omega, Nat.zero_le _, fun g off e => (by cases e), fun h0 => absurd h0 (Nat.lt_irrefl _)⟩
    have := (List.getElem?_eq_some_iff.1 ht).1
    omega
  · simp only [Value.slice.injEq] at h1
    obtain ⟨rfl, -, rfl⟩ := h1
    refine ⟨fun j t ht => ⟨g, 0, rfl, lt_of_block h3, fun i u hu => ?_⟩, h4, h5, fun g' off e => (by cases e; exact lt_of_block h3), fun _ => ⟨g, 0, rfl⟩⟩
    have h7 := h.cells (g := g) rfl (j * 5 + i) u (flatMap_at tokCells 5 (fun _ => rfl) o j t ht i u hu)
    have e0 : ((⟨g, 0, none⟩ : Addr).add (j * 5 + i)) = ⟨g, 0 + j * 5 + i, none⟩ := by
      unfold Addr.add
      split
      · rename_i h0; simp only [Addr.mk.injEq, true_and, and_true]; omega
      · simp only [Addr.mk.injEq, true_and, and_true]; omega
    rw [← e0]
    exact h7

theorem tokPost_base {B B' : Nat} {t : ByteArray} {e : Ending} {w : World} (h : TokPost B t e w) (hb : B' ≤ B) : TokPost B' t e w := by
  unfold TokPost at h ⊢
  split
  · rename_i h1; rw [if_pos h1] at h; exact h
  · rename_i h1
    rw [if_neg h1] at h
    split
    · rename_i q hq; rw [hq] at h; exact h
    · rename_i hq
      rw [hq] at h
      simp only at h
      split
      · rename_i h2; rw [if_pos h2] at h; exact h
      · rename_i h2
        rw [if_neg h2] at h
        obtain ⟨tv, h3, h4⟩ := h
        exact ⟨tv, h3, owns_base h4 hb⟩

theorem results_tmp4 {fn : Func} {t u v x : Tmp} (h : fn.results = #[.tmp t, .tmp u, .tmp v, .tmp x]) (tmps : Array Value) (P : Program) (w : World) :
    (results fn tmps).run P w = .ok (.tuple #[tmps.getD t undef, tmps.getD u undef, tmps.getD v undef, tmps.getD x undef]) w := by
  simp [results, h]

theorem tokPost_form {B : Nat} {t : ByteArray} {e : Ending} {w : World} (h : TokPost B t e w) : ∃ tv at' er, e = .returned (.tuple #[tv, at', er]) := by
  unfold TokPost at h
  split at h
  · exact ⟨_, _, _, h⟩
  · split at h
    · exact ⟨_, _, _, h⟩
    · split at h
      · exact ⟨_, _, _, h⟩
      · obtain ⟨tv, h1, -⟩ := h
        exact ⟨_, _, _, h1⟩

set_option maxRecDepth 100000 in
set_option maxHeartbeats 1600000 in
theorem change_any (w V : World) (he : Env w) (h7 : 7 ≤ w.heap.size) (hbV : Below w.heap.size w V) (l s : Lx.Bytes) (a c : Int) (v : Value) (la : List ATok) (ra : RowOf V v la) (hla : la.length ≤ 1000000) (hlen : l.length + s.length ≤ 20000) :
    Calls Tryz.prog 31 #[.string ⟨l.toArray⟩, v, .agg #[.int .i64 a, .int .i64 c, .string ⟨s.toArray⟩]] V fun e w' => ChangePost V.heap.size l s la a c e w' ∧ Below w.heap.size w w' ∧ Below V.heap.size V w' := by
  have hcl := toks_count l
  obtain ⟨W, hW⟩ : ∃ W, W = V.alloc (.cells #[.int .i64 a, .int .i64 c, .string ⟨s.toArray⟩] 46) := ⟨_, rfl⟩
  have tW : Turned V W (fun _ => False) := by rw [hW]; exact (Turned.refl V _).alloc _
  have k5 : W.heap[V.heap.size]? = some (.cells #[.int .i64 a, .int .i64 c, .string ⟨s.toArray⟩] 46 (0, 0)) := by rw [hW]; exact heap_alloc_new _ _
  have bVW : Below V.heap.size V W := tW.below (Nat.le_refl _) (fun _ hf => hf.elim)
  have bW : Below w.heap.size w W := hbV.trans (bVW.mono hbV.size)
  have raW : RowOf W v la := ra.turned tW (fun _ _ _ _ hf => hf)
  have hno : ∀ w', ¬ ((Lx.toks l).bad = none ∧ eqB la ((Lx.toks l).toks.map ofTok) = true ∧ withinB a c l.length = true) →
      ChangePost V.heap.size l s la a c (.returned (.tuple #[.string ⟨#[]⟩, .slice none 0 0, .int .i64 0, .int .i64 1])) w' := fun w' h => by
    unfold ChangePost
    rw [if_neg h]
  have Hno := Lib.hid hno
  have HW := Lib.hid hW
  have RaW := Lib.hid raW
  have lV := lt_of_block k5
  have K5 := Lib.hid k5
  clear hno ra raW k5
  cases hbad : (Lx.toks l).bad with
  | some q =>
    have hend := fun w' => Hno.out w' (fun h => by rw [hbad] at h; cases h.1)
    have Hend := Lib.hid hend
    have Hbad := Lib.hid hbad
    clear hend hbad
    go_enter Tryz.func31, Tryz.ntmps31
    go_wp2_with fail
    rw [← HW.out]
    refine (tokens_err w W he h7 bW l (by omega) q Hbad.out).mono ?_
    rintro e w1 ⟨rfl, b1, b1'⟩
    go_wp2
    ((try simp only [Exit.inBlock, Exit.then]); refine bodyPost_ret (results_tmp4 rfl _ _ _) rfl ?_)
    exact ⟨Hend.out _, b1, bVW.trans (b1'.mono bVW.size)⟩
  | none =>
    have Hbad := Lib.hid hbad
    clear hbad
    go_enter Tryz.func31, Tryz.ntmps31
    go_wp2_with fail
    rw [← HW.out]
    refine (tokens_fine w W he h7 bW l (by omega) Hbad.out (by omega)).mono ?_
    rintro e w1 ⟨va, vc, rfl, ho, b1, b1'⟩
    have t1 : Turned W w1 (fun _ => False) := Turned.ofBelow b1' (fun k hk hle => by omega)
    have ra1 := RaW.out.turned t1 (fun _ _ _ _ hf => hf)
    have rb1 := rowOf_owns (l := (Lx.toks l).toks.map ofTok) (v := .slice va (Lx.toks l).toks.length vc) (by rw [List.length_map, flat_ofTok]; exact ho)
    have Ho := Lib.hid ho
    have hEq := equal_any v _ la _ w1 ra1 rb1 hla (by rw [List.length_map]; omega)
    have HEq := Lib.hid hEq
    clear ra1 rb1 ho hEq
    go_wp2_with fail
    refine HEq.out.mono ?_
    rintro e w2 ⟨rfl, t2⟩
    have b2 : Below w.heap.size w w2 := b1.trans (t2.below (B := w.heap.size) b1.size (fun _ hf => hf.elim))
    have b2V : Below V.heap.size V w2 := (bVW.trans (b1'.mono bVW.size)).trans (t2.below (B := V.heap.size) (Nat.le_trans bVW.size b1'.size) (fun _ hf => hf.elim))
    cases heq : eqB la ((Lx.toks l).toks.map ofTok) with
    | false =>
      have hend := fun w' => Hno.out w' (fun h => by rw [heq] at h; cases h.2.1)
      have Hend := Lib.hid hend
      clear hend heq
      go_wp2
      ((try simp only [Exit.inBlock, Exit.then]); refine bodyPost_ret (results_tmp4 rfl _ _ _) rfl ?_)
      exact ⟨Hend.out _, b2, b2V⟩
    | true =>
      have Heq := Lib.hid heq
      have k52 : w2.heap[V.heap.size]? = some (.cells #[.int .i64 a, .int .i64 c, .string ⟨s.toArray⟩] 46 (0, 0)) := ((t1.trans t2 (fun _ _ hf => hf)).block _ lV (fun hf => hf)).trans K5.out
      have c50 : w2.cell? ⟨V.heap.size, 0, none⟩ = some (.int .i64 a) := by simp [World.cell?, k52]
      have c51 : w2.cell? ⟨V.heap.size, 1, none⟩ = some (.int .i64 c) := by simp [World.cell?, k52]
      have c52 : w2.cell? ⟨V.heap.size, 2, none⟩ = some (.string ⟨s.toArray⟩) := by simp [World.cell?, k52]
      have K52 := Lib.hid k52
      clear heq k52
      go_wp2_with fail
      refine (isWithin_any a c l.length ⟨s.toArray⟩ (by omega) w2).mono ?_
      rintro e w3 ⟨rfl, t3⟩
      have b3 : Below w.heap.size w w3 := b2.trans (t3.below (B := w.heap.size) b2.size (fun _ hf => hf.elim))
      have b3V : Below V.heap.size V w3 := b2V.trans (t3.below (B := V.heap.size) b2V.size (fun _ hf => hf.elim))
      cases hwi : withinB a c l.length with
      | false =>
        have hend := fun w' => Hno.out w' (fun h => by rw [hwi] at h; cases h.2.2)
        have Hend := Lib.hid hend
        clear hend hwi
        go_wp2
        ((try simp only [Exit.inBlock, Exit.then]); refine bodyPost_ret (results_tmp4 rfl _ _ _) rfl ?_)
        exact ⟨Hend.out _, b3, b3V⟩
      | true =>
        obtain ⟨h1, h2, h3, h4⟩ : 0 ≤ a ∧ 0 ≤ c ∧ a ≤ l.length ∧ c ≤ l.length - a := of_decide_eq_true hwi
        obtain ⟨A, rfl⟩ : ∃ A : Nat, a = A := ⟨a.toNat, by omega⟩
        obtain ⟨C, rfl⟩ : ∃ C : Nat, c = C := ⟨c.toNat, by omega⟩
        have hAC : A + C ≤ l.length := by omega
        have hed : edOf l s (A : Int) (C : Int) = l.take A ++ s ++ l.drop (A + C) := by simp [edOf]
        have hgood : ∀ tv at' er w', TokPost V.heap.size ⟨(l.take A ++ s ++ l.drop (A + C)).toArray⟩ (.returned (.tuple #[tv, at', er])) w' →
            ChangePost V.heap.size l s la (A : Int) (C : Int) (.returned (.tuple #[.string ⟨(l.take A ++ s ++ l.drop (A + C)).toArray⟩, tv, at', er])) w' := by
          intro tv at' er w' h
          unfold ChangePost
          rw [if_pos ⟨Hbad.out, Heq.out, hwi⟩, hed]
          exact ⟨tv, at', er, rfl, h⟩
        have hrec := fun (U : World) (tU : Turned w3 U (fun _ => False)) => by
          have t1U : Turned w1 U (fun _ => False) := (t2.trans t3 (fun _ _ hf => hf)).trans tU (fun _ _ hf => hf)
          have hb3 := b3.trans (tU.below (B := w.heap.size) b3.size (fun _ hf => hf.elim))
          obtain ⟨g1, g2, g3, g4, g5⟩ := oldRow_of rfl (ownsRow_turned Ho.out t1U (fun _ _ hf => hf))
          exact recut_any U (he.below hb3 h7) (Nat.le_trans h7 hb3.size) l s A C (Lx.toks l).toks rfl Hbad.out hAC hlen va vc g1 g2 g3 g4 g5 (l.take A ++ s ++ l.drop (A + C)) rfl
        have k53 := (t3.block _ (lt_of_block K52.out) (fun hf => hf)).trans K52.out
        have c50' : w3.cell? ⟨V.heap.size, 0, none⟩ = some (.int .i64 (A : Int)) := by simp [World.cell?, k53]
        have c51' : w3.cell? ⟨V.heap.size, 1, none⟩ = some (.int .i64 (C : Int)) := by simp [World.cell?, k53]
        have c52' : w3.cell? ⟨V.heap.size, 2, none⟩ = some (.string ⟨s.toArray⟩) := by simp [World.cell?, k53]
        have hex1 := ext_take l A
        have hex2 := ext_drop l (A + C) l.length rfl
        have hsl : s.length ≤ 20000 := by omega
        have hll : l.length ≤ 20000 := by omega
        have hd1 := fun (w : World) => run_string_add_lists (P := Tryz.prog) w (l.take A) s (by rw [List.length_take]; omega) (by omega)
        have hd2 := fun (w : World) => run_string_add_lists (P := Tryz.prog) w (l.take A ++ s) (l.drop (A + C)) (by rw [List.length_append, List.length_take]; omega) (by rw [List.length_drop]; omega)
        have hs1 : IntKind.i64.wrap ((A : Int) + (C : Int)) = ((A + C : Nat) : Int) := by rw [IntWalk.i64_in _ (by omega)]; omega
        have hi1 : ((A : Nat) : Int) ≤ (l.length : Int) := by omega
        have hi2 : ((A + C : Nat) : Int) ≤ (l.length : Int) := by omega
        have Hgood := Lib.hid hgood
        have Hrec := Lib.hid hrec
        have B3 := Lib.hid b3
        have B3V := Lib.hid b3V
        clear hgood hrec hed hwi k53 h1 h2 h3 h4 c50 c51 c52 b2 b2V b3 b3V
        generalize l.take A ++ s ++ l.drop (A + C) = ED at *
        generalize l.take A ++ s = P12 at *
        generalize l.drop (A + C) = P3 at *
        generalize l.take A = P1 at *
        go_wp2_with fail
        go_quiet (fail)
        go_wp2_with fail
        refine (Hrec.out _ ((Turned.refl _ _).drewN _)).mono ?_
        rintro e w4 ⟨hp, b4⟩
        obtain ⟨tv, at', er, rfl⟩ := tokPost_form hp
        have t4 : Below w3.heap.size w3 w4 := (((Turned.refl w3 (fun _ => False)).drewN nq).below (Nat.le_refl _) (fun _ hf => hf.elim)).trans b4
        have hend := Hgood.out tv at' er w4 (tokPost_base hp B3V.out.size)
        have Hend := Lib.hid hend
        have T4 := Lib.hid t4
        clear hp hend b4 t4
        go_wp2
        ((try simp only [Exit.inBlock, Exit.then]); refine bodyPost_ret (results_tmp4 rfl _ _ _) rfl ?_)
        exact ⟨Hend.out, B3.out.trans (T4.out.mono B3.out.size), B3V.out.trans (T4.out.mono B3V.out.size)⟩
end Go.Proofs.YtbcmjinifilamaaGreatDoor

namespace Go.Proofs.YtbcmjinifilamaaGreatDoor
open Go.RowKit

set_option maxRecDepth 100000 in
set_option maxHeartbeats 1600000 in
theorem rchange_any (V : World) (l s : Lx.Bytes) (a c : Int) (v : Value) (la : List ATok) (ra : RowOf V v la) (hla : la.length ≤ 1000000) (hlen : l.length + s.length ≤ 20000) :
    Calls Tryz.prog 32 #[.string ⟨l.toArray⟩, v, .agg #[.int .i64 a, .int .i64 c, .string ⟨s.toArray⟩]] V fun e w' => ChangePost V.heap.size l s la a c e w' ∧ Turned V w' (fun _ => False) := by
  have hcl := toks_count l
  obtain ⟨W, hW⟩ : ∃ W, W = V.alloc (.cells #[.int .i64 a, .int .i64 c, .string ⟨s.toArray⟩] 46) := ⟨_, rfl⟩
  have tW : Turned V W (fun _ => False) := by rw [hW]; exact (Turned.refl V _).alloc _
  have k5 : W.heap[V.heap.size]? = some (.cells #[.int .i64 a, .int .i64 c, .string ⟨s.toArray⟩] 46 (0, 0)) := by rw [hW]; exact heap_alloc_new _ _
  have raW : RowOf W v la := ra.turned tW (fun _ _ _ _ hf => hf)
  have hno : ∀ w', ¬ ((Lx.toks l).bad = none ∧ eqB la ((Lx.toks l).toks.map ofTok) = true ∧ withinB a c l.length = true) →
      ChangePost V.heap.size l s la a c (.returned (.tuple #[.string ⟨#[]⟩, .slice none 0 0, .int .i64 0, .int .i64 1])) w' := fun w' h => by
    unfold ChangePost
    rw [if_neg h]
  have Hno := Lib.hid hno
  have HW := Lib.hid hW
  have RaW := Lib.hid raW
  have lV := lt_of_block k5
  have K5 := Lib.hid k5
  clear hno ra raW k5
  cases hbad : (Lx.toks l).bad with
  | some q =>
    have hend := fun w' => Hno.out w' (fun h => by rw [hbad] at h; cases h.1)
    have Hend := Lib.hid hend
    have Hbad := Lib.hid hbad
    clear hend hbad
    go_enter Tryz.func32, Tryz.ntmps32
    go_wp2_with fail
    rw [← HW.out]
    refine (rtokens_err W l (by omega) q Hbad.out).mono ?_
    rintro e w1 ⟨rfl, t1⟩
    go_wp2
    ((try simp only [Exit.inBlock, Exit.then]); refine bodyPost_ret (results_tmp4 rfl _ _ _) rfl ?_)
    exact ⟨Hend.out _, tW.trans t1 (fun _ _ hf => hf)⟩
  | none =>
    have Hbad := Lib.hid hbad
    clear hbad
    go_enter Tryz.func32, Tryz.ntmps32
    go_wp2_with fail
    rw [← HW.out]
    refine (rtokens_fine W l (by omega) Hbad.out (by omega)).mono ?_
    rintro e w1 ⟨va, vc, rfl, ho, t1⟩
    have ra1 := RaW.out.turned t1 (fun _ _ _ _ hf => hf)
    have rb1 := rowOf_owns (l := (Lx.toks l).toks.map ofTok) (v := .slice va (Lx.toks l).toks.length vc) (by rw [List.length_map, flat_ofTok]; exact ho)
    have Ho := Lib.hid ho
    have hEq := same_any2 v _ la _ w1 ra1 rb1 hla (by rw [List.length_map]; omega)
    have HEq := Lib.hid hEq
    clear ra1 rb1 ho hEq
    go_wp2_with fail
    refine HEq.out.mono ?_
    rintro e w2 ⟨rfl, t2⟩
    have tV2 : Turned V w2 (fun _ => False) := (tW.trans t1 (fun _ _ hf => hf)).trans t2 (fun _ _ hf => hf)
    cases heq : eqB la ((Lx.toks l).toks.map ofTok) with
    | false =>
      have hend := fun w' => Hno.out w' (fun h => by rw [heq] at h; cases h.2.1)
      have Hend := Lib.hid hend
      clear hend heq
      go_wp2
      ((try simp only [Exit.inBlock, Exit.then]); refine bodyPost_ret (results_tmp4 rfl _ _ _) rfl ?_)
      exact ⟨Hend.out _, tV2⟩
    | true =>
      have Heq := Lib.hid heq
      have k52 : w2.heap[V.heap.size]? = some (.cells #[.int .i64 a, .int .i64 c, .string ⟨s.toArray⟩] 46 (0, 0)) := ((t1.trans t2 (fun _ _ hf => hf)).block _ lV (fun hf => hf)).trans K5.out
      have c50 : w2.cell? ⟨V.heap.size, 0, none⟩ = some (.int .i64 a) := by simp [World.cell?, k52]
      have c51 : w2.cell? ⟨V.heap.size, 1, none⟩ = some (.int .i64 c) := by simp [World.cell?, k52]
      have c52 : w2.cell? ⟨V.heap.size, 2, none⟩ = some (.string ⟨s.toArray⟩) := by simp [World.cell?, k52]
      have K52 := Lib.hid k52
      clear heq k52
      by_cases h1 : 0 ≤ a
      rotate_left 1
      · have hq1 : a < 0 := by omega
        have hend := fun w' => Hno.out w' (fun h => by have h5 := of_decide_eq_true h.2.2; exact h1 h5.1)
        have Hend := Lib.hid hend
        clear hend
        go_wp2
        ((try simp only [Exit.inBlock, Exit.then]); refine bodyPost_ret (results_tmp4 rfl _ _ _) rfl ?_)
        exact ⟨Hend.out _, tV2⟩
      by_cases h2 : 0 ≤ c
      rotate_left 1
      · have hq1 : ¬ a < 0 := by omega
        have hq2 : c < 0 := by omega
        have hend := fun w' => Hno.out w' (fun h => by have h5 := of_decide_eq_true h.2.2; exact h2 h5.2.1)
        have Hend := Lib.hid hend
        clear hend
        go_wp2
        ((try simp only [Exit.inBlock, Exit.then]); refine bodyPost_ret (results_tmp4 rfl _ _ _) rfl ?_)
        exact ⟨Hend.out _, tV2⟩
      by_cases h3 : a ≤ l.length
      rotate_left 1
      · have hq1 : ¬ a < 0 := by omega
        have hq2 : ¬ c < 0 := by omega
        have hq3 : (l.length : Int) < a := by omega
        have hend := fun w' => Hno.out w' (fun h => by have h5 := of_decide_eq_true h.2.2; exact h3 h5.2.2.1)
        have Hend := Lib.hid hend
        clear hend
        go_wp2
        ((try simp only [Exit.inBlock, Exit.then]); refine bodyPost_ret (results_tmp4 rfl _ _ _) rfl ?_)
        exact ⟨Hend.out _, tV2⟩
      by_cases h4 : c ≤ l.length - a
      rotate_left 1
      · have hq1 : ¬ a < 0 := by omega
        have hq2 : ¬ c < 0 := by omega
        have hq3 : ¬ (l.length : Int) < a := by omega
        have hq4 : (l.length : Int) - a < c := by omega
        have hsw : IntKind.i64.wrap ((l.length : Int) - a) = (l.length : Int) - a := IntWalk.i64_in _ (by omega)
        have hend := fun w' => Hno.out w' (fun h => by have h5 := of_decide_eq_true h.2.2; exact h4 h5.2.2.2)
        have Hend := Lib.hid hend
        clear hend
        go_wp2
        ((try simp only [Exit.inBlock, Exit.then]); refine bodyPost_ret (results_tmp4 rfl _ _ _) rfl ?_)
        exact ⟨Hend.out _, tV2⟩
      have hwi : withinB a c l.length = true := decide_eq_true ⟨h1, h2, h3, h4⟩
      obtain ⟨A, rfl⟩ : ∃ A : Nat, a = A := ⟨a.toNat, by omega⟩
      obtain ⟨C, rfl⟩ : ∃ C : Nat, c = C := ⟨c.toNat, by omega⟩
      have hAC : A + C ≤ l.length := by omega
      have hed : edOf l s (A : Int) (C : Int) = l.take A ++ s ++ l.drop (A + C) := by simp [edOf]
      have hgood : ∀ tv at' er w', TokPost V.heap.size ⟨(l.take A ++ s ++ l.drop (A + C)).toArray⟩ (.returned (.tuple #[tv, at', er])) w' →
          ChangePost V.heap.size l s la (A : Int) (C : Int) (.returned (.tuple #[.string ⟨(l.take A ++ s ++ l.drop (A + C)).toArray⟩, tv, at', er])) w' := by
        intro tv at' er w' h
        unfold ChangePost
        rw [if_pos ⟨Hbad.out, Heq.out, hwi⟩, hed]
        exact ⟨tv, at', er, rfl, h⟩
      have hrec := fun (U : World) => rtokens_any (l.take A ++ s ++ l.drop (A + C)) U
      have k53 := K52.out
      have hq1 : ¬ (A : Int) < 0 := by omega
      have hq2 : ¬ (C : Int) < 0 := by omega
      have hq3 : ¬ (l.length : Int) < (A : Int) := by omega
      have hq4 : ¬ (l.length : Int) - (A : Int) < (C : Int) := by omega
      have hsw : IntKind.i64.wrap ((l.length : Int) - (A : Int)) = (l.length : Int) - (A : Int) := IntWalk.i64_in _ (by omega)
      have c50' : w2.cell? ⟨V.heap.size, 0, none⟩ = some (.int .i64 (A : Int)) := by simp [World.cell?, k53]
      have c51' : w2.cell? ⟨V.heap.size, 1, none⟩ = some (.int .i64 (C : Int)) := by simp [World.cell?, k53]
      have c52' : w2.cell? ⟨V.heap.size, 2, none⟩ = some (.string ⟨s.toArray⟩) := by simp [World.cell?, k53]
      have hex1 := ext_take l A
      have hex2 := ext_drop l (A + C) l.length rfl
      have hsl : s.length ≤ 20000 := by omega
      have hll : l.length ≤ 20000 := by omega
      have hd1 := fun (w : World) => run_string_add_lists (P := Tryz.prog) w (l.take A) s (by rw [List.length_take]; omega) (by omega)
      have hd2 := fun (w : World) => run_string_add_lists (P := Tryz.prog) w (l.take A ++ s) (l.drop (A + C)) (by rw [List.length_append, List.length_take]; omega) (by rw [List.length_drop]; omega)
      have hs1 : IntKind.i64.wrap ((A : Int) + (C : Int)) = ((A + C : Nat) : Int) := by rw [IntWalk.i64_in _ (by omega)]; omega
      have hi1 : ((A : Nat) : Int) ≤ (l.length : Int) := by omega
      have hi2 : ((A + C : Nat) : Int) ≤ (l.length : Int) := by omega
      have Hgood := Lib.hid hgood
      have Hrec := Lib.hid hrec
      clear hgood hrec hed hwi k53
      generalize l.take A ++ s ++ l.drop (A + C) = ED at *
      generalize l.take A ++ s = P12 at *
      generalize l.drop (A + C) = P3 at *
      generalize l.take A = P1 at *
      go_wp2_with fail
      go_quiet (fail)
      go_wp2_with fail
      refine (Hrec.out _).mono ?_
      rintro e w4 ⟨hp, t4⟩
      obtain ⟨tv, at', er, rfl⟩ := tokPost_form hp
      have t5 : Turned V w4 (fun _ => False) := (tV2.drewN nq).trans t4 (fun _ _ hf => hf)
      have hend := Hgood.out tv at' er w4 (tokPost_base hp (tV2.drewN nq).size)
      have Hend := Lib.hid hend
      have T5 := Lib.hid t5
      clear hp hend t4 t5
      go_wp2
      ((try simp only [Exit.inBlock, Exit.then]); refine bodyPost_ret (results_tmp4 rfl _ _ _) rfl ?_)
      exact ⟨Hend.out, T5.out⟩
end Go.Proofs.YtbcmjinifilamaaGreatDoor

namespace Go.Proofs.YtbcmjinifilamaaGreatDoor
open Go.RowKit

/-- What Tokens gives of a text, its row read. -/
def tokV (t : Lx.Bytes) : List ATok × Int × Int :=
  if 100000 < t.length then ([], 0, 2) else match (Lx.toks t).bad with
  | some q => ([], q, 10)
  | none => if 20000 < (Lx.toks t).toks.length then ([], 0, 2) else ((Lx.toks t).toks.map ofTok, 0, 0)

theorem nil_row (w : World) : RowOf w (.slice none 0 0) [] := ⟨none, 0, rfl, fun h => absurd rfl h⟩

theorem tokPost_V {B : Nat} {t : Lx.Bytes} {e : Ending} {w : World} (h : TokPost B ⟨t.toArray⟩ e w) :
    ∃ tv, e = .returned (.tuple #[tv, .int .i64 (tokV t).2.1, .int .i64 (tokV t).2.2]) ∧ RowOf w tv (tokV t).1 ∧ (tokV t).1.length ≤ 20000 := by
  unfold TokPost at h
  rw [el_of, es_of] at h
  unfold tokV
  by_cases h1 : 100000 < t.length
  · rw [if_pos h1] at h ⊢
    exact ⟨_, h, nil_row w, by simp⟩
  · rw [if_neg h1] at h ⊢
    cases hq : (Lx.toks t).bad with
    | some q =>
      rw [hq] at h
      exact ⟨_, h, nil_row w, by simp⟩
    | none =>
      rw [hq] at h
      simp only at h ⊢
      by_cases h2 : 20000 < (Lx.toks t).toks.length
      · rw [if_pos h2] at h ⊢
        exact ⟨_, h, nil_row w, by simp⟩
      · rw [if_neg h2] at h ⊢
        obtain ⟨tv, h3, h4⟩ := h
        exact ⟨tv, h3, rowOf_owns (by rw [List.length_map, flat_ofTok]; exact h4), by rw [List.length_map]; omega⟩

/-- What Change gives, its row read. -/
def chV (l s : Lx.Bytes) (la : List ATok) (a c : Int) : Lx.Bytes × List ATok × Int × Int :=
  if (Lx.toks l).bad = none ∧ eqB la ((Lx.toks l).toks.map ofTok) = true ∧ withinB a c l.length = true then (edOf l s a c, tokV (edOf l s a c)) else ([], [], 0, 1)

def ChV (X : Lx.Bytes × List ATok × Int × Int) (e : Ending) (w : World) : Prop :=
  ∃ tv, e = .returned (.tuple #[.string ⟨X.1.toArray⟩, tv, .int .i64 X.2.2.1, .int .i64 X.2.2.2]) ∧ RowOf w tv X.2.1 ∧ X.2.1.length ≤ 20000

theorem changePost_V {B : Nat} {l s : Lx.Bytes} {la : List ATok} {a c : Int} {e : Ending} {w : World} (h : ChangePost B l s la a c e w) : ChV (chV l s la a c) e w := by
  unfold ChangePost at h
  unfold chV
  by_cases hc : (Lx.toks l).bad = none ∧ eqB la ((Lx.toks l).toks.map ofTok) = true ∧ withinB a c l.length = true
  · rw [if_pos hc] at h ⊢
    obtain ⟨tv, at', er, rfl, hp⟩ := h
    obtain ⟨tv2, h2, h3, h4⟩ := tokPost_V hp
    simp only [Ending.returned.injEq, Value.tuple.injEq, Array.mk.injEq, List.cons.injEq, and_true] at h2
    obtain ⟨rfl, rfl, rfl⟩ := h2
    exact ⟨_, rfl, h3, h4⟩
  · rw [if_neg hc] at h ⊢
    exact ⟨_, h, nil_row w, by simp⟩

set_option maxRecDepth 100000 in
set_option maxHeartbeats 3200000 in
theorem lexChanges_any (w : World) (he : Env w) (h7 : 7 ≤ w.heap.size) (t : Lx.Bytes) (v : Value) (la : List ATok) (a c : Int) (s : Lx.Bytes) (htl : t.length ≤ 140737488351232) (hv : RowOf w v la) (_hw : ∀ t ∈ la, t.wide)
    (hs : ∀ t ∈ la, t.s.length ≤ 140737488351232) (hln : la.length ≤ 9223372036854775807) (hsl : s.length ≤ 140737488351232) :
    Calls Tryz.prog 5 #[.string ⟨t.toArray⟩, v, .agg #[.int .i64 a, .int .i64 c, .string ⟨s.toArray⟩]] w fun e w' => e = .returned (.bool true) ∧ Below w.heap.size w w' := by
  have HLR : Hid (∀ x ∈ [t, s], x.length ≤ 140737488351232) := Lib.hid (by
    intro x hx
    simp only [List.mem_cons, List.not_mem_nil, or_false] at hx
    rcases hx with rfl | rfl
    · exact htl
    · exact hsl)
  obtain ⟨W, hW⟩ : ∃ W, W = w.alloc (.cells #[.int .i64 a, .int .i64 c, .string ⟨s.toArray⟩] 46) := ⟨_, rfl⟩
  have tW : Turned w W (fun _ => False) := by rw [hW]; exact (Turned.refl w _).alloc _
  have k5 : W.heap[w.heap.size]? = some (.cells #[.int .i64 a, .int .i64 c, .string ⟨s.toArray⟩] 46 (0, 0)) := by rw [hW]; exact heap_alloc_new _ _
  have bW : Below w.heap.size w W := tW.below (Nat.le_refl _) (fun _ hf => hf.elim)
  have eW : Env W := he.below bW h7
  have h7W : 7 ≤ W.heap.size := Nat.le_trans h7 bW.size
  have hE : ∀ V, Below W.heap.size W V → Env V ∧ 7 ≤ V.heap.size := fun V hb => ⟨eW.below hb h7W, Nat.le_trans h7W hb.size⟩
  have hT : ∀ V, Below W.heap.size W V → Turned W V (fun _ => False) := fun V hb => Turned.ofBelow hb (fun k hk hle => by omega)
  have hVr : ∀ V, Below W.heap.size W V → RowOf V v la := fun V hb => (hv.turned tW (fun _ _ _ _ hf => hf)).turned (hT V hb) (fun _ _ _ _ hf => hf)
  have hC : ∀ V, Below W.heap.size W V → V.cell? ⟨w.heap.size, 0, none⟩ = some (.int .i64 a) ∧ V.cell? ⟨w.heap.size, 1, none⟩ = some (.int .i64 c) ∧ V.cell? ⟨w.heap.size, 2, none⟩ = some (.string ⟨s.toArray⟩) ∧ w.heap.size < V.heap.size := fun V hb => by
    have h1 := ((hT V hb).block _ (lt_of_block k5) (fun hf => hf)).trans k5
    refine ⟨?_, ?_, ?_, lt_of_block h1⟩ <;> simp [World.cell?, h1]
  have hFew := fun V (hb : Below W.heap.size W V) => few_any v la V (hVr V hb) hs hln
  have hFin : ∀ V, Below W.heap.size W V → Below w.heap.size w V := fun V hb => bW.trans (hb.mono bW.size)
  have HE := Lib.hid hE
  have HVr := Lib.hid hVr
  have HC := Lib.hid hC
  have HFew := Lib.hid hFew
  have HFin := Lib.hid hFin
  have HW := Lib.hid hW
  have hv2 := hv
  obtain ⟨va, vc, hve, -⟩ := hv2
  clear hE hVr hC hFew hFin hW k5 tW he h7 hv hs bW
  by_cases hsh : t.length + s.length ≤ 20000
  rotate_left 1
  · subst hve
    go_enter Tryz.func5, Tryz.ntmps5
    go_wp2_with fail
    rw [← HW.out]
    refine (sane_any W eW h7W).mono ?_
    rintro e w1 ⟨rfl, b1⟩
    obtain ⟨c50, c51, c52, l5⟩ := HC.out w1 b1
    go_wp2_with fail
    refine (shortK W _ b1 [t, s] 2 false rfl (by omega) HLR.out (by rw [sum2]; exact decide_eq_false hsh)).mono ?_
    rintro e w2 ⟨rfl, b2⟩
    go_wp2
    go_ret
    exact ⟨rfl, HFin.out _ b2⟩
  · cases hfew : fewB la with
    | false =>
      have Hfew := Lib.hid hfew
      clear hfew
      subst hve
      go_enter Tryz.func5, Tryz.ntmps5
      go_wp2_with fail
      rw [← HW.out]
      refine (sane_any W eW h7W).mono ?_
      rintro e w1 ⟨rfl, b1⟩
      obtain ⟨c50, c51, c52, l5⟩ := HC.out w1 b1
      go_wp2_with fail
      refine (shortK W _ b1 [t, s] 2 true rfl (by omega) HLR.out (by rw [sum2]; exact decide_eq_true hsh)).mono ?_
      rintro e w2 ⟨rfl, b2⟩
      go_wp2_with fail
      refine (HFew.out _ b2).mono ?_
      rintro e w3 ⟨rfl, t3⟩
      rw [Hfew.out]
      have b3 := b2.trans (t3.below (B := W.heap.size) b2.size (fun _ hf => hf.elim))
      go_wp2
      go_ret
      exact ⟨rfl, HFin.out _ b3⟩
    | true =>
      have hl2 : la.length ≤ 2000 := by
        unfold fewB at hfew
        simp only [Bool.and_eq_true, decide_eq_true_eq] at hfew
        exact hfew.1
      have Hfew := Lib.hid hfew
      clear hfew
      subst hve
      go_enter Tryz.func5, Tryz.ntmps5
      go_wp2_with fail
      rw [← HW.out]
      refine (sane_any W eW h7W).mono ?_
      rintro e w1 ⟨rfl, b1⟩
      obtain ⟨c50, c51, c52, l5⟩ := HC.out w1 b1
      go_wp2_with fail
      refine (shortK W _ b1 [t, s] 2 true rfl (by omega) HLR.out (by rw [sum2]; exact decide_eq_true hsh)).mono ?_
      rintro e w2 ⟨rfl, b2⟩
      clear c50 c51 c52 l5
      go_wp2_with fail
      refine (HFew.out _ b2).mono ?_
      rintro e w3 ⟨rfl, t3⟩
      rw [Hfew.out]
      have b3 := b2.trans (t3.below (B := W.heap.size) b2.size (fun _ hf => hf.elim))
      clear t3
      go_wp2_with fail
      refine (rtokens_any t w3).mono ?_
      rintro e w4 ⟨hp, t4⟩
      obtain ⟨tv0, rfl, r0, n0⟩ := tokPost_V hp
      have b4 := b3.trans (t4.below (B := W.heap.size) b3.size (fun _ hf => hf.elim))
      generalize tokV t = T0 at *
      obtain ⟨L0, at0, er0⟩ := T0
      simp only at r0 n0
      have r0' := r0
      obtain ⟨a0, c0, rfl, -⟩ := r0'
      have b5 := b4.alloc b4.size (.cells #[.slice va la.length vc, .slice a0 L0.length c0] 24)
      have k6 := heap_alloc_new w4 (.cells #[.slice va la.length vc, .slice a0 L0.length c0] 24)
      have r5 := r0.turned ((Turned.refl w4 (fun _ => False)).alloc (.cells #[.slice va la.length vc, .slice a0 L0.length c0] 24)) (fun _ _ _ _ hf => hf)
      clear hp t4 r0
      go_wp2_with fail
      generalize w4.alloc (.cells #[.slice va la.length vc, .slice a0 L0.length c0] 24) = w5 at *
      generalize w4.heap.size = Y at *
      have l6 := lt_of_block k6
      have hel : ∀ k : Nat, k < 2 → ∃ ve le, w5.cell? ⟨Y, k, none⟩ = some ve ∧ RowOf w5 ve le ∧ le.length ≤ 1000000 := fun k hk => by
        match k, hk with
        | 0, _ => exact ⟨_, la, by simp [World.cell?, k6], HVr.out _ b5, by omega⟩
        | 1, _ => exact ⟨_, L0, by simp [World.cell?, k6], r5, by omega⟩
      have Hel := Lib.hid hel
      have B5 := Lib.hid b5
      clear hel b5 k6 r5 b1 b2 b3 b4
      go_loopw [43] (fun i wr => ∃ k : Nat, k ≤ 2 ∧ i = .int .i64 k ∧ Turned w5 wr (fun _ => False)) (fun i _ => 2 - (intOf i).toNat)
      case atStart => exact ⟨0, by omega, rfl, Turned.refl _ _⟩
      case round =>
        obtain ⟨k, hk, rfl, ht⟩ := hrel
        have br := B5.out.trans (ht.below (B := W.heap.size) B5.out.size (fun _ hf => hf.elim))
        by_cases hlt : k < 2
        · have hki : (k : Int) < 2 := by omega
          obtain ⟨ve, le, hcell, hrow, hle⟩ := Hel.out k hlt
          have hcr := (ht.cell (p := ⟨Y, k, none⟩) l6 (fun hf => hf)).trans hcell
          have hrr := hrow.turned ht (fun _ _ _ _ hf => hf)
          have lY := Nat.lt_of_lt_of_le l6 ht.size
          obtain ⟨c50, c51, c52, l5⟩ := HC.out wr br
          have hch : Calls Tryz.prog 31 #[.string ⟨t.toArray⟩, ve, .agg #[.int .i64 a, .int .i64 c, .string ⟨s.toArray⟩]] wr fun e w' => ChV (chV t s le a c) e w' ∧ Below W.heap.size W w' ∧ Turned wr w' (fun _ => False) := by
            refine (change_any W wr eW h7W br t s a c ve le hrr hle hsh).mono ?_
            rintro e w' ⟨h1, h2, h3⟩
            exact ⟨changePost_V h1, h2, Turned.ofBelow h3 (fun j hj hl => by omega)⟩
          have hrch : ∀ V, Turned wr V (fun _ => False) → Calls Tryz.prog 32 #[.string ⟨t.toArray⟩, ve, .agg #[.int .i64 a, .int .i64 c, .string ⟨s.toArray⟩]] V fun e w' => ChV (chV t s le a c) e w' ∧ Turned V w' (fun _ => False) := by
            intro V hV
            refine (rchange_any V t s a c ve le (hrr.turned hV (fun _ _ _ _ hf => hf)) hle hsh).mono ?_
            rintro e w' ⟨h1, h2⟩
            exact ⟨changePost_V h1, h2⟩
          generalize chV t s le a c = X at *
          obtain ⟨x1, x2, x3, x4⟩ := X
          have hrow2 := hrow
          obtain ⟨ae, ce, rfl, -⟩ := hrow2
          have Hch := Lib.hid hch
          have Hrch := Lib.hid hrch
          have Ht := Lib.hid ht
          clear hcell hrow hrr hch hrch br ht
          go_wp2_with fail
          refine Hch.out.mono ?_
          rintro e w6 ⟨⟨tv1, rfl, r1, n1⟩, b6, t6⟩
          obtain ⟨d50, d51, d52, l52⟩ := HC.out w6 b6
          simp only at r1 n1
          go_wp2_with fail
          refine (Hrch.out w6 t6).mono ?_
          rintro e w7 ⟨⟨tv2, rfl, r2, n2⟩, t7⟩
          simp only at r2 n2
          have hsm := same_any2 tv1 tv2 x2 x2 w7 (r1.turned t7 (fun _ _ _ _ hf => hf)) r2 (by omega) (by omega)
          rw [(eqB_iff x2 x2).2 rfl] at hsm
          have Hsm := Lib.hid hsm
          have T7 := Lib.hid ((Ht.out.trans t6 (fun _ _ hf => hf)).trans t7 (fun _ _ hf => hf))
          clear hsm r1 r2 t6 t7 b6
          go_wp2_with fail
          refine Hsm.out.mono ?_
          rintro e w8 ⟨rfl, t8⟩
          have T8 := Lib.hid (T7.out.trans t8 (fun _ _ hf => hf))
          clear t8
          go_wp2
          go_roundw
          case rel => exact ⟨k + 1, by omega, by go_num, T8.out⟩
          case measure => simp [intOf]; omega
        · obtain rfl : k = 2 := by omega
          go_wp2
          go_ret
          exact ⟨rfl, HFin.out _ br⟩
end Go.Proofs.YtbcmjinifilamaaGreatDoor
