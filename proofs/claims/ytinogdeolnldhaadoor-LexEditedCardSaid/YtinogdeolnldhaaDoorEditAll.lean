/- LexEdited, first part: rows of tokens held against each other, Change, what it gives. -/
import Derived.Test.YtinogdeolnldhaaDoorLike
import Derived.Laws.Concat
import Derived.IntWalk
import Derived.Test.YtinogdeolnldhaaDoorRecutAll

namespace Go.Proofs.YtinogdeolnldhaaDoor
open Go.RowKit


theorem rowA_at {w : World} {va : Option Addr} {n vc : Nat} {l : List ATok} (h : RowOf w (.slice va n vc) l) (j : Nat) (hj : j < l.length) : ∃ g off, va = some ⟨g, off, none⟩ ∧ g < w.heap.size ∧
    ∀ (i : Nat) (u : Value), (l[j].cells)[i]? = some u → w.cell? ⟨g, off + j * 5 + i, none⟩ = some u := by
  obtain ⟨a, cap, hv, hr⟩ := h
  simp only [Value.slice.injEq] at hv
  obtain ⟨g, off, ha, hg, hc⟩ := hr (by intro h; subst h; exact absurd hj (Nat.not_lt_zero _))
  exact ⟨g, off, hv.1.trans ha, hg, fun i u hu => hc j l[j] (List.getElem?_eq_getElem hj) i u hu⟩

end Go.Proofs.YtinogdeolnldhaaDoor

namespace Go.Proofs.YtinogdeolnldhaaDoor
open Go.RowKit

def ATok.eqv (a b : ATok) : Bool := a.kind == b.kind && a.n == b.n && a.s == b.s && a.at_ == b.at_ && a.end_ == b.end_

/-- Whether two lists of tokens are the same. -/
def eqB (la lb : List ATok) : Bool := la.length == lb.length && (la.zip lb).all fun x => x.1.eqv x.2

theorem ATok.eqv_iff (a b : ATok) : a.eqv b = true ↔ a = b := by
  obtain ⟨k1, n1, s1, a1, e1⟩ := a
  obtain ⟨k2, n2, s2, a2, e2⟩ := b
  simp [ATok.eqv, and_assoc]

theorem eqB_iff : ∀ (la lb : List ATok), eqB la lb = true ↔ la = lb
  | [], [] => by simp [eqB]
  | [], _ :: _ => by simp [eqB]
  | _ :: _, [] => by simp [eqB]
  | a :: la, b :: lb => by
    have ih := eqB_iff la lb
    unfold eqB at ih ⊢
    simp only [List.length_cons, List.zip_cons_cons, List.all_cons, Bool.and_eq_true, beq_iff_eq, Nat.add_right_cancel_iff, List.cons.injEq, ATok.eqv_iff] at ih ⊢
    constructor
    · rintro ⟨h1, h2, h3⟩
      exact ⟨h2, ih.1 ⟨h1, h3⟩⟩
    · rintro ⟨rfl, rfl⟩
      exact ⟨rfl, rfl, (ih.2 rfl).2⟩

theorem bytes_ne {a b : Lx.Bytes} (h : a ≠ b) : ((⟨a.toArray⟩ : ByteArray).toList == (⟨b.toArray⟩ : ByteArray).toList) = false := by
  rw [Bool.eq_false_iff]
  intro e
  have e2 := eq_of_beq e
  rw [ByteArray.toList_eq, ByteArray.toList_eq] at e2
  exact h e2

set_option maxRecDepth 100000 in
set_option maxHeartbeats 1600000 in
/-- The reference's Same. -/
theorem same_any2 (va vb : Value) (la lb : List ATok) (w : World) (ha : RowOf w va la) (hb : RowOf w vb lb) (hl : la.length ≤ 1000000) (hl2 : lb.length ≤ 1000000) :
    Calls Tryd.prog 14 #[va, vb] w fun e w' => e = .returned (.bool (eqB la lb)) ∧ Turned w w' (fun _ => False) := by
  obtain ⟨aa, ca, rfl, ra⟩ := ha
  obtain ⟨ab, cb, rfl, rb⟩ := hb
  by_cases hne : la.length = lb.length
  · have Hne := Lib.hid hne
    rw [hne]
    clear hne
    have Ra := Lib.hid ra
    have Rb := Lib.hid rb
    clear ra rb
    go_enter Tryd.func14, Tryd.ntmps14
    go_wp2_with fail
    go_loopw [5] (fun i wr => ∃ k : Nat, k ≤ lb.length ∧ i = .int .i64 k ∧ ((la.zip lb).take k).all (fun x => x.1.eqv x.2) = true ∧ Turned w wr (fun _ => False)) (fun i _ => lb.length - (intOf i).toNat)
    case atStart => exact ⟨0, Nat.zero_le _, rfl, by simp, Turned.refl _ _⟩
    case round =>
      obtain ⟨k, hk, rfl, hall, ht⟩ := hrel
      have Hall := Lib.hid hall
      clear hall
      by_cases hlt : k < lb.length
      · have hlta : k < la.length := by rw [Hne.out]; exact hlt
        have hki : (k : Int) < (lb.length : Int) := by omega
        obtain ⟨ga, oa, rfl, lga, ca'⟩ := Ra.out (by intro h; subst h; exact absurd hlta (Nat.not_lt_zero _))
        obtain ⟨gb, ob, rfl, lgb, cb'⟩ := Rb.out (by intro h; subst h; exact absurd hlt (Nat.not_lt_zero _))
        have xa := ca' k _ (List.getElem?_eq_getElem hlta)
        have xb := cb' k _ (List.getElem?_eq_getElem hlt)
        have hz : (la.zip lb)[k]? = some (la[k], lb[k]) := List.getElem?_zip_eq_some.2 ⟨List.getElem?_eq_getElem hlta, List.getElem?_eq_getElem hlt⟩
        have hzl : k < (la.zip lb).length := (List.getElem?_eq_some_iff.1 hz).1
        have hstep : la[k].eqv lb[k] = true → ((la.zip lb).take (k + 1)).all (fun x => x.1.eqv x.2) = true := by
          intro h
          rw [List.take_succ_eq_append_getElem hzl, List.all_append, Hall.out]
          simpa using h
        have hdiff : la[k].eqv lb[k] = false → eqB la lb = false := by
          intro h
          have : (la.zip lb).all (fun x => x.1.eqv x.2) = false := by
            rw [List.all_eq_false]
            exact ⟨_, List.mem_of_getElem? hz, by simpa using h⟩
          unfold eqB
          rw [this, Bool.and_false]
        clear ca' cb' hz hzl
        generalize la[k] = x at *
        generalize lb[k] = y at *
        obtain ⟨k1, n1, s1, a1, e1⟩ := x
        obtain ⟨k2, n2, s2, a2, e2⟩ := y
        have lga' : ga < wr.heap.size := Nat.lt_of_lt_of_le lga ht.size
        have lgb' : gb < wr.heap.size := Nat.lt_of_lt_of_le lgb ht.size
        have pa := fun (i : Nat) (u : Value) (hu : (ATok.cells ⟨k1, n1, s1, a1, e1⟩)[i]? = some u) => (ht.cell (p := ⟨ga, oa + k * 5 + i, none⟩) lga (fun hf => hf)).trans (xa i u hu)
        have pb := fun (i : Nat) (u : Value) (hu : (ATok.cells ⟨k2, n2, s2, a2, e2⟩)[i]? = some u) => (ht.cell (p := ⟨gb, ob + k * 5 + i, none⟩) lgb (fun hf => hf)).trans (xb i u hu)
        have p0 : wr.cell? ⟨ga, oa + k * 5, none⟩ = some (.int .i64 k1) := pa 0 _ rfl
        have p1 : wr.cell? ⟨ga, oa + k * 5 + 1, none⟩ = some (.int .i64 n1) := pa 1 _ rfl
        have p2 : wr.cell? ⟨ga, oa + k * 5 + 2, none⟩ = some (.string ⟨s1.toArray⟩) := pa 2 _ rfl
        have p3 : wr.cell? ⟨ga, oa + k * 5 + 3, none⟩ = some (.int .i64 a1) := pa 3 _ rfl
        have p4 : wr.cell? ⟨ga, oa + k * 5 + 4, none⟩ = some (.int .i64 e1) := pa 4 _ rfl
        have q0 : wr.cell? ⟨gb, ob + k * 5, none⟩ = some (.int .i64 k2) := pb 0 _ rfl
        have q1 : wr.cell? ⟨gb, ob + k * 5 + 1, none⟩ = some (.int .i64 n2) := pb 1 _ rfl
        have q2 : wr.cell? ⟨gb, ob + k * 5 + 2, none⟩ = some (.string ⟨s2.toArray⟩) := pb 2 _ rfl
        have q3 : wr.cell? ⟨gb, ob + k * 5 + 3, none⟩ = some (.int .i64 a2) := pb 3 _ rfl
        have q4 : wr.cell? ⟨gb, ob + k * 5 + 4, none⟩ = some (.int .i64 e2) := pb 4 _ rfl
        have Hstep := Lib.hid hstep
        have Hdiff := Lib.hid hdiff
        have Ht := Lib.hid ht
        clear xa xb pa pb lga lgb hstep hdiff ht
        by_cases hk1 : k1 = k2
        · subst hk1
          by_cases hn1 : n1 = n2
          · subst hn1
            by_cases hs1 : s1 = s2
            · subst hs1
              by_cases ha1 : a1 = a2
              · subst ha1
                by_cases he1 : e1 = e2
                · subst he1
                  have hst : (ATok.eqv ⟨k1, n1, s1, a1, e1⟩ ⟨k1, n1, s1, a1, e1⟩) = true := (ATok.eqv_iff _ _).2 rfl
                  have hst2 := Hstep.out hst
                  have Hst2 := Lib.hid hst2
                  clear hst hst2
                  go_wp2_with fail
                  go_quiet (fail)
                  go_wp2
                  go_roundw
                  case rel => exact ⟨k + 1, by omega, by go_num, Hst2.out, Ht.out.drewN _⟩
                  case measure => simp [intOf]; omega
                · have hb : (e1 == e2) = false := by simpa using he1
                  have hno : eqB la lb = false := Hdiff.out (by rw [Bool.eq_false_iff]; intro h5; have h6 := (ATok.eqv_iff _ _).1 h5; simp only [ATok.mk.injEq, true_and] at h6; first | exact he1 h6.1 | exact he1 h6)
                  have Hno := Lib.hid hno
                  clear hno he1
                  go_wp2_with fail
                  go_quiet (fail)
                  go_wp2
                  go_ret
                  exact ⟨by rw [Hno.out]; rfl, Ht.out.drewN _⟩
              · have hb : (a1 == a2) = false := by simpa using ha1
                have hno : eqB la lb = false := Hdiff.out (by rw [Bool.eq_false_iff]; intro h5; have h6 := (ATok.eqv_iff _ _).1 h5; simp only [ATok.mk.injEq, true_and] at h6; first | exact ha1 h6.1 | exact ha1 h6)
                have Hno := Lib.hid hno
                clear hno ha1
                go_wp2_with fail
                go_quiet (fail)
                go_wp2
                go_ret
                exact ⟨by rw [Hno.out]; rfl, Ht.out.drewN _⟩
            · have hb := bytes_ne hs1
              have hb2 : (s1 == s2) = false := by simpa using hs1
              have hb3 : (s1.toArray == s2.toArray) = false := by simpa using hs1
              have hb4 : ((⟨s1.toArray⟩ : ByteArray) == ⟨s2.toArray⟩) = false := (beq_toListBytes _ _).trans hb
              have hb5 : ¬ s1 = s2 := hs1
              have hno : eqB la lb = false := Hdiff.out (by rw [Bool.eq_false_iff]; intro h5; have h6 := (ATok.eqv_iff _ _).1 h5; simp only [ATok.mk.injEq, true_and] at h6; first | exact hs1 h6.1 | exact hs1 h6)
              have Hno := Lib.hid hno
              clear hno hs1
              go_wp2_with fail
              go_quiet (fail)
              go_wp2
              go_ret
              exact ⟨by rw [Hno.out]; rfl, Ht.out.drewN _⟩
          · have hb : (n1 == n2) = false := by simpa using hn1
            have hno : eqB la lb = false := Hdiff.out (by rw [Bool.eq_false_iff]; intro h5; have h6 := (ATok.eqv_iff _ _).1 h5; simp only [ATok.mk.injEq, true_and] at h6; first | exact hn1 h6.1 | exact hn1 h6)
            have Hno := Lib.hid hno
            clear hno hn1
            go_wp2_with fail
            go_quiet (fail)
            go_wp2
            go_ret
            exact ⟨by rw [Hno.out]; rfl, Ht.out.drewN _⟩
        · have hb : (k1 == k2) = false := by simpa using hk1
          have hno : eqB la lb = false := Hdiff.out (by rw [Bool.eq_false_iff]; intro h5; have h6 := (ATok.eqv_iff _ _).1 h5; simp only [ATok.mk.injEq] at h6; first | exact hk1 h6.1 | exact hk1 h6)
          have Hno := Lib.hid hno
          clear hno hk1
          go_wp2_with fail
          go_quiet (fail)
          go_wp2
          go_ret
          exact ⟨by rw [Hno.out]; rfl, Ht.out.drewN _⟩
      · obtain rfl : k = lb.length := by omega
        have hfin : eqB la lb = true := by
          have h5 := Hall.out
          rw [List.take_of_length_le (by simp [Hne.out])] at h5
          unfold eqB
          rw [h5, Hne.out]
          simp
        have Hfin := Lib.hid hfin
        clear hfin
        go_wp2
        go_ret
        rw [Hfin.out]
        exact ⟨rfl, ht⟩
  · have hn1 : ((la.length : Int) == (lb.length : Int)) = false := by
      rw [Bool.eq_false_iff]
      intro e
      apply hne
      have : (la.length : Int) = lb.length := by simpa using e
      omega
    have hfin : eqB la lb = false := by
      unfold eqB
      have : (la.length == lb.length) = false := by simpa using hne
      rw [this, Bool.false_and]
    have Hfin := Lib.hid hfin
    clear hfin
    go_enter Tryd.func14, Tryd.ntmps14
    go_wp2
    go_ret
    rw [Hfin.out]
    exact ⟨rfl, Turned.refl _ _⟩

set_option maxRecDepth 100000 in
set_option maxHeartbeats 1600000 in
/-- slices.Equal at tokens. -/
theorem equal_any (va vb : Value) (la lb : List ATok) (w : World) (ha : RowOf w va la) (hb : RowOf w vb lb) (hl : la.length ≤ 1000000) (hl2 : lb.length ≤ 1000000) :
    Calls Tryd.prog 31 #[va, vb] w fun e w' => e = .returned (.bool (eqB la lb)) ∧ Turned w w' (fun _ => False) := by
  obtain ⟨aa, ca, rfl, ra⟩ := ha
  obtain ⟨ab, cb, rfl, rb⟩ := hb
  by_cases hne : la.length = lb.length
  · have Hne := Lib.hid hne
    rw [hne]
    clear hne
    have Ra := Lib.hid ra
    have Rb := Lib.hid rb
    clear ra rb
    go_enter Tryd.func31, Tryd.ntmps31
    go_wp2_with fail
    go_loopw [13] (fun i wr => ∃ k : Nat, k ≤ lb.length ∧ i = .int .i64 k ∧ ((la.zip lb).take k).all (fun x => x.1.eqv x.2) = true ∧ Turned w wr (fun _ => False)) (fun i _ => lb.length - (intOf i).toNat)
    case atStart => exact ⟨0, Nat.zero_le _, rfl, by simp, Turned.refl _ _⟩
    case round =>
      obtain ⟨k, hk, rfl, hall, ht⟩ := hrel
      have Hall := Lib.hid hall
      clear hall
      by_cases hlt : k < lb.length
      · have hlta : k < la.length := by rw [Hne.out]; exact hlt
        have hki : (k : Int) < (lb.length : Int) := by omega
        obtain ⟨ga, oa, rfl, lga, ca'⟩ := Ra.out (by intro h; subst h; exact absurd hlta (Nat.not_lt_zero _))
        obtain ⟨gb, ob, rfl, lgb, cb'⟩ := Rb.out (by intro h; subst h; exact absurd hlt (Nat.not_lt_zero _))
        have xa := ca' k _ (List.getElem?_eq_getElem hlta)
        have xb := cb' k _ (List.getElem?_eq_getElem hlt)
        have hz : (la.zip lb)[k]? = some (la[k], lb[k]) := List.getElem?_zip_eq_some.2 ⟨List.getElem?_eq_getElem hlta, List.getElem?_eq_getElem hlt⟩
        have hzl : k < (la.zip lb).length := (List.getElem?_eq_some_iff.1 hz).1
        have hstep : la[k].eqv lb[k] = true → ((la.zip lb).take (k + 1)).all (fun x => x.1.eqv x.2) = true := by
          intro h
          rw [List.take_succ_eq_append_getElem hzl, List.all_append, Hall.out]
          simpa using h
        have hdiff : la[k].eqv lb[k] = false → eqB la lb = false := by
          intro h
          have : (la.zip lb).all (fun x => x.1.eqv x.2) = false := by
            rw [List.all_eq_false]
            exact ⟨_, List.mem_of_getElem? hz, by simpa using h⟩
          unfold eqB
          rw [this, Bool.and_false]
        clear ca' cb' hz hzl
        generalize la[k] = x at *
        generalize lb[k] = y at *
        obtain ⟨k1, n1, s1, a1, e1⟩ := x
        obtain ⟨k2, n2, s2, a2, e2⟩ := y
        have lga' : ga < wr.heap.size := Nat.lt_of_lt_of_le lga ht.size
        have lgb' : gb < wr.heap.size := Nat.lt_of_lt_of_le lgb ht.size
        have pa := fun (i : Nat) (u : Value) (hu : (ATok.cells ⟨k1, n1, s1, a1, e1⟩)[i]? = some u) => (ht.cell (p := ⟨ga, oa + k * 5 + i, none⟩) lga (fun hf => hf)).trans (xa i u hu)
        have pb := fun (i : Nat) (u : Value) (hu : (ATok.cells ⟨k2, n2, s2, a2, e2⟩)[i]? = some u) => (ht.cell (p := ⟨gb, ob + k * 5 + i, none⟩) lgb (fun hf => hf)).trans (xb i u hu)
        have p0 : wr.cell? ⟨ga, oa + k * 5, none⟩ = some (.int .i64 k1) := pa 0 _ rfl
        have p1 : wr.cell? ⟨ga, oa + k * 5 + 1, none⟩ = some (.int .i64 n1) := pa 1 _ rfl
        have p2 : wr.cell? ⟨ga, oa + k * 5 + 2, none⟩ = some (.string ⟨s1.toArray⟩) := pa 2 _ rfl
        have p3 : wr.cell? ⟨ga, oa + k * 5 + 3, none⟩ = some (.int .i64 a1) := pa 3 _ rfl
        have p4 : wr.cell? ⟨ga, oa + k * 5 + 4, none⟩ = some (.int .i64 e1) := pa 4 _ rfl
        have q0 : wr.cell? ⟨gb, ob + k * 5, none⟩ = some (.int .i64 k2) := pb 0 _ rfl
        have q1 : wr.cell? ⟨gb, ob + k * 5 + 1, none⟩ = some (.int .i64 n2) := pb 1 _ rfl
        have q2 : wr.cell? ⟨gb, ob + k * 5 + 2, none⟩ = some (.string ⟨s2.toArray⟩) := pb 2 _ rfl
        have q3 : wr.cell? ⟨gb, ob + k * 5 + 3, none⟩ = some (.int .i64 a2) := pb 3 _ rfl
        have q4 : wr.cell? ⟨gb, ob + k * 5 + 4, none⟩ = some (.int .i64 e2) := pb 4 _ rfl
        have Hstep := Lib.hid hstep
        have Hdiff := Lib.hid hdiff
        have Ht := Lib.hid ht
        clear xa xb pa pb lga lgb hstep hdiff ht
        by_cases hk1 : k1 = k2
        · subst hk1
          by_cases hn1 : n1 = n2
          · subst hn1
            by_cases hs1 : s1 = s2
            · subst hs1
              by_cases ha1 : a1 = a2
              · subst ha1
                by_cases he1 : e1 = e2
                · subst he1
                  have hst : (ATok.eqv ⟨k1, n1, s1, a1, e1⟩ ⟨k1, n1, s1, a1, e1⟩) = true := (ATok.eqv_iff _ _).2 rfl
                  have hst2 := Hstep.out hst
                  have Hst2 := Lib.hid hst2
                  clear hst hst2
                  go_wp2_with fail
                  go_quiet (fail)
                  go_wp2
                  go_roundw
                  case rel => exact ⟨k + 1, by omega, by go_num, Hst2.out, Ht.out.drewN _⟩
                  case measure => simp [intOf]; omega
                · have hb : (e1 == e2) = false := by simpa using he1
                  have hno : eqB la lb = false := Hdiff.out (by rw [Bool.eq_false_iff]; intro h5; have h6 := (ATok.eqv_iff _ _).1 h5; simp only [ATok.mk.injEq, true_and] at h6; first | exact he1 h6.1 | exact he1 h6)
                  have Hno := Lib.hid hno
                  clear hno he1
                  go_wp2_with fail
                  go_quiet (fail)
                  go_wp2
                  go_ret
                  exact ⟨by rw [Hno.out]; rfl, Ht.out.drewN _⟩
              · have hb : (a1 == a2) = false := by simpa using ha1
                have hno : eqB la lb = false := Hdiff.out (by rw [Bool.eq_false_iff]; intro h5; have h6 := (ATok.eqv_iff _ _).1 h5; simp only [ATok.mk.injEq, true_and] at h6; first | exact ha1 h6.1 | exact ha1 h6)
                have Hno := Lib.hid hno
                clear hno ha1
                go_wp2_with fail
                go_quiet (fail)
                go_wp2
                go_ret
                exact ⟨by rw [Hno.out]; rfl, Ht.out.drewN _⟩
            · have hb := bytes_ne hs1
              have hb2 : (s1 == s2) = false := by simpa using hs1
              have hb3 : (s1.toArray == s2.toArray) = false := by simpa using hs1
              have hb4 : ((⟨s1.toArray⟩ : ByteArray) == ⟨s2.toArray⟩) = false := (beq_toListBytes _ _).trans hb
              have hb5 : ¬ s1 = s2 := hs1
              have hno : eqB la lb = false := Hdiff.out (by rw [Bool.eq_false_iff]; intro h5; have h6 := (ATok.eqv_iff _ _).1 h5; simp only [ATok.mk.injEq, true_and] at h6; first | exact hs1 h6.1 | exact hs1 h6)
              have Hno := Lib.hid hno
              clear hno hs1
              go_wp2_with fail
              go_quiet (fail)
              go_wp2
              go_ret
              exact ⟨by rw [Hno.out]; rfl, Ht.out.drewN _⟩
          · have hb : (n1 == n2) = false := by simpa using hn1
            have hno : eqB la lb = false := Hdiff.out (by rw [Bool.eq_false_iff]; intro h5; have h6 := (ATok.eqv_iff _ _).1 h5; simp only [ATok.mk.injEq, true_and] at h6; first | exact hn1 h6.1 | exact hn1 h6)
            have Hno := Lib.hid hno
            clear hno hn1
            go_wp2_with fail
            go_quiet (fail)
            go_wp2
            go_ret
            exact ⟨by rw [Hno.out]; rfl, Ht.out.drewN _⟩
        · have hb : (k1 == k2) = false := by simpa using hk1
          have hno : eqB la lb = false := Hdiff.out (by rw [Bool.eq_false_iff]; intro h5; have h6 := (ATok.eqv_iff _ _).1 h5; simp only [ATok.mk.injEq] at h6; first | exact hk1 h6.1 | exact hk1 h6)
          have Hno := Lib.hid hno
          clear hno hk1
          go_wp2_with fail
          go_quiet (fail)
          go_wp2
          go_ret
          exact ⟨by rw [Hno.out]; rfl, Ht.out.drewN _⟩
      · obtain rfl : k = lb.length := by omega
        have hfin : eqB la lb = true := by
          have h5 := Hall.out
          rw [List.take_of_length_le (by simp [Hne.out])] at h5
          unfold eqB
          rw [h5, Hne.out]
          simp
        have Hfin := Lib.hid hfin
        clear hfin
        go_wp2
        go_ret
        rw [Hfin.out]
        exact ⟨rfl, ht⟩
  · have hn1 : ((la.length : Int) == (lb.length : Int)) = false := by
      rw [Bool.eq_false_iff]
      intro e
      apply hne
      have : (la.length : Int) = lb.length := by simpa using e
      omega
    have hfin : eqB la lb = false := by
      unfold eqB
      have : (la.length == lb.length) = false := by simpa using hne
      rw [this, Bool.false_and]
    have Hfin := Lib.hid hfin
    clear hfin
    go_enter Tryd.func31, Tryd.ntmps31
    go_wp2
    go_ret
    rw [Hfin.out]
    exact ⟨rfl, Turned.refl _ _⟩

end Go.Proofs.YtinogdeolnldhaaDoor

namespace Go.Proofs.YtinogdeolnldhaaDoor
open Go.RowKit

/-- An edited text. -/
def edOf (l s : Lx.Bytes) (a c : Int) : Lx.Bytes := l.take a.toNat ++ s ++ l.drop (a.toNat + c.toNat)

/-- What Change gives. -/
def ChangePost (B : Nat) (l s : Lx.Bytes) (la : List ATok) (a c : Int) (e : Ending) (w' : World) : Prop :=
  if (Lx.toks l).bad = none ∧ eqB la ((Lx.toks l).toks.map ofTok) = true ∧ withinB a c l.length = true then
    ∃ tv at' er, e = .returned (.tuple #[.string ⟨(edOf l s a c).toArray⟩, tv, at', er]) ∧ TokPost B ⟨(edOf l s a c).toArray⟩ (.returned (.tuple #[tv, at', er])) w'
  else e = .returned (.tuple #[.string ⟨#[]⟩, .slice none 0 0, .int .i64 0, .int .i64 1])

theorem oldRow_of {w : World} {B : Nat} {va : Option Addr} {vc n : Nat} {o : List Lx.Tok} (hn : n = o.length) (h : w.ownsRow B 48 5 (.slice va n vc) n (o.flatMap tokCells)) :
    OldRow w va o ∧ n ≤ vc ∧ vc ≤ maxLen ∧ (∀ g off, va = some ⟨g, off, none⟩ → g < w.heap.size) ∧ (0 < vc → ∃ g off, va = some ⟨g, off, none⟩) := by
  subst hn
  rcases h.2 with ⟨h1, h2⟩ | ⟨g, cap, cur, h1, h2, h3, h4, h5, -⟩
  · simp only [Value.slice.injEq] at h1
    obtain ⟨rfl, -, rfl⟩ := h1
    refine ⟨fun j t ht => ?_, by omega, Nat.zero_le _, fun g off e => (by cases e), fun h0 => absurd h0 (Nat.lt_irrefl _)⟩
    have := (List.getElem?_eq_some_iff.1 ht).1
    omega
  · simp only [Value.slice.injEq] at h1
    obtain ⟨rfl, -, rfl⟩ := h1
    refine ⟨fun j t ht => ⟨g, 0, rfl, lt_of_block h3, fun i u hu => ?_⟩, h4, h5, fun g' off e => (by cases e; exact lt_of_block h3), fun _ => ⟨g, 0, rfl⟩⟩
    have h7 := h.cells (g := g) rfl (j * 5 + i) u (flatMap_at tokCells 5 (fun _ => rfl) o j t ht i u hu)
    have e0 : ((⟨g, 0, none⟩ : Addr).add (j * 5 + i)) = ⟨g, 0 + j * 5 + i, none⟩ := by
      unfold Addr.add
      split
      · rename_i h0; simp only [Addr.mk.injEq, true_and, and_true]; omega
      · simp only [Addr.mk.injEq, true_and, and_true]; omega
    rw [← e0]
    exact h7

theorem tokPost_base {B B' : Nat} {t : ByteArray} {e : Ending} {w : World} (h : TokPost B t e w) (hb : B' ≤ B) : TokPost B' t e w := by
  unfold TokPost at h ⊢
  split
  · rename_i h1; rw [if_pos h1] at h; exact h
  · rename_i h1
    rw [if_neg h1] at h
    split
    · rename_i q hq; rw [hq] at h; exact h
    · rename_i hq
      rw [hq] at h
      simp only at h
      split
      · rename_i h2; rw [if_pos h2] at h; exact h
      · rename_i h2
        rw [if_neg h2] at h
        obtain ⟨tv, h3, h4⟩ := h
        exact ⟨tv, h3, owns_base h4 hb⟩

theorem results_tmp4 {fn : Func} {t u v x : Tmp} (h : fn.results = #[.tmp t, .tmp u, .tmp v, .tmp x]) (tmps : Array Value) (P : Program) (w : World) :
    (results fn tmps).run P w = .ok (.tuple #[tmps.getD t undef, tmps.getD u undef, tmps.getD v undef, tmps.getD x undef]) w := by
  simp [results, h]

theorem tokPost_form {B : Nat} {t : ByteArray} {e : Ending} {w : World} (h : TokPost B t e w) : ∃ tv at' er, e = .returned (.tuple #[tv, at', er]) := by
  unfold TokPost at h
  split at h
  · exact ⟨_, _, _, h⟩
  · split at h
    · exact ⟨_, _, _, h⟩
    · split at h
      · exact ⟨_, _, _, h⟩
      · obtain ⟨tv, h1, -⟩ := h
        exact ⟨_, _, _, h1⟩

set_option maxRecDepth 100000 in
set_option maxHeartbeats 1600000 in
theorem change_any (w V : World) (he : Env w) (h7 : 7 ≤ w.heap.size) (hbV : Below w.heap.size w V) (l s : Lx.Bytes) (a c : Int) (v : Value) (la : List ATok) (ra : RowOf V v la) (hla : la.length ≤ 1000000) (hlen : l.length + s.length ≤ 20000) :
    Calls Tryd.prog 13 #[.string ⟨l.toArray⟩, v, .agg #[.int .i64 a, .int .i64 c, .string ⟨s.toArray⟩]] V fun e w' => ChangePost V.heap.size l s la a c e w' ∧ Below w.heap.size w w' ∧ Below V.heap.size V w' := by
  have hcl := toks_count l
  obtain ⟨W, hW⟩ : ∃ W, W = V.alloc (.cells #[.int .i64 a, .int .i64 c, .string ⟨s.toArray⟩] 31) := ⟨_, rfl⟩
  have tW : Turned V W (fun _ => False) := by rw [hW]; exact (Turned.refl V _).alloc _
  have k5 : W.heap[V.heap.size]? = some (.cells #[.int .i64 a, .int .i64 c, .string ⟨s.toArray⟩] 31 (0, 0)) := by rw [hW]; exact heap_alloc_new _ _
  have bVW : Below V.heap.size V W := tW.below (Nat.le_refl _) (fun _ hf => hf.elim)
  have bW : Below w.heap.size w W := hbV.trans (bVW.mono hbV.size)
  have raW : RowOf W v la := ra.turned tW (fun _ _ _ _ hf => hf)
  have hno : ∀ w', ¬ ((Lx.toks l).bad = none ∧ eqB la ((Lx.toks l).toks.map ofTok) = true ∧ withinB a c l.length = true) →
      ChangePost V.heap.size l s la a c (.returned (.tuple #[.string ⟨#[]⟩, .slice none 0 0, .int .i64 0, .int .i64 1])) w' := fun w' h => by
    unfold ChangePost
    rw [if_neg h]
  have Hno := Lib.hid hno
  have HW := Lib.hid hW
  have RaW := Lib.hid raW
  have lV := lt_of_block k5
  have K5 := Lib.hid k5
  clear hno ra raW k5
  cases hbad : (Lx.toks l).bad with
  | some q =>
    have hend := fun w' => Hno.out w' (fun h => by rw [hbad] at h; cases h.1)
    have Hend := Lib.hid hend
    have Hbad := Lib.hid hbad
    clear hend hbad
    go_enter Tryd.func13, Tryd.ntmps13
    go_wp2_with fail
    rw [← HW.out]
    refine (tokens_err w W he h7 bW l (by omega) q Hbad.out).mono ?_
    rintro e w1 ⟨rfl, b1, b1'⟩
    go_wp2
    ((try simp only [Exit.inBlock, Exit.then]); refine bodyPost_ret (results_tmp4 rfl _ _ _) rfl ?_)
    exact ⟨Hend.out _, b1, bVW.trans (b1'.mono bVW.size)⟩
  | none =>
    have Hbad := Lib.hid hbad
    clear hbad
    go_enter Tryd.func13, Tryd.ntmps13
    go_wp2_with fail
    rw [← HW.out]
    refine (tokens_fine w W he h7 bW l (by omega) Hbad.out (by omega)).mono ?_
    rintro e w1 ⟨va, vc, rfl, ho, b1, b1'⟩
    have t1 : Turned W w1 (fun _ => False) := Turned.ofBelow b1' (fun k hk hle => by omega)
    have ra1 := RaW.out.turned t1 (fun _ _ _ _ hf => hf)
    have rb1 := rowOf_owns (l := (Lx.toks l).toks.map ofTok) (v := .slice va (Lx.toks l).toks.length vc) (by rw [List.length_map, flat_ofTok]; exact ho)
    have Ho := Lib.hid ho
    have hEq := equal_any v _ la _ w1 ra1 rb1 hla (by rw [List.length_map]; omega)
    have HEq := Lib.hid hEq
    clear ra1 rb1 ho hEq
    go_wp2_with fail
    refine HEq.out.mono ?_
    rintro e w2 ⟨rfl, t2⟩
    have b2 : Below w.heap.size w w2 := b1.trans (t2.below (B := w.heap.size) b1.size (fun _ hf => hf.elim))
    have b2V : Below V.heap.size V w2 := (bVW.trans (b1'.mono bVW.size)).trans (t2.below (B := V.heap.size) (Nat.le_trans bVW.size b1'.size) (fun _ hf => hf.elim))
    cases heq : eqB la ((Lx.toks l).toks.map ofTok) with
    | false =>
      have hend := fun w' => Hno.out w' (fun h => by rw [heq] at h; cases h.2.1)
      have Hend := Lib.hid hend
      clear hend heq
      go_wp2
      ((try simp only [Exit.inBlock, Exit.then]); refine bodyPost_ret (results_tmp4 rfl _ _ _) rfl ?_)
      exact ⟨Hend.out _, b2, b2V⟩
    | true =>
      have Heq := Lib.hid heq
      have k52 : w2.heap[V.heap.size]? = some (.cells #[.int .i64 a, .int .i64 c, .string ⟨s.toArray⟩] 31 (0, 0)) := ((t1.trans t2 (fun _ _ hf => hf)).block _ lV (fun hf => hf)).trans K5.out
      have c50 : w2.cell? ⟨V.heap.size, 0, none⟩ = some (.int .i64 a) := by simp [World.cell?, k52]
      have c51 : w2.cell? ⟨V.heap.size, 1, none⟩ = some (.int .i64 c) := by simp [World.cell?, k52]
      have c52 : w2.cell? ⟨V.heap.size, 2, none⟩ = some (.string ⟨s.toArray⟩) := by simp [World.cell?, k52]
      have K52 := Lib.hid k52
      clear heq k52
      go_wp2_with fail
      refine (isWithin_any a c l.length ⟨s.toArray⟩ (by omega) w2).mono ?_
      rintro e w3 ⟨rfl, t3⟩
      have b3 : Below w.heap.size w w3 := b2.trans (t3.below (B := w.heap.size) b2.size (fun _ hf => hf.elim))
      have b3V : Below V.heap.size V w3 := b2V.trans (t3.below (B := V.heap.size) b2V.size (fun _ hf => hf.elim))
      cases hwi : withinB a c l.length with
      | false =>
        have hend := fun w' => Hno.out w' (fun h => by rw [hwi] at h; cases h.2.2)
        have Hend := Lib.hid hend
        clear hend hwi
        go_wp2
        ((try simp only [Exit.inBlock, Exit.then]); refine bodyPost_ret (results_tmp4 rfl _ _ _) rfl ?_)
        exact ⟨Hend.out _, b3, b3V⟩
      | true =>
        obtain ⟨h1, h2, h3, h4⟩ : 0 ≤ a ∧ 0 ≤ c ∧ a ≤ l.length ∧ c ≤ l.length - a := of_decide_eq_true hwi
        obtain ⟨A, rfl⟩ : ∃ A : Nat, a = A := ⟨a.toNat, by omega⟩
        obtain ⟨C, rfl⟩ : ∃ C : Nat, c = C := ⟨c.toNat, by omega⟩
        have hAC : A + C ≤ l.length := by omega
        have hed : edOf l s (A : Int) (C : Int) = l.take A ++ s ++ l.drop (A + C) := by simp [edOf]
        have hgood : ∀ tv at' er w', TokPost V.heap.size ⟨(l.take A ++ s ++ l.drop (A + C)).toArray⟩ (.returned (.tuple #[tv, at', er])) w' →
            ChangePost V.heap.size l s la (A : Int) (C : Int) (.returned (.tuple #[.string ⟨(l.take A ++ s ++ l.drop (A + C)).toArray⟩, tv, at', er])) w' := by
          intro tv at' er w' h
          unfold ChangePost
          rw [if_pos ⟨Hbad.out, Heq.out, hwi⟩, hed]
          exact ⟨tv, at', er, rfl, h⟩
        have hrec := fun (U : World) (tU : Turned w3 U (fun _ => False)) => by
          have t1U : Turned w1 U (fun _ => False) := (t2.trans t3 (fun _ _ hf => hf)).trans tU (fun _ _ hf => hf)
          have hb3 := b3.trans (tU.below (B := w.heap.size) b3.size (fun _ hf => hf.elim))
          obtain ⟨g1, g2, g3, g4, g5⟩ := oldRow_of rfl (ownsRow_turned Ho.out t1U (fun _ _ hf => hf))
          exact recut_any U (he.below hb3 h7) (Nat.le_trans h7 hb3.size) l s A C (Lx.toks l).toks rfl Hbad.out hAC hlen va vc g1 g2 g3 g4 g5 (l.take A ++ s ++ l.drop (A + C)) rfl
        have k53 := (t3.block _ (lt_of_block K52.out) (fun hf => hf)).trans K52.out
        have c50' : w3.cell? ⟨V.heap.size, 0, none⟩ = some (.int .i64 (A : Int)) := by simp [World.cell?, k53]
        have c51' : w3.cell? ⟨V.heap.size, 1, none⟩ = some (.int .i64 (C : Int)) := by simp [World.cell?, k53]
        have c52' : w3.cell? ⟨V.heap.size, 2, none⟩ = some (.string ⟨s.toArray⟩) := by simp [World.cell?, k53]
        have hex1 := ext_take l A
        have hex2 := ext_drop l (A + C) l.length rfl
        have hsl : s.length ≤ 20000 := by omega
        have hll : l.length ≤ 20000 := by omega
        have hd1 := fun (w : World) => run_string_add_lists (P := Tryd.prog) w (l.take A) s (by rw [List.length_take]; omega) (by omega)
        have hd2 := fun (w : World) => run_string_add_lists (P := Tryd.prog) w (l.take A ++ s) (l.drop (A + C)) (by rw [List.length_append, List.length_take]; omega) (by rw [List.length_drop]; omega)
        have hs1 : IntKind.i64.wrap ((A : Int) + (C : Int)) = ((A + C : Nat) : Int) := by rw [IntWalk.i64_in _ (by omega)]; omega
        have hi1 : ((A : Nat) : Int) ≤ (l.length : Int) := by omega
        have hi2 : ((A + C : Nat) : Int) ≤ (l.length : Int) := by omega
        have Hgood := Lib.hid hgood
        have Hrec := Lib.hid hrec
        have B3 := Lib.hid b3
        have B3V := Lib.hid b3V
        clear hgood hrec hed hwi k53 h1 h2 h3 h4 c50 c51 c52 b2 b2V b3 b3V
        generalize l.take A ++ s ++ l.drop (A + C) = ED at *
        generalize l.take A ++ s = P12 at *
        generalize l.drop (A + C) = P3 at *
        generalize l.take A = P1 at *
        go_wp2_with fail
        go_quiet (fail)
        go_wp2_with fail
        refine (Hrec.out _ ((Turned.refl _ _).drewN _)).mono ?_
        rintro e w4 ⟨hp, b4⟩
        obtain ⟨tv, at', er, rfl⟩ := tokPost_form hp
        have t4 : Below w3.heap.size w3 w4 := (((Turned.refl w3 (fun _ => False)).drewN nq).below (Nat.le_refl _) (fun _ hf => hf.elim)).trans b4
        have hend := Hgood.out tv at' er w4 (tokPost_base hp B3V.out.size)
        have Hend := Lib.hid hend
        have T4 := Lib.hid t4
        clear hp hend b4 t4
        go_wp2
        ((try simp only [Exit.inBlock, Exit.then]); refine bodyPost_ret (results_tmp4 rfl _ _ _) rfl ?_)
        exact ⟨Hend.out, B3.out.trans (T4.out.mono B3.out.size), B3V.out.trans (T4.out.mono B3V.out.size)⟩
end Go.Proofs.YtinogdeolnldhaaDoor

namespace Go.Proofs.YtinogdeolnldhaaDoor
open Go.RowKit

/-- What Tokens gives of a text, its row read. -/
def tokV (t : Lx.Bytes) : List ATok × Int × Int :=
  if 100000 < t.length then ([], 0, 2) else match (Lx.toks t).bad with
  | some q => ([], q, 10)
  | none => if 20000 < (Lx.toks t).toks.length then ([], 0, 2) else ((Lx.toks t).toks.map ofTok, 0, 0)

theorem nil_row (w : World) : RowOf w (.slice none 0 0) [] := ⟨none, 0, rfl, fun h => absurd rfl h⟩

theorem tokPost_V {B : Nat} {t : Lx.Bytes} {e : Ending} {w : World} (h : TokPost B ⟨t.toArray⟩ e w) :
    ∃ tv, e = .returned (.tuple #[tv, .int .i64 (tokV t).2.1, .int .i64 (tokV t).2.2]) ∧ RowOf w tv (tokV t).1 ∧ (tokV t).1.length ≤ 20000 := by
  unfold TokPost at h
  rw [el_of, es_of] at h
  unfold tokV
  by_cases h1 : 100000 < t.length
  · rw [if_pos h1] at h ⊢
    exact ⟨_, h, nil_row w, by simp⟩
  · rw [if_neg h1] at h ⊢
    cases hq : (Lx.toks t).bad with
    | some q =>
      rw [hq] at h
      exact ⟨_, h, nil_row w, by simp⟩
    | none =>
      rw [hq] at h
      simp only at h ⊢
      by_cases h2 : 20000 < (Lx.toks t).toks.length
      · rw [if_pos h2] at h ⊢
        exact ⟨_, h, nil_row w, by simp⟩
      · rw [if_neg h2] at h ⊢
        obtain ⟨tv, h3, h4⟩ := h
        exact ⟨tv, h3, rowOf_owns (by rw [List.length_map, flat_ofTok]; exact h4), by rw [List.length_map]; omega⟩

/-- What Change gives, its row read. -/
def chV (l s : Lx.Bytes) (la : List ATok) (a c : Int) : Lx.Bytes × List ATok × Int × Int :=
  if (Lx.toks l).bad = none ∧ eqB la ((Lx.toks l).toks.map ofTok) = true ∧ withinB a c l.length = true then (edOf l s a c, tokV (edOf l s a c)) else ([], [], 0, 1)

def ChV (X : Lx.Bytes × List ATok × Int × Int) (e : Ending) (w : World) : Prop :=
  ∃ tv, e = .returned (.tuple #[.string ⟨X.1.toArray⟩, tv, .int .i64 X.2.2.1, .int .i64 X.2.2.2]) ∧ RowOf w tv X.2.1 ∧ X.2.1.length ≤ 20000

theorem changePost_V {B : Nat} {l s : Lx.Bytes} {la : List ATok} {a c : Int} {e : Ending} {w : World} (h : ChangePost B l s la a c e w) : ChV (chV l s la a c) e w := by
  unfold ChangePost at h
  unfold chV
  by_cases hc : (Lx.toks l).bad = none ∧ eqB la ((Lx.toks l).toks.map ofTok) = true ∧ withinB a c l.length = true
  · rw [if_pos hc] at h ⊢
    obtain ⟨tv, at', er, rfl, hp⟩ := h
    obtain ⟨tv2, h2, h3, h4⟩ := tokPost_V hp
    simp only [Ending.returned.injEq, Value.tuple.injEq, Array.mk.injEq, List.cons.injEq, and_true] at h2
    obtain ⟨rfl, rfl, rfl⟩ := h2
    exact ⟨_, rfl, h3, h4⟩
  · rw [if_neg hc] at h ⊢
    exact ⟨_, h, nil_row w, by simp⟩

end Go.Proofs.YtinogdeolnldhaaDoor
