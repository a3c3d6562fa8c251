/- Lists of tokens held against each other: like, Same. -/
import Derived.Test.YtinogdeolnldhaaDoorTokS
import Derived.Laws.StructEq
import Derived.Deep.QuietTactic
import Derived.BigQuiet
namespace Go.Proofs.YtinogdeolnldhaaDoor
open Go.RowKit

/-- Whether two lists of tokens are the same but for places. -/
def likeB (la lb : List ATok) : Bool := la.length == lb.length && (la.zip lb).all fun x => x.1.same x.2

set_option maxRecDepth 100000 in
set_option maxHeartbeats 1600000 in
theorem like_all (va vb : Value) (la lb : List ATok) (w : World) (ha : RowOf w va la) (hb : RowOf w vb lb) (hl : la.length ≤ 1000000) (hl2 : lb.length ≤ 1000000) :
    Calls Tryd.prog 12 #[va, vb] w fun e w' => e = .returned (.bool (likeB la lb)) ∧ Turned w w' (fun _ => False) := by
  obtain ⟨aa, ca, rfl, ra⟩ := ha
  obtain ⟨ab, cb, rfl, rb⟩ := hb
  by_cases hne : la.length = lb.length
  · have Hne := Lib.hid hne
    rw [hne]
    clear hne
    go_enter Tryd.func12, Tryd.ntmps12
    go_wp2_with fail
    go_loopw [13] (fun i wr => ∃ k : Nat, k ≤ lb.length ∧ i = .int .i64 k ∧ ((la.zip lb).take k).all (fun x => x.1.same x.2) = true ∧ Turned w wr (fun _ => False)) (fun i _ => lb.length - (intOf i).toNat)
    case atStart => exact ⟨0, Nat.zero_le _, rfl, by simp, Turned.refl _ _⟩
    case round =>
      obtain ⟨k, hk, rfl, hall, ht⟩ := hrel
      have Hall := Lib.hid hall
      have Ra := Lib.hid ra
      have Rb := Lib.hid rb
      clear hall ra rb
      by_cases hlt : k < lb.length
      · have hlta : k < la.length := by rw [Hne.out]; exact hlt
        have hki : (k : Int) < (lb.length : Int) := by omega
        obtain ⟨ga, oa, rfl, lga, ca'⟩ := Ra.out (by intro h; subst h; exact absurd hlta (Nat.not_lt_zero _))
        obtain ⟨gb, ob, rfl, lgb, cb'⟩ := Rb.out (by intro h; subst h; exact absurd hlt (Nat.not_lt_zero _))
        have xa := ca' k _ (List.getElem?_eq_getElem hlta)
        have xb := cb' k _ (List.getElem?_eq_getElem hlt)
        have hz : (la.zip lb)[k]? = some (la[k], lb[k]) := List.getElem?_zip_eq_some.2 ⟨List.getElem?_eq_getElem hlta, List.getElem?_eq_getElem hlt⟩
        have hzl : k < (la.zip lb).length := (List.getElem?_eq_some_iff.1 hz).1
        have hzs : ((la.zip lb).take (k + 1)).all (fun x => x.1.same x.2) = la[k].same lb[k] := by
          rw [List.take_succ_eq_append_getElem hzl, List.all_append, Hall.out]
          simp
        have hza : la[k].same lb[k] = false → likeB la lb = false := by
          intro h
          have : (la.zip lb).all (fun x => x.1.same x.2) = false := by
            rw [List.all_eq_false]
            exact ⟨_, List.mem_of_getElem? hz, by simpa using h⟩
          unfold likeB
          rw [this, Bool.and_false]
        clear ca' cb' hz hzl
        generalize la[k] = x at *
        generalize lb[k] = y at *
        obtain ⟨k1, n1, s1, a1, e1⟩ := x
        obtain ⟨k2, n2, s2, a2, e2⟩ := y
        have lga' : ga < wr.heap.size := Nat.lt_of_lt_of_le lga ht.size
        have lgb' : gb < wr.heap.size := Nat.lt_of_lt_of_le lgb ht.size
        have Sof : ∀ w' : World, Turned wr w' (fun _ => False) → (w'.cell? ⟨ga, oa + k * 5, none⟩ = some (.int .i64 k1) ∧ w'.cell? ⟨ga, oa + k * 5 + 1, none⟩ = some (.int .i64 n1) ∧ w'.cell? ⟨ga, oa + k * 5 + 2, none⟩ = some (.string ⟨s1.toArray⟩) ∧ w'.cell? ⟨ga, oa + k * 5 + 3, none⟩ = some (.int .i64 a1) ∧ w'.cell? ⟨ga, oa + k * 5 + 4, none⟩ = some (.int .i64 e1) ∧
            w'.cell? ⟨gb, ob + k * 5, none⟩ = some (.int .i64 k2) ∧ w'.cell? ⟨gb, ob + k * 5 + 1, none⟩ = some (.int .i64 n2) ∧ w'.cell? ⟨gb, ob + k * 5 + 2, none⟩ = some (.string ⟨s2.toArray⟩) ∧ w'.cell? ⟨gb, ob + k * 5 + 3, none⟩ = some (.int .i64 a2) ∧ w'.cell? ⟨gb, ob + k * 5 + 4, none⟩ = some (.int .i64 e2) ∧ Turned wr w' (fun _ => False)) := by
          intro w' t
          have t2 : Turned w w' (fun _ => False) := ht.trans t (fun _ _ hf => hf)
          have pa := fun (i : Nat) (u : Value) (hu : (ATok.cells ⟨k1, n1, s1, a1, e1⟩)[i]? = some u) => (t2.cell (p := ⟨ga, oa + k * 5 + i, none⟩) lga (fun hf => hf)).trans (xa i u hu)
          have pb := fun (i : Nat) (u : Value) (hu : (ATok.cells ⟨k2, n2, s2, a2, e2⟩)[i]? = some u) => (t2.cell (p := ⟨gb, ob + k * 5 + i, none⟩) lgb (fun hf => hf)).trans (xb i u hu)
          exact ⟨pa 0 _ rfl, pa 1 _ rfl, pa 2 _ rfl, pa 3 _ rfl, pa 4 _ rfl, pb 0 _ rfl, pb 1 _ rfl, pb 2 _ rfl, pb 3 _ rfl, pb 4 _ rfl, t⟩
        have HSof := Lib.hid Sof
        have Hzs := Lib.hid hzs
        have Hza := Lib.hid hza
        have Ht := Lib.hid ht
        have tt : Turned wr wr.drew (fun _ => False) := (Turned.refl wr _).drew
        obtain ⟨p0, p1, p2, p3, p4, q0, q1, q2, q3, q4, _⟩ := Sof wr (Turned.refl _ _)
        clear xa xb hzs hza Sof ht lga lgb
        go_wp2_with fail
        go_region_held3 (fun w' => w'.cell? ⟨ga, oa + k * 5, none⟩ = some (.int .i64 k1) ∧ w'.cell? ⟨ga, oa + k * 5 + 1, none⟩ = some (.int .i64 n1) ∧ w'.cell? ⟨ga, oa + k * 5 + 2, none⟩ = some (.string ⟨s1.toArray⟩) ∧ w'.cell? ⟨ga, oa + k * 5 + 3, none⟩ = some (.int .i64 a1) ∧ w'.cell? ⟨ga, oa + k * 5 + 4, none⟩ = some (.int .i64 e1) ∧
            w'.cell? ⟨gb, ob + k * 5, none⟩ = some (.int .i64 k2) ∧ w'.cell? ⟨gb, ob + k * 5 + 1, none⟩ = some (.int .i64 n2) ∧ w'.cell? ⟨gb, ob + k * 5 + 2, none⟩ = some (.string ⟨s2.toArray⟩) ∧ w'.cell? ⟨gb, ob + k * 5 + 3, none⟩ = some (.int .i64 a2) ∧ w'.cell? ⟨gb, ob + k * 5 + 4, none⟩ = some (.int .i64 e2) ∧ Turned wr w' (fun _ => False))
          ((go_split_ands; first | exact HSof.out _ (by assumption) | exact HSof.out _ (Turned.drew (by assumption)) | exact HSof.out _ (Turned.trans tt t1 (fun _ _ hf => hf))))
          (first
            | (go_at_call 30; go_split_ands; refine (like_any ⟨k1, n1, s1, a1, e1⟩ ⟨k2, n2, s2, a2, e2⟩ _).mono ?_; rintro e w1 ⟨rfl, t1⟩))
        have t3 : Turned w w1 (fun _ => False) := Ht.out.trans (tt.trans t1 (fun _ _ hf => hf)) (fun _ _ hf => hf)
        generalize hsm : (⟨k1, n1, s1, a1, e1⟩ : ATok).same ⟨k2, n2, s2, a2, e2⟩ = sm at *
        have T3 := Lib.hid t3
        have Hsm := Lib.hid hsm
        clear t3 hsm t1 tt p0 p1 p2 p3 p4 q0 q1 q2 q3 q4
        cases sm
        · have hfin := Hza.out rfl
          have Hfin := Lib.hid hfin
          clear hfin
          go_wp2
          go_ret
          rw [Hfin.out]
          exact ⟨rfl, T3.out⟩
        · have hk1 := Hzs.out
          have Hk1 := Lib.hid hk1
          clear hk1
          go_wp2
          go_roundw
          case rel => exact ⟨k + 1, by omega, by go_num, Hk1.out, T3.out⟩
          case measure => simp [intOf]; omega
      · obtain rfl : k = lb.length := by omega
        have hfin : likeB la lb = true := by
          have h5 := Hall.out
          rw [List.take_of_length_le (by simp [Hne.out])] at h5
          unfold likeB
          rw [h5, Hne.out]
          simp
        have Hfin := Lib.hid hfin
        clear hfin
        go_wp2
        go_ret
        rw [Hfin.out]
        exact ⟨rfl, ht⟩
  · have hn1 : ((la.length : Int) == (lb.length : Int)) = false := by rw [Bool.eq_false_iff]; intro e; apply hne; have : (la.length : Int) = lb.length := by simpa using e
                                                                      omega
    have hfin : likeB la lb = false := by
      unfold likeB
      have : (la.length == lb.length) = false := by simpa using hne
      rw [this, Bool.false_and]
    have Hfin := Lib.hid hfin
    clear hfin
    go_enter Tryd.func12, Tryd.ntmps12
    go_wp2
    go_ret
    rw [Hfin.out]
    exact ⟨rfl, Turned.refl _ _⟩

set_option maxRecDepth 100000 in
set_option maxHeartbeats 1600000 in
/-- Two rows with the same tokens. -/
theorem same_yes (va vb : Value) (l : List ATok) (w : World) (ha : RowOf w va l) (hb : RowOf w vb l) (hl : l.length ≤ 1000000) :
    Calls Tryd.prog 14 #[va, vb] w fun e w' => e = .returned (.bool true) ∧ Turned w w' (fun _ => False) := by
  obtain ⟨aa, ca, rfl, ra⟩ := ha
  obtain ⟨ab, cb, rfl, rb⟩ := hb
  have Ra := Lib.hid ra
  have Rb := Lib.hid rb
  clear ra rb
  go_enter Tryd.func14, Tryd.ntmps14
  go_wp2_with fail
  go_loopw [5] (fun i wr => ∃ k : Nat, k ≤ l.length ∧ i = .int .i64 k ∧ Turned w wr (fun _ => False)) (fun i _ => l.length - (intOf i).toNat)
  case atStart => exact ⟨0, Nat.zero_le _, rfl, Turned.refl _ _⟩
  case round =>
    obtain ⟨k, hk, rfl, ht⟩ := hrel
    by_cases hlt : k < l.length
    · have hki : (k : Int) < (l.length : Int) := by omega
      obtain ⟨ga, oa, rfl, lga, ca'⟩ := Ra.out (by intro h; subst h; exact absurd hlt (Nat.not_lt_zero _))
      obtain ⟨gb, ob, rfl, lgb, cb'⟩ := Rb.out (by intro h; subst h; exact absurd hlt (Nat.not_lt_zero _))
      have xa := ca' k _ (List.getElem?_eq_getElem hlt)
      have xb := cb' k _ (List.getElem?_eq_getElem hlt)
      clear ca' cb'
      generalize l[k] = x at *
      obtain ⟨k1, n1, s1, a1, e1⟩ := x
      have pa := fun (i : Nat) (u : Value) (hu : (ATok.cells ⟨k1, n1, s1, a1, e1⟩)[i]? = some u) => (ht.cell (p := ⟨ga, oa + k * 5 + i, none⟩) lga (fun hf => hf)).trans (xa i u hu)
      have pb := fun (i : Nat) (u : Value) (hu : (ATok.cells ⟨k1, n1, s1, a1, e1⟩)[i]? = some u) => (ht.cell (p := ⟨gb, ob + k * 5 + i, none⟩) lgb (fun hf => hf)).trans (xb i u hu)
      have p0 : wr.cell? ⟨ga, oa + k * 5, none⟩ = some (.int .i64 k1) := pa 0 _ rfl
      have p1 : wr.cell? ⟨ga, oa + k * 5 + 1, none⟩ = some (.int .i64 n1) := pa 1 _ rfl
      have p2 : wr.cell? ⟨ga, oa + k * 5 + 2, none⟩ = some (.string ⟨s1.toArray⟩) := pa 2 _ rfl
      have p3 : wr.cell? ⟨ga, oa + k * 5 + 3, none⟩ = some (.int .i64 a1) := pa 3 _ rfl
      have p4 : wr.cell? ⟨ga, oa + k * 5 + 4, none⟩ = some (.int .i64 e1) := pa 4 _ rfl
      have q0 : wr.cell? ⟨gb, ob + k * 5, none⟩ = some (.int .i64 k1) := pb 0 _ rfl
      have q1 : wr.cell? ⟨gb, ob + k * 5 + 1, none⟩ = some (.int .i64 n1) := pb 1 _ rfl
      have q2 : wr.cell? ⟨gb, ob + k * 5 + 2, none⟩ = some (.string ⟨s1.toArray⟩) := pb 2 _ rfl
      have q3 : wr.cell? ⟨gb, ob + k * 5 + 3, none⟩ = some (.int .i64 a1) := pb 3 _ rfl
      have q4 : wr.cell? ⟨gb, ob + k * 5 + 4, none⟩ = some (.int .i64 e1) := pb 4 _ rfl
      have lga' : ga < wr.heap.size := Nat.lt_of_lt_of_le lga ht.size
      have lgb' : gb < wr.heap.size := Nat.lt_of_lt_of_le lgb ht.size
      clear xa xb pa pb lga lgb
      go_wp2_with fail
      go_quiet (fail)
      go_wp2
      go_roundw
      case rel => exact ⟨k + 1, by omega, by go_num, ht.drewN _⟩
      case measure => simp [intOf]; omega
    · obtain rfl : k = l.length := by omega
      go_wp2
      go_ret
      exact ⟨rfl, ht⟩
end Go.Proofs.YtinogdeolnldhaaDoor
