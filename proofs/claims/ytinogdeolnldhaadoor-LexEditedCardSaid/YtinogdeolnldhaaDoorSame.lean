/- Tokens that came from wherever; two of them that are the same but for their places. -/
import Derived.Test.YtinogdeolnldhaaDoorKind
namespace Go.Proofs.YtinogdeolnldhaaDoor
open Go.RowKit

/-- A token, whatever its numbers. -/
structure ATok where
  kind : Int
  n : Int
  s : Lx.Bytes
  at_ : Int
  end_ : Int

def ATok.cells (t : ATok) : List Value := [.int .i64 t.kind, .int .i64 t.n, str t.s, .int .i64 t.at_, .int .i64 t.end_]
def ATok.val (t : ATok) : Value := .agg #[.int .i64 t.kind, .int .i64 t.n, .string ⟨t.s.toArray⟩, .int .i64 t.at_, .int .i64 t.end_]
def ofTok (t : Lx.Tok) : ATok := ⟨t.kind, t.n, t.s, t.at_, t.end_⟩
theorem ofTok_cells (t : Lx.Tok) : (ofTok t).cells = tokCells t := rfl

def ATok.same (a b : ATok) : Bool := a.kind == b.kind && a.n == b.n && a.s == b.s

set_option maxRecDepth 100000 in
set_option maxHeartbeats 800000 in
theorem isSame_any (a b : ATok) (w : World) :
    Calls Tryd.prog 88 #[a.val, b.val] w fun e w' => e = .returned (.bool (a.same b)) ∧ Turned w w' (fun _ => False) := by
  obtain ⟨k1, n1, s1, a1, e1⟩ := a
  obtain ⟨k2, n2, s2, a2, e2⟩ := b
  have hw : ∀ o1 o2, Turned w ((w.alloc o1).alloc o2) (fun _ => False) := fun o1 o2 => ((Turned.refl w _).alloc o1).alloc o2
  have Hw := Lib.hid hw
  clear hw
  unfold ATok.val ATok.same
  simp only
  cases hk : (k1 == k2)
  · go_enter Tryd.func88, Tryd.ntmps88
    go_wp2
    go_ret
    exact ⟨by simp, Hw.out _ _⟩
  · cases hn : (n1 == n2)
    · go_enter Tryd.func88, Tryd.ntmps88
      go_wp2
      go_ret
      exact ⟨by simp, Hw.out _ _⟩
    · go_enter Tryd.func88, Tryd.ntmps88
      go_wp2
      go_ret
      exact ⟨by simp, Hw.out _ _⟩

/-- A slice value that reads as tokens. -/
def RowOf (w : World) (v : Value) (l : List ATok) : Prop :=
  ∃ a cap, v = .slice a l.length cap ∧ (l ≠ [] → ∃ g off, a = some ⟨g, off, none⟩ ∧ g < w.heap.size ∧
    ∀ (j : Nat) (t : ATok), l[j]? = some t → ∀ (i : Nat) (u : Value), t.cells[i]? = some u → w.cell? ⟨g, off + j * 5 + i, none⟩ = some u)

theorem RowOf.turned {w w' : World} {v : Value} {l : List ATok} {D : Nat → Prop} (h : RowOf w v l) (t : Turned w w' D) (hD : ∀ a n c, v = .slice (some a) n c → ¬ D a.block) : RowOf w' v l := by
  obtain ⟨a, cap, hv, hr⟩ := h
  refine ⟨a, cap, hv, fun hne => ?_⟩
  obtain ⟨g, off, ha, hg, hc⟩ := hr hne
  subst ha
  refine ⟨g, off, rfl, Nat.lt_of_lt_of_le hg t.size, fun j x hj i u hu => ?_⟩
  rw [t.cell (p := ⟨g, off + j * 5 + i, none⟩) hg (show ¬ D g from hD ⟨g, off, none⟩ _ _ hv)]
  exact hc j x hj i u hu

theorem flatMap_at {α : Type} (f : α → List Value) (n : Nat) (hf : ∀ x, (f x).length = n) : ∀ (l : List α) (j : Nat) (x : α), l[j]? = some x → ∀ i u, (f x)[i]? = some u → (l.flatMap f)[j * n + i]? = some u
  | [], j, x, h, _, _, _ => by simp at h
  | y :: l, 0, x, h, i, u, hu => by
    simp only [List.getElem?_cons_zero, Option.some.injEq] at h
    subst h
    have hi : i < (f y).length := (List.getElem?_eq_some_iff.1 hu).1
    rw [List.flatMap_cons, Nat.zero_mul, Nat.zero_add, List.getElem?_append_left hi]
    exact hu
  | y :: l, j + 1, x, h, i, u, hu => by
    simp only [List.getElem?_cons_succ] at h
    rw [List.flatMap_cons, List.getElem?_append_right (by rw [hf, Nat.add_mul]; omega)]
    have := flatMap_at f n hf l j x h i u hu
    rw [hf, show (j + 1) * n + i - n = j * n + i by rw [Nat.add_mul]; omega]
    exact this

theorem rowOf_owns {w : World} {B : Nat} {v : Value} {l : List ATok} (h : w.ownsRow B 48 5 v l.length (l.flatMap ATok.cells)) : RowOf w v l := by
  rcases h.2 with ⟨hv, h0⟩ | ⟨g, cap, cur, hv, hb, hg, _⟩
  · exact ⟨none, 0, by rw [hv, h0], fun hne => absurd (List.length_eq_zero_iff.1 h0) hne⟩
  · refine ⟨_, cap, hv, fun _ => ⟨g, 0, rfl, lt_of_block hg, fun j x hj i u hu => ?_⟩⟩
    have h1 := flatMap_at ATok.cells 5 (fun _ => rfl) l j x hj i u hu
    have h2 := h.cells (g := g) (by rw [hv]; rfl) (j * 5 + i) u h1
    have e : ((⟨g, 0, none⟩ : Addr).add (j * 5 + i)) = ⟨g, 0 + j * 5 + i, none⟩ := by
      unfold Addr.add
      split
      · rename_i h5; rw [show 0 + j * 5 + i = 0 by omega]
      · simp
    rw [e] at h2
    exact h2

set_option maxRecDepth 100000 in
set_option maxHeartbeats 1600000 in
theorem equalFunc_any (va vb : Value) (la lb : List ATok) (w : World) (ha : RowOf w va la) (hb : RowOf w vb lb) (hl : la.length ≤ 1000000) (hl2 : lb.length ≤ 1000000) :
    Calls Tryd.prog 87 #[va, vb, .func (.func 88) #[] #[]] w fun e w' =>
      e = .returned (.bool (la.length == lb.length && (la.zip lb).all fun x => x.1.same x.2)) ∧ Turned w w' (fun _ => False) := by
  obtain ⟨aa, ca, rfl, ra⟩ := ha
  obtain ⟨ab, cb, rfl, rb⟩ := hb
  by_cases hne : la.length = lb.length
  · have Hne := Lib.hid hne
    rw [hne]
    clear hne
    go_enter Tryd.func87, Tryd.ntmps87
    go_wp2
    go_loopw [17] (fun i wr => ∃ k : Nat, k ≤ lb.length ∧ i = .int .i64 k ∧ ((la.zip lb).take k).all (fun x => x.1.same x.2) = true ∧ Turned w wr (fun _ => False)) (fun i _ => lb.length - (intOf i).toNat)
    case atStart => exact ⟨0, Nat.zero_le _, rfl, by simp, Turned.refl _ _⟩
    case round =>
      obtain ⟨k, hk, rfl, hall, ht⟩ := hrel
      have Hall := Lib.hid hall
      have Ra := Lib.hid ra
      have Rb := Lib.hid rb
      clear hall ra rb
      by_cases hlt : k < lb.length
      · have hlta : k < la.length := by rw [Hne.out]; exact hlt
        have hki : (k : Int) < (lb.length : Int) := by omega
        obtain ⟨ga, oa, rfl, lga, ca'⟩ := Ra.out (by intro h; subst h; exact absurd hlta (Nat.not_lt_zero _))
        obtain ⟨gb, ob, rfl, lgb, cb'⟩ := Rb.out (by intro h; subst h; exact absurd hlt (Nat.not_lt_zero _))
        have xa := ca' k _ (List.getElem?_eq_getElem hlta)
        have xb := cb' k _ (List.getElem?_eq_getElem hlt)
        have hz : (la.zip lb)[k]? = some (la[k], lb[k]) := List.getElem?_zip_eq_some.2 ⟨List.getElem?_eq_getElem hlta, List.getElem?_eq_getElem hlt⟩
        have hzl : k < (la.zip lb).length := (List.getElem?_eq_some_iff.1 hz).1
        have hzs : ((la.zip lb).take (k + 1)).all (fun x => x.1.same x.2) = la[k].same lb[k] := by
          rw [List.take_succ_eq_append_getElem hzl, List.all_append, Hall.out]
          simp
        have hza : la[k].same lb[k] = false → (la.zip lb).all (fun x => x.1.same x.2) = false := by
          intro h
          rw [List.all_eq_false]
          exact ⟨_, List.mem_of_getElem? hz, by simpa using h⟩
        clear ca' cb' hz hzl
        generalize la[k] = x at *
        generalize lb[k] = y at *
        obtain ⟨k1, n1, s1, a1, e1⟩ := x
        obtain ⟨k2, n2, s2, a2, e2⟩ := y
        have p0 : wr.cell? ⟨ga, oa + k * 5, none⟩ = some (.int .i64 k1) := (ht.cell (p := ⟨ga, oa + k * 5 + 0, none⟩) lga (fun hf => hf)).trans (xa 0 _ rfl)
        have p1 : wr.cell? ⟨ga, oa + k * 5 + 1, none⟩ = some (.int .i64 n1) := (ht.cell (p := ⟨ga, oa + k * 5 + 1, none⟩) lga (fun hf => hf)).trans (xa 1 _ rfl)
        have p2 : wr.cell? ⟨ga, oa + k * 5 + 2, none⟩ = some (.string ⟨s1.toArray⟩) := (ht.cell (p := ⟨ga, oa + k * 5 + 2, none⟩) lga (fun hf => hf)).trans (xa 2 _ rfl)
        have p3 : wr.cell? ⟨ga, oa + k * 5 + 3, none⟩ = some (.int .i64 a1) := (ht.cell (p := ⟨ga, oa + k * 5 + 3, none⟩) lga (fun hf => hf)).trans (xa 3 _ rfl)
        have p4 : wr.cell? ⟨ga, oa + k * 5 + 4, none⟩ = some (.int .i64 e1) := (ht.cell (p := ⟨ga, oa + k * 5 + 4, none⟩) lga (fun hf => hf)).trans (xa 4 _ rfl)
        have q0 : wr.cell? ⟨gb, ob + k * 5, none⟩ = some (.int .i64 k2) := (ht.cell (p := ⟨gb, ob + k * 5 + 0, none⟩) lgb (fun hf => hf)).trans (xb 0 _ rfl)
        have q1 : wr.cell? ⟨gb, ob + k * 5 + 1, none⟩ = some (.int .i64 n2) := (ht.cell (p := ⟨gb, ob + k * 5 + 1, none⟩) lgb (fun hf => hf)).trans (xb 1 _ rfl)
        have q2 : wr.cell? ⟨gb, ob + k * 5 + 2, none⟩ = some (.string ⟨s2.toArray⟩) := (ht.cell (p := ⟨gb, ob + k * 5 + 2, none⟩) lgb (fun hf => hf)).trans (xb 2 _ rfl)
        have q3 : wr.cell? ⟨gb, ob + k * 5 + 3, none⟩ = some (.int .i64 a2) := (ht.cell (p := ⟨gb, ob + k * 5 + 3, none⟩) lgb (fun hf => hf)).trans (xb 3 _ rfl)
        have q4 : wr.cell? ⟨gb, ob + k * 5 + 4, none⟩ = some (.int .i64 e2) := (ht.cell (p := ⟨gb, ob + k * 5 + 4, none⟩) lgb (fun hf => hf)).trans (xb 4 _ rfl)
        have lga' : ga < wr.heap.size := Nat.lt_of_lt_of_le lga ht.size
        have lgb' : gb < wr.heap.size := Nat.lt_of_lt_of_le lgb ht.size
        have Hzs := Lib.hid hzs
        have Hza := Lib.hid hza
        clear xa xb hzs hza
        go_wp2_with fail
        refine (isSame_any ⟨k1, n1, s1, a1, e1⟩ ⟨k2, n2, s2, a2, e2⟩ _).mono ?_
        rintro e w' ⟨rfl, t2⟩
        have t3 : Turned w w' (fun _ => False) := ht.trans (((Turned.refl wr (fun _ => False)).alloc _ |>.alloc _).trans t2 (fun _ _ h => h)) (fun _ _ h => h)
        cases hsm : (⟨k1, n1, s1, a1, e1⟩ : ATok).same ⟨k2, n2, s2, a2, e2⟩
        · have hfin : (lb.length == lb.length && (la.zip lb).all fun x => x.1.same x.2) = false := by rw [Hza.out hsm]; simp
          have Hfin := Lib.hid hfin
          clear hfin p0 p1 p2 p3 p4 q0 q1 q2 q3 q4
          go_wp2
          go_ret
          exact ⟨by rw [Hfin.out]; rfl, t3⟩
        · have hk1 := Hzs.out
          rw [hsm] at hk1
          clear p0 p1 p2 p3 p4 q0 q1 q2 q3 q4
          have Hk1 := Lib.hid hk1
          clear hk1
          go_wp2
          go_roundw
          case rel => exact ⟨k + 1, by omega, by go_num, Hk1.out, t3⟩
          case measure => simp [intOf]; omega
      · obtain rfl : k = lb.length := by omega
        have hfin : (lb.length == lb.length && (la.zip lb).all fun x => x.1.same x.2) = true := by
          have h5 := Hall.out
          rw [List.take_of_length_le (by simp [Hne.out])] at h5
          rw [h5]; simp
        have Hfin := Lib.hid hfin
        clear hfin
        go_wp2
        go_ret
        exact ⟨by rw [Hfin.out]; rfl, ht⟩
  · have hn1 : ((la.length : Int) == (lb.length : Int)) = false := by simpa using fun h => hne (by omega)
    go_enter Tryd.func87, Tryd.ntmps87
    go_wp2
    go_ret
    refine ⟨?_, Turned.refl _ _⟩
    have : (la.length == lb.length) = false := by simpa using hne
    simp [this]
end Go.Proofs.YtinogdeolnldhaaDoor
