/- Which tokens are right, and which two can stand side by side. -/
import Derived.Test.YtinogdeolnldhaaDoorSpell
namespace Go.Proofs.YtinogdeolnldhaaDoor
open Go.RowKit

def rightB (t : ATok) : Bool := decide ((spell t).length ≤ 32) && cutsInto (spell t) [t]
def apartB (a b : ATok) : Bool := cutsInto (spell a ++ spell b) [a, b]

/-- A scanner that is still there. -/
def Still (B : Nat) (w : World) (S : Scn) (w' : World) : Prop := ∃ S', S'.sb = S.sb ∧ Scan B w' S' ∧ Goes w S w' S'

theorem row_one (W : World) (t : ATok) : RowOf (W.alloc (.cells #[.int .i64 t.kind, .int .i64 t.n, .string ⟨t.s.toArray⟩, .int .i64 t.at_, .int .i64 t.end_] 48)) (.slice (some ⟨W.heap.size, 0, none⟩) 1 1) [t] := by
  refine ⟨_, 1, rfl, fun _ => ⟨W.heap.size, 0, rfl, by simp, fun j x hj i u hu => ?_⟩⟩
  have hj0 : j = 0 := by
    have := (List.getElem?_eq_some_iff.1 hj).1
    simp at this
    exact this
  subst hj0
  simp only [List.getElem?_cons_zero, Option.some.injEq] at hj
  subst hj
  rw [World.cell?, show (W.alloc (.cells #[.int .i64 t.kind, .int .i64 t.n, .string ⟨t.s.toArray⟩, .int .i64 t.at_, .int .i64 t.end_] 48)).heap[W.heap.size]? = _ from heap_alloc_new W _]
  simp only [Option.isSome_none, Bool.false_eq_true, if_false, Nat.zero_mul, Nat.zero_add]
  rw [← Array.getElem?_toList]
  exact hu

theorem row_two (W : World) (a b : ATok) : RowOf (W.alloc (.cells #[.int .i64 a.kind, .int .i64 a.n, .string ⟨a.s.toArray⟩, .int .i64 a.at_, .int .i64 a.end_, .int .i64 b.kind, .int .i64 b.n, .string ⟨b.s.toArray⟩, .int .i64 b.at_, .int .i64 b.end_] 48)) (.slice (some ⟨W.heap.size, 0, none⟩) 2 2) [a, b] := by
  refine ⟨_, 2, rfl, fun _ => ⟨W.heap.size, 0, rfl, by simp, fun j x hj i u hu => ?_⟩⟩
  rw [World.cell?, show (W.alloc (.cells #[.int .i64 a.kind, .int .i64 a.n, .string ⟨a.s.toArray⟩, .int .i64 a.at_, .int .i64 a.end_, .int .i64 b.kind, .int .i64 b.n, .string ⟨b.s.toArray⟩, .int .i64 b.at_, .int .i64 b.end_] 48)).heap[W.heap.size]? = _ from heap_alloc_new W _]
  simp only [Option.isSome_none, Bool.false_eq_true, if_false, Nat.zero_add]
  rw [← Array.getElem?_toList]
  exact flatMap_at ATok.cells 5 (fun _ => rfl) [a, b] j x hj i u hu

theorem Still.mk0 {B : Nat} {w w' : World} {S : Scn} (h : Scan B w S) (t : Turned w w' (fun _ => False)) : Still B w S w' := ⟨S, rfl, h.turned t (fun _ _ hf => hf), ⟨t.mono (fun _ _ hf => hf.elim), fun _ _ h => h⟩⟩

set_option maxRecDepth 100000 in
set_option maxHeartbeats 1600000 in
theorem right_any (B : Nat) (w : World) (S : Scn) (h : Scan B w S) (he : Env w) (h7 : 7 ≤ B) (t : ATok) (hw : t.wide) :
    Calls Tryd.prog 42 #[.pointer (some ⟨S.sb, 0, none⟩), t.val] w fun e w' => e = .returned (.bool (rightB t)) ∧ Still B w S w' := by
  have h8 : 7 ≤ w.heap.size := by have := h.lt; have := h.hB; omega
  have hA : Turned w (w.alloc (.cells #[.int .i64 t.kind, .int .i64 t.n, .string ⟨t.s.toArray⟩, .int .i64 t.at_, .int .i64 t.end_] 48)) (fun _ => False) := (Turned.refl w _).alloc _
  have kA := heap_alloc_new w (.cells #[.int .i64 t.kind, .int .i64 t.n, .string ⟨t.s.toArray⟩, .int .i64 t.at_, .int .i64 t.end_] 48)
  have hsp := fun W (hW : Turned w W (fun _ => False)) => spelling_any t W (he.turned hW h8 (fun _ hf => hf.elim)) (Nat.le_trans h8 hW.size) hw
  have Hsp := Lib.hid hsp
  clear hsp he hw h8
  have hR : rightB t = (decide ((spell t).length ≤ 32) && cutsInto (spell t) [t]) := rfl
  have HR := Lib.hid hR
  clear hR
  unfold ATok.val
  go_enter Tryd.func42, Tryd.ntmps42
  go_wp2_with fail
  generalize w.alloc (.cells #[.int .i64 t.kind, .int .i64 t.n, .string ⟨t.s.toArray⟩, .int .i64 t.at_, .int .i64 t.end_] 48) = W at *
  refine (Hsp.out W hA).mono ?_
  rintro e w1 ⟨rfl, t1⟩
  have lk := lt_of_block kA
  have k1 := (t1.block w.heap.size lk (fun hf => hf)).trans kA
  have tt := hA.trans t1 (fun _ _ hf => hf)
  generalize hs : spell t = l at *
  have Hs := Lib.hid hs
  clear hs
  have s1 := h.turned tt (fun _ _ hf => hf)
  have p0 : w1.cell? ⟨w.heap.size, 0, none⟩ = some (.int .i64 t.kind) := by simp [World.cell?, k1]
  have p1 : w1.cell? ⟨w.heap.size, 1, none⟩ = some (.int .i64 t.n) := by simp [World.cell?, k1]
  have p2 : w1.cell? ⟨w.heap.size, 2, none⟩ = some (.string ⟨t.s.toArray⟩) := by simp [World.cell?, k1]
  have p3 : w1.cell? ⟨w.heap.size, 3, none⟩ = some (.int .i64 t.at_) := by simp [World.cell?, k1]
  have p4 : w1.cell? ⟨w.heap.size, 4, none⟩ = some (.int .i64 t.end_) := by simp [World.cell?, k1]
  generalize w.heap.size = H at *
  by_cases hl : l.length ≤ 32
  · have hli : (l.length : Int) ≤ 32 := by omega
    have r1 := row_one w1 t
    have sA := s1.alloc (.cells #[.int .i64 t.kind, .int .i64 t.n, .string ⟨t.s.toArray⟩, .int .i64 t.at_, .int .i64 t.end_] 48)
    have tA : Turned w1 (w1.alloc (.cells #[.int .i64 t.kind, .int .i64 t.n, .string ⟨t.s.toArray⟩, .int .i64 t.at_, .int .i64 t.end_] 48)) (fun _ => False) := (Turned.refl w1 _).alloc _
    have nS : ¬ S.own w1.heap.size := fun hk => by have := s1.own_lt hk; omega
    go_wp2_with fail
    generalize w1.alloc (.cells #[.int .i64 t.kind, .int .i64 t.n, .string ⟨t.s.toArray⟩, .int .i64 t.at_, .int .i64 t.end_] 48) = V at *
    refine (isCutInto_any B V S sA l (by omega) _ [t] r1 (fun a n c e => by simp only [Value.slice.injEq, Option.some.injEq] at e; rw [← e.1]; exact nS) (by simp)).mono ?_
    rintro e w2 ⟨rfl, S2, hsb, h2, g2⟩
    go_wp2
    go_ret
    refine ⟨?_, S2, hsb, h2, ⟨(tt.trans tA (fun _ _ hf => hf)).mono (fun _ _ hf => hf.elim) |>.trans g2.turned (fun _ _ hk => hk), fun k hk ho => g2.own k (Nat.lt_of_lt_of_le hk (Nat.le_trans tt.size tA.size)) ho⟩⟩
    rw [HR.out]
    simp [hl]
  · have hli : 32 < (l.length : Int) := by omega
    go_wp2
    go_ret
    refine ⟨?_, Still.mk0 h tt⟩
    rw [HR.out]
    simp [hl]

end Go.Proofs.YtinogdeolnldhaaDoor
