/- What is deferred by a cut: it recovers what a state has thrown. -/
import Derived.Test.YtinogdeolnldhaaDoorBegin
import Derived.Defers
import Derived.Recover
namespace Go.Proofs.YtinogdeolnldhaaDoor
open Go.RowKit

theorem run_assert_held (n : Int) (w : World) : (Instr.typeAssert (.iface 93 (.agg #[.int .i64 n])) 20 93 true).run Tryd.prog w = .ok (.tuple #[.agg #[.int .i64 n], .bool true]) w := by
  simp [Instr.typeAssert, run_underlying Tryd.underlying93, Result.andThen]
theorem run_assert_nil (w : World) : (Instr.typeAssert .nilIface 20 93 true).run Tryd.prog w = .ok (.tuple #[.agg #[.int .i64 0], .bool false]) w := by kernel_rfl

set_option maxRecDepth 100000 in
set_option maxHeartbeats 1600000 in
theorem catch_panicking (ba be : Nat) (n : Nat) (older : List PanicEntry) (w : World) (ha : w.heap[ba]? = some (.cells #[.int .i64 0] 3 (0, 0))) (hb : w.heap[be]? = some (.cells #[.int .i64 0] 25 (0, 0))) :
    CallsD Tryd.prog 65 #[.pointer (some ⟨ba, 0, none⟩), .pointer (some ⟨be, 0, none⟩)] (.panicking ({ v := .iface 93 (.agg #[.int .i64 n]), recovered := false } :: older)) w fun e u' w' =>
      e = .returned (.tuple #[]) ∧ u' = .panicking ({ v := .iface 93 (.agg #[.int .i64 n]), recovered := true } :: older) ∧
        w'.heap[ba]? = some (.cells #[.int .i64 n] 3 (0, 0)) ∧ w'.heap[be]? = some (.cells #[.int .i64 10] 25 (0, 0)) ∧ Turned w w' (fun k => k = ba ∨ k = be) := by
  refine callsD_of_wpS Tryd.func65 rfl fun c₀ cs hu => ?_
  apply wpS_seq
  apply wpS_region
  simp [wpOpsS, go_sem, recoverD, hu, Tryd.ntmps65, Exit.thenS, run_assert_held]
  have la := lt_of_block ha
  have lb := lt_of_block hb
  have hab : ba ≠ be := by intro e; subst e; rw [ha] at hb; simp at hb
  have tA : Turned w (w.alloc (.cells #[.int .i64 n] 93)) (fun k => k = ba ∨ k = be) := (Turned.refl _ _).alloc _
  have wa : (w.alloc (.cells #[.int .i64 n] 93)).heap[ba]? = some (.cells #[.int .i64 0] 3 (0, 0)) := (Below.heap_alloc w _ _ la).trans ha
  have wb : (w.alloc (.cells #[.int .i64 n] 93)).heap[be]? = some (.cells #[.int .i64 0] 25 (0, 0)) := (Below.heap_alloc w _ _ lb).trans hb
  have wx : (w.alloc (.cells #[.int .i64 n] 93)).heap[w.heap.size]? = some (.cells #[.int .i64 n] 93 (0, 0)) := heap_alloc_new w _
  generalize w.alloc (.cells #[.int .i64 n] 93) = W at *
  have ca : W.cell? ⟨ba, 0, none⟩ = some (.int .i64 0) := by simp [World.cell?, wa]
  have cb : W.cell? ⟨be, 0, none⟩ = some (.int .i64 0) := by simp [World.cell?, wb]
  have cx : W.cell? ⟨w.heap.size, 0, none⟩ = some (.int .i64 n) := by simp [World.cell?, wx]
  have fa : W.frozen? ⟨ba, 0, none⟩ = false := by simp [World.frozen?, wa]
  have fb : W.frozen? ⟨be, 0, none⟩ = false := by simp [World.frozen?, wb]
  apply wpS_seq
  apply wpS_region
  simp [wpOpsS, go_sem, Exit.thenS]
  refine wpS_cond (t := true) (by simp [Act.eval, Array.replicate]) ?_
  simp only [if_true]
  apply wpS_region
  simp [wpOpsS, go_sem, ca, cb, cx, fa, fb, Array.replicate]
  have r1 : ((W.setCell ⟨ba, 0, none⟩ (.int .i64 n)).setCell ⟨be, 0, none⟩ (.int .i64 10)).heap[ba]? = some (.cells #[.int .i64 n] 3 (0, 0)) := by
    rw [Below.heap_setCell _ _ _ _ hab, setCell_block wa]; rfl
  have r2 : ((W.setCell ⟨ba, 0, none⟩ (.int .i64 n)).setCell ⟨be, 0, none⟩ (.int .i64 10)).heap[be]? = some (.cells #[.int .i64 10] 25 (0, 0)) := by
    rw [setCell_block (c := #[.int .i64 0]) (t := 25) (z := (0, 0)) (by rw [Below.heap_setCell _ _ _ _ (Ne.symm hab)]; exact wb)]; rfl
  have t2 := (tA.setCell (p := ⟨ba, 0, none⟩) (fun _ => .inl rfl) (.int .i64 n)).setCell (p := ⟨be, 0, none⟩) (fun _ => .inr rfl) (.int .i64 10)
  simp [bodyPostS, results, Tryd.results65, r1, r2, t2]

set_option maxRecDepth 100000 in
set_option maxHeartbeats 1600000 in
theorem catch_idle (pa pe : Addr) (w : World) :
    CallsD Tryd.prog 65 #[.pointer (some pa), .pointer (some pe)] .returning w fun e u' w' => e = .returned (.tuple #[]) ∧ u' = .returning ∧ Turned w w' (fun _ => False) := by
  refine callsD_of_wpS Tryd.func65 rfl fun c₀ cs hu => ?_
  apply wpS_seq
  apply wpS_region
  simp [wpOpsS, go_sem, recoverD, hu, Tryd.ntmps65, Exit.thenS, run_assert_nil]
  have tA : Turned w (w.alloc (.cells #[.int .i64 0] 93)) (fun _ => False) := (Turned.refl _ _).alloc _
  generalize w.alloc (.cells #[.int .i64 0] 93) = W at *
  apply wpS_seq
  apply wpS_region
  simp [wpOpsS, go_sem, Exit.thenS]
  refine wpS_cond (t := false) (by simp [Act.eval, Array.replicate]) ?_
  simp only [Bool.false_eq_true, if_false]
  refine wpS_of_wp (wp_skip ?_)
  cases c₀
  simp_all [bodyPostS, results, Tryd.results65]
end Go.Proofs.YtinogdeolnldhaaDoor
