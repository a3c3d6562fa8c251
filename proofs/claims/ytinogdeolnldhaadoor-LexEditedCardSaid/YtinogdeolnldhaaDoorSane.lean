/- The small closures of the law's check of itself. -/
import Derived.Test.YtinogdeolnldhaaDoorShort
namespace Go.Proofs.YtinogdeolnldhaaDoor
open Go.RowKit

set_option maxRecDepth 100000 in
set_option maxHeartbeats 400000 in
theorem sane1_any (s : Lx.Bytes) (w : World) :
    Calls Tryd.prog 22 #[.string ⟨s.toArray⟩] w fun e w' => e = .returned (ATok.val ⟨4, 0, s, 0, 0⟩) ∧ Turned w w' (fun _ => False) := by
  go_enter Tryd.func22, Tryd.ntmps22
  go_wp2
  exact bodyPost_ret (results_cell_row rfl _ _ w.heap.size 48 _ _ _ rfl (heap_alloc_new w _) Tryd.underlying48 rfl (by kernel_rfl)) rfl ⟨rfl, (Turned.refl w _).alloc _⟩

set_option maxRecDepth 100000 in
set_option maxHeartbeats 400000 in
theorem sane2_any (s : Lx.Bytes) (w : World) :
    Calls Tryd.prog 23 #[.string ⟨s.toArray⟩] w fun e w' => e = .returned (ATok.val ⟨5, 0, s, 0, 0⟩) ∧ Turned w w' (fun _ => False) := by
  go_enter Tryd.func23, Tryd.ntmps23
  go_wp2
  exact bodyPost_ret (results_cell_row rfl _ _ w.heap.size 48 _ _ _ rfl (heap_alloc_new w _) Tryd.underlying48 rfl (by kernel_rfl)) rfl ⟨rfl, (Turned.refl w _).alloc _⟩

set_option maxRecDepth 100000 in
set_option maxHeartbeats 400000 in
theorem sane3_any (s : Lx.Bytes) (w : World) :
    Calls Tryd.prog 24 #[.string ⟨s.toArray⟩] w fun e w' => e = .returned (ATok.val ⟨1, 0, s, 0, 0⟩) ∧ Turned w w' (fun _ => False) := by
  go_enter Tryd.func24, Tryd.ntmps24
  go_wp2
  exact bodyPost_ret (results_cell_row rfl _ _ w.heap.size 48 _ _ _ rfl (heap_alloc_new w _) Tryd.underlying48 rfl (by kernel_rfl)) rfl ⟨rfl, (Turned.refl w _).alloc _⟩
end Go.Proofs.YtinogdeolnldhaaDoor
