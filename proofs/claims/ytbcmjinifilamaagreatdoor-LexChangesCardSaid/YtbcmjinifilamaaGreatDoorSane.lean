/- The small closures of the law's check of itself. -/
import Derived.Test.YtbcmjinifilamaaGreatDoorShort
namespace Go.Proofs.YtbcmjinifilamaaGreatDoor
open Go.RowKit

set_option maxRecDepth 100000 in
set_option maxHeartbeats 400000 in
theorem sane1_any (s : Lx.Bytes) (w : World) :
    Calls Tryz.prog 39 #[.string ⟨s.toArray⟩] w fun e w' => e = .returned (ATok.val ⟨4, 0, s, 0, 0⟩) ∧ Turned w w' (fun _ => False) := by
  go_enter Tryz.func39, Tryz.ntmps39
  go_wp2
  exact bodyPost_ret (results_cell_row rfl _ _ w.heap.size 43 _ _ _ rfl (heap_alloc_new w _) Tryz.underlying43 rfl (by kernel_rfl)) rfl ⟨rfl, (Turned.refl w _).alloc _⟩

set_option maxRecDepth 100000 in
set_option maxHeartbeats 400000 in
theorem sane2_any (s : Lx.Bytes) (w : World) :
    Calls Tryz.prog 40 #[.string ⟨s.toArray⟩] w fun e w' => e = .returned (ATok.val ⟨5, 0, s, 0, 0⟩) ∧ Turned w w' (fun _ => False) := by
  go_enter Tryz.func40, Tryz.ntmps40
  go_wp2
  exact bodyPost_ret (results_cell_row rfl _ _ w.heap.size 43 _ _ _ rfl (heap_alloc_new w _) Tryz.underlying43 rfl (by kernel_rfl)) rfl ⟨rfl, (Turned.refl w _).alloc _⟩

set_option maxRecDepth 100000 in
set_option maxHeartbeats 400000 in
theorem sane3_any (s : Lx.Bytes) (w : World) :
    Calls Tryz.prog 41 #[.string ⟨s.toArray⟩] w fun e w' => e = .returned (ATok.val ⟨1, 0, s, 0, 0⟩) ∧ Turned w w' (fun _ => False) := by
  go_enter Tryz.func41, Tryz.ntmps41
  go_wp2
  exact bodyPost_ret (results_cell_row rfl _ _ w.heap.size 43 _ _ _ rfl (heap_alloc_new w _) Tryz.underlying43 rfl (by kernel_rfl)) rfl ⟨rfl, (Turned.refl w _).alloc _⟩
end Go.Proofs.YtbcmjinifilamaaGreatDoor
