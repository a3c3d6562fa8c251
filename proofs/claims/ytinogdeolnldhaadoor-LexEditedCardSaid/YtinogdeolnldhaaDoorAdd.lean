/- To throw, and to add a token. -/
import Derived.Test.YtinogdeolnldhaaDoorPass
import Derived.Deep.RegionHeld3
import Derived.Deep.AppendLies
import Derived.Deep.RegionLaw
import Derived.RegionTactic
import Derived.ChangeAlike
import Derived.BigRegion
namespace Go.Proofs.YtinogdeolnldhaaDoor
open Go.RowKit

/-- What is thrown at a byte. -/
def wrongAt (n : Nat) : List PanicEntry := [{ v := .iface 93 (.agg #[.int .i64 n]), recovered := false }]

set_option maxRecDepth 100000 in
set_option maxHeartbeats 400000 in
theorem throw_any (B : Nat) (w : World) (S : Scn) (h : Scan B w S) :
    Calls Tryd.prog 76 #[.pointer (some ⟨S.sb, 0, none⟩)] w fun e w' => e = .panicked (wrongAt S.from_) ∧ w' = w := by
  have c4 := h.c4
  go_enter Tryd.func76, Tryd.ntmps76
  go_wp2
  exact ⟨rfl, rfl, rfl⟩

theorem Tryd.infoTok : (Tryd.prog.info? 48).map (fun i => (i.zero, i.size, i.bytes)) = some (some (.agg #[.int .i64 0, .int .i64 0, .string ⟨#[]⟩, .int .i64 0, .int .i64 0]), 5, 48) := by kernel_rfl

theorem frozen_past {w : World} {o : Obj} {b i : Nat} (h : b < w.heap.size) : (w.alloc o).drew.frozen? ⟨b, i, none⟩ = w.frozen? ⟨b, i, none⟩ :=
  World.frozen?_of_block (w := w) (a := ⟨b, i, none⟩) (Below.heap_alloc w o b h)

theorem cell_past {w : World} {o : Obj} {b i : Nat} (h : b < w.heap.size) : (w.alloc o).drew.cell? ⟨b, i, none⟩ = w.cell? ⟨b, i, none⟩ :=
  World.cell?_of_block (w := w) (a := ⟨b, i, none⟩) (Below.heap_alloc w o b h)

set_option maxRecDepth 100000 in
set_option maxHeartbeats 1600000 in
theorem add_ok (B : Nat) (w : World) (S : Scn) (h : Scan B w S) (t : Lx.Tok) (hl : t.s.length ≤ 32) (hn : (S.toks.length + 1) * 48 ≤ 140737488355328) :
    Calls Tryd.prog 77 #[.pointer (some ⟨S.sb, 0, none⟩), .agg #[.int .i64 t.kind, .int .i64 t.n, str t.s, .int .i64 0, .int .i64 0]] w fun e w' =>
      e = .returned (.tuple #[]) ∧ ∃ v, Scan B w' { S with tv := v, toks := S.toks ++ [{ t with at_ := S.from_, end_ := S.at_ }] } ∧ Goes w S w' { S with tv := v, toks := S.toks ++ [{ t with at_ := S.from_, end_ := S.at_ }] } := by
  obtain ⟨i0, hi0, hz0, hz1, hz2⟩ := info_parts Tryd.infoTok
  have c4 := h.c4
  have c5 := h.c5
  have hle : (t.s.length : Int) ≤ 32 := by omega
  unfold str
  go_enter Tryd.func77, Tryd.ntmps77
  go_wp2
  have hA := h.alloc (.cells #[.int .i64 t.kind, .int .i64 t.n, .string ⟨t.s.toArray⟩, .int .i64 0, .int .i64 0] 48)
  have hG := (Goes.refl w S).alloc (.cells #[.int .i64 t.kind, .int .i64 t.n, .string ⟨t.s.toArray⟩, .int .i64 0, .int .i64 0] 48)
  have hX := heap_alloc_new w (.cells #[.int .i64 t.kind, .int .i64 t.n, .string ⟨t.s.toArray⟩, .int .i64 0, .int .i64 0] 48)
  have hlt : S.sb < w.heap.size := h.lt
  have hfr0 := h.fresh
  have hsz : (w.alloc (.cells #[.int .i64 t.kind, .int .i64 t.n, .string ⟨t.s.toArray⟩, .int .i64 0, .int .i64 0] 48)).heap.size = w.heap.size + 1 := by simp
  generalize w.alloc (.cells #[.int .i64 t.kind, .int .i64 t.n, .string ⟨t.s.toArray⟩, .int .i64 0, .int .i64 0] 48) = W at *
  generalize hHe : w.heap.size = H at *
  have hfr : ∀ k, S.own k ∨ k = S.mw ∨ k = S.ms ∨ k = S.mst → k < H := fun k hk => by have := hfr0 k hk; omega
  have HHe := Lib.hid hHe
  clear hHe hfr0
  have Hsz := Lib.hid hsz
  clear c4 c5 hsz h
  have d4 := hA.c4
  have d5 := hA.c5
  have d6 := hA.c6
  have b3 : W.cell? ⟨H, 3, none⟩ = some (.int .i64 0) := by simp [World.cell?, hX]
  have b4 : W.cell? ⟨H, 4, none⟩ = some (.int .i64 0) := by simp [World.cell?, hX]
  have z3 : W.frozen? ⟨H, 3, none⟩ = false := by simp [World.frozen?, hX]
  have z4 : W.frozen? ⟨H, 4, none⟩ = false := by simp [World.frozen?, hX]
  go_region
  go_wp2_with fail
  have t2 : Turned W (((W.setCell ⟨H, 3, none⟩ (.int .i64 S.from_)).setCell ⟨H, 4, none⟩ (.int .i64 S.at_)).drew) (fun k => k = H) :=
    ((Turned.setCell (Turned.setCell (Turned.refl W (fun k => k = H)) (p := ⟨H, 3, none⟩) (fun _ => rfl) _) (p := ⟨H, 4, none⟩) (fun _ => rfl) _)).drew
  have hS2 := hA.turned t2 (fun k hk e => by have := hfr k hk; omega)
  have hG2 : Goes w S (((W.setCell ⟨H, 3, none⟩ (.int .i64 S.from_)).setCell ⟨H, 4, none⟩ (.int .i64 S.at_)).drew) S := ⟨hG.turned.trans t2 (fun k hk e => by have := HHe.out; omega), hG.own⟩
  have hX2 : (((W.setCell ⟨H, 3, none⟩ (.int .i64 S.from_)).setCell ⟨H, 4, none⟩ (.int .i64 S.at_)).drew).heap[H]? = some (.cells #[.int .i64 t.kind, .int .i64 t.n, .string ⟨t.s.toArray⟩, .int .i64 S.from_, .int .i64 S.at_] 48 (0, 0)) := by
    simp [World.drew, World.setCell, Array.getElem?_modify, hX]
  have hsz2 : (((W.setCell ⟨H, 3, none⟩ (.int .i64 S.from_)).setCell ⟨H, 4, none⟩ (.int .i64 S.at_)).drew).heap.size = H + 1 := by
    simp [World.drew, World.setCell, Hsz.out]
  generalize (((W.setCell ⟨H, 3, none⟩ (.int .i64 S.from_)).setCell ⟨H, 4, none⟩ (.int .i64 S.at_)).drew) = V at *
  have Hsz2 := Lib.hid hsz2
  clear d4 d5 d6 b3 b4 z3 z4 hX hA t2 hG hsz2 Hsz
  have d6 := hS2.c6
  have f6 := hS2.frozenAt 6
  have hH : H < V.heap.size := by have := Hsz2.out; omega
  have e0 : V.cell? ⟨H, 0, none⟩ = some (.int .i64 t.kind) := by simp [World.cell?, hX2]
  have e1 : V.cell? ⟨H, 1, none⟩ = some (.int .i64 t.n) := by simp [World.cell?, hX2]
  have e2 : V.cell? ⟨H, 2, none⟩ = some (.string ⟨t.s.toArray⟩) := by simp [World.cell?, hX2]
  have e3 : V.cell? ⟨H, 3, none⟩ = some (.int .i64 S.from_) := by simp [World.cell?, hX2]
  have e4 : V.cell? ⟨H, 4, none⟩ = some (.int .i64 S.at_) := by simp [World.cell?, hX2]
  have hown := hS2.toks
  have hBH : B ≤ V.heap.size := by have := hS2.hB; have := hS2.lt; omega
  have hmax : S.toks.length + 1 ≤ maxLen := by unfold maxLen; omega
  have htl : ∀ g, S.tv.ownBlock = some g → g < H := fun g hg => hfr g (.inl (.inr (.inl hg)))
  have hbH : some H ≠ S.tv.ownBlock := fun e => by have := htl H e.symm; omega
  have hlS : S.sb < V.heap.size := hS2.lt
  have hbsb : some S.sb ≠ S.tv.ownBlock := by
    intro e
    obtain ⟨_, c, hc⟩ := ownsRow_tag hown e.symm
    have := hS2.block
    rw [hc] at this
    simp at this
  go_region_law
    ((refine step_append_lies _ (by rfl) _ _ _ (by rfl) B 48 i0 _ 5 48 Tryd.underlying24 hi0 hz0 hz1 hz2 rfl (by omega) S.tv S.toks.length _ (by rfl) ((hown.alloc _).drew)
        ⟨V.heap.size, 0, none⟩ 1 1 [.int .i64 t.kind, .int .i64 t.n, .string ⟨t.s.toArray⟩, .int .i64 S.from_, .int .i64 S.at_] (by rfl) (by rfl) (World.news_of_block (cs := #[.int .i64 t.kind, .int .i64 t.n, .string ⟨t.s.toArray⟩, .int .i64 S.from_, .int .i64 S.at_]) (t := 48) (fr := (0, 0)) (heap_alloc_new V _)) (by simp [Value.oneCell'])
        (by omega) hmax hn (by simp; omega) (V.heap.size + 1) (by simp) ?_; intro gg cap w1 hown1 hgrow hat hlt; have f6' : w1.frozen? ⟨S.sb, 6, none⟩ = false := (hgrow.frozen_far _ (by simp; omega) hbsb).trans ((frozen_past hlS).trans f6); have c6' : w1.cell? ⟨S.sb, 6, none⟩ = some S.tv := (hgrow.cell_far _ (by simp; omega) hbsb).trans ((cell_past hlS).trans d6)))
  all_goals
    go_wp2
    go_end0
    have hlist : (S.toks ++ [({ t with at_ := S.from_, end_ := S.at_ } : Lx.Tok)]).flatMap tokCells = S.toks.flatMap tokCells ++ [.int .i64 t.kind, .int .i64 t.n, .string ⟨t.s.toArray⟩, .int .i64 S.from_, .int .i64 S.at_] := by
      simp [List.flatMap_append, tokCells, str]
    have t1 : Turned V w1 (fun k => S.tv.ownBlock = some k) := Turned.grown (((Turned.refl V _).alloc _).drew) hgrow (fun k _ hk => hk)
    refine ⟨rfl, .slice (some ⟨gg, 0, none⟩) (S.toks.length + 1) cap, ?_, ?_, ?_⟩
    · refine hS2.appendToks t1 _ _ ?_
      rw [hlist, List.length_append]
      exact hown1
    · exact (hG2.turned.trans t1 (fun k hk e => hG2.own k hk (.inr (.inl e)))).setCell (p := ⟨S.sb, 6, none⟩) (fun _ => .inl rfl) _
    · rintro k hk (e | e | e)
      · exact .inl e
      · have e' : gg = k := by simpa [Value.ownBlock] using e
        subst e'
        rcases hat with ha | ha
        · exact .inr (.inl ha)
        · have := HHe.out; have := Hsz2.out; omega
      · exact .inr (.inr e)
end Go.Proofs.YtinogdeolnldhaaDoor
