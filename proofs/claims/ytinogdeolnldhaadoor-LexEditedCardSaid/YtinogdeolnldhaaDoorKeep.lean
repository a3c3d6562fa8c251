/- A scanner and a builder side by side: each stays while the other works. -/
import Derived.Test.YtinogdeolnldhaaDoorSane
namespace Go.Proofs.YtinogdeolnldhaaDoor
open Go.RowKit

/-- What a builder's writing may turn. -/
def wr8 (w : World) (b : Nat) (k : Nat) : Prop := k = b ∨ ∃ c z, w.heap[k]? = some (.cells c 5 z)

theorem turned_of_kept {B b : Nat} {w w' : World} (bl : Below B w w') (hk : Lib.OthersKept 5 (some b) w w') : Turned w w' (wr8 w b) :=
  ⟨bl.os, bl.tape, bl.output, bl.size, fun k hlt hn => by
    have ho : w.heap[k]? = some w.heap[k] := Array.getElem?_eq_getElem hlt
    rw [ho]
    refine hk k _ ho (fun e => hn (.inl (Option.some.inj e))) (fun c z e => hn (.inr ⟨c, z, ?_⟩))
    rw [ho, e]⟩

/-- A scanner stays while a builder is written. -/
theorem Scan.kept {B B2 b : Nat} {w w' : World} {S : Scn} {c : Array Value} {z : Nat × Nat} (h : Scan B w S) (hb : w.heap[b]? = some (.cells c 75 z)) (bl : Below B2 w w') (hk : Lib.OthersKept 5 (some b) w w') : Scan B w' S := by
  refine h.turned (turned_of_kept bl hk) ?_
  intro k hx hd
  rcases hx with hx | hx | hx | hx
  · rcases hd with rfl | ⟨c2, z2, he⟩
    · exact h.not_own hb (fun c t e => by simp only [Obj.cells.injEq] at e; obtain ⟨_, rfl, _⟩ := e; decide) hx
    · exact h.not_own he (fun c t e => by simp only [Obj.cells.injEq] at e; obtain ⟨_, rfl, _⟩ := e; decide) hx
  · subst hx
    rcases hd with e | ⟨c2, z2, he⟩
    · rw [← e] at hb; exact h.words.not_cells hb
    · exact h.words.not_cells he
  · subst hx
    rcases hd with e | ⟨c2, z2, he⟩
    · rw [← e] at hb; exact h.signs.not_cells hb
    · exact h.signs.not_cells he
  · subst hx
    rcases hd with e | ⟨c2, z2, he⟩
    · rw [← e] at hb; exact h.states.not_cells hb
    · exact h.states.not_cells he

/-- A builder stays while its blocks stay. -/
theorem builderAt_turned {B b : Nat} {p : Value} {bs : List Value} {w w' : World} {D : Nat → Prop} (h : Lib.BuilderAtF 75 5 B b p bs w) (t : Turned w w' D) (hD : ∀ k, wr8 w b k → ¬ D k) : Lib.BuilderAtF 75 5 B b p bs w' := by
  obtain ⟨hB, v, hb, hown, hne⟩ := h
  refine ⟨hB, v, (t.block _ (lt_of_block hb) (hD _ (.inl rfl))).trans hb, ⟨hown.1, ?_⟩, hne⟩
  rcases hown.2 with hn | ⟨g, cap, cur, fz, hv, hbg, hg, rest⟩
  · exact .inl hn
  · exact .inr ⟨g, cap, cur, fz, hv, hbg, (t.block _ (lt_of_block hg) (hD _ (.inr ⟨_, _, hg⟩))).trans hg, rest⟩

/-- A builder stays while a scanner works. -/
theorem builderF_scan {B B2 b : Nat} {bs : List Value} {w w' : World} {S : Scn} (h : Lib.IsBuilderF 75 5 B2 b bs w) (hs : Scan B w S) (t : Turned w w' S.own) : Lib.IsBuilderF 75 5 B2 b bs w' := by
  have hb : ∃ c, w.heap[b]? = some (.cells c 75 (0, 0)) := by
    rcases h with ⟨_, v, hb, _⟩ | ⟨_, v, hb, _⟩ <;> exact ⟨_, hb⟩
  obtain ⟨c, hb⟩ := hb
  have hD : ∀ k, wr8 w b k → ¬ S.own k := by
    intro k hd hx
    rcases hd with rfl | ⟨c2, z2, he⟩
    · exact hs.not_own hb (fun c t e => by simp only [Obj.cells.injEq] at e; obtain ⟨_, rfl, _⟩ := e; decide) hx
    · exact hs.not_own he (fun c t e => by simp only [Obj.cells.injEq] at e; obtain ⟨_, rfl, _⟩ := e; decide) hx
  rcases h with h | h
  · exact .inl (builderAt_turned h t hD)
  · exact .inr (builderAt_turned h t hD)
end Go.Proofs.YtinogdeolnldhaaDoor
