/- To begin with a text; the result of a cut. -/
import Derived.Test.YtinogdeolnldhaaDoorMake
namespace Go.Proofs.YtinogdeolnldhaaDoor
open Go.RowKit

/-- A scanner that has not begun yet to cut a text. -/
def Scn.fresh (S : Scn) (t : ByteArray) : Scn := { S with text := t, from_ := 0, at_ := 0, tv := .slice none 0 0, toks := [], cv := .slice none 0 0, coms := [] }

set_option maxRecDepth 100000 in
set_option maxHeartbeats 800000 in
theorem begin_any (B : Nat) (w : World) (S : Scn) (h : Scan B w S) (t : ByteArray) :
    Calls Tryd.prog 38 #[.pointer (some ⟨S.sb, 0, none⟩), .string t] w fun e w' => e = .returned (.tuple #[]) ∧ Scan B w' (S.fresh t) ∧ Goes w S w' (S.fresh t) := by
  have c3 := h.c3
  have c4 := h.c4
  have c5 := h.c5
  have c6 := h.c6
  have c7 := h.c7
  have f3 := h.frozenAt 3
  have f4 := h.frozenAt 4
  have f5 := h.frozenAt 5
  have f6 := h.frozenAt 6
  have f7 := h.frozenAt 7
  go_enter Tryd.func38, Tryd.ntmps38
  go_wp2
  go_end0
  have r1 := h.setText t
  have r2 := r1.setFrom 0
  have r3 := r2.setAt 0
  have r4 := r3.setToks (.slice none 0 0) [] (World.ownsRow_nil _ _ _ _)
  have r5 := r4.setComs (.slice none 0 0) [] (World.ownsRow_nil _ _ _ _)
  have g1 := Goes.setText w S t
  have g2 := g1.stored rfl 4 (.int .i64 (0 : Nat)) { S with text := t, from_ := 0 } (fun _ _ h => h)
  have g3 := g2.stored rfl 5 (.int .i64 (0 : Nat)) { S with text := t, from_ := 0, at_ := 0 } (fun _ _ h => h)
  have g4 := g3.stored rfl 6 (.slice none 0 0) { S with text := t, from_ := 0, at_ := 0, tv := .slice none 0 0, toks := [] } (fun k _ h => by
    rcases h with h | h | h
    · exact .inl h
    · simp [Value.ownBlock] at h
    · exact .inr (.inr h))
  have g5 := g4.stored rfl 7 (.slice none 0 0) (S.fresh t) (fun k _ h => by
    rcases h with h | h | h
    · exact .inl h
    · simp [Value.ownBlock, Scn.fresh] at h
    · simp [Value.ownBlock, Scn.fresh] at h)
  exact ⟨rfl, r5, g5⟩

set_option maxRecDepth 100000 in
set_option maxHeartbeats 800000 in
theorem result_bad (sb : Nat) (w : World) (n : Nat) :
    Calls Tryd.prog 57 #[.pointer (some ⟨sb, 0, none⟩), .int .i64 n, .int .i64 10] w fun e w' => e = .returned (.tuple #[.slice none 0 0, .int .i64 n, .int .i64 10]) ∧ w' = w := by
  go_enter Tryd.func57, Tryd.ntmps57
  go_wp2
  go_ret3
  exact ⟨rfl, rfl⟩

theorem tv_form {B : Nat} {w : World} {S : Scn} (h : Scan B w S) : ∃ a c, S.tv = .slice a S.toks.length c := by
  rcases h.toks.2 with ⟨h1, h2⟩ | ⟨g, cap, cur, h1, _⟩
  · exact ⟨none, 0, by rw [h1, h2]⟩
  · exact ⟨_, cap, h1⟩

set_option maxRecDepth 100000 in
set_option maxHeartbeats 800000 in
theorem result_ok (B : Nat) (w : World) (S : Scn) (h : Scan B w S) (hn : S.toks.length ≤ 20000) :
    Calls Tryd.prog 57 #[.pointer (some ⟨S.sb, 0, none⟩), .int .i64 0, .int .i64 0] w fun e w' => e = .returned (.tuple #[S.tv, .int .i64 0, .int .i64 0]) ∧ w' = w := by
  have c6 := h.c6
  obtain ⟨a, c, hv⟩ := tv_form h
  rw [hv] at c6 ⊢
  have hi : (S.toks.length : Int) ≤ 20000 := by omega
  go_enter Tryd.func57, Tryd.ntmps57
  go_wp2
  go_ret3
  exact ⟨rfl, rfl⟩

set_option maxRecDepth 100000 in
set_option maxHeartbeats 800000 in
theorem result_many (B : Nat) (w : World) (S : Scn) (h : Scan B w S) (hn : 20000 < S.toks.length) :
    Calls Tryd.prog 57 #[.pointer (some ⟨S.sb, 0, none⟩), .int .i64 0, .int .i64 0] w fun e w' => e = .returned (.tuple #[.slice none 0 0, .int .i64 0, .int .i64 2]) ∧ w' = w := by
  have c6 := h.c6
  obtain ⟨a, c, hv⟩ := tv_form h
  rw [hv] at c6
  have hi : 20000 < (S.toks.length : Int) := by omega
  go_enter Tryd.func57, Tryd.ntmps57
  go_wp2
  go_ret3
  exact ⟨rfl, rfl⟩
end Go.Proofs.YtinogdeolnldhaaDoor
