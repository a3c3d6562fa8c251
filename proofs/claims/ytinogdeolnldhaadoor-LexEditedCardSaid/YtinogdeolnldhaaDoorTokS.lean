/- What Tokens and the other functions answer, as the laws want it. -/
import Derived.Test.YtinogdeolnldhaaDoorSaneAll
import Derived.Test.YtinogdeolnldhaaDoorPure
namespace Go.Proofs.YtinogdeolnldhaaDoor
open Go.RowKit

theorem tokens_fine (w V : World) (he : Env w) (h7 : 7 ≤ w.heap.size) (hb : Below w.heap.size w V) (l : Lx.Bytes) (hl : l.length ≤ 100000) (hbad : (Lx.toks l).bad = none) (hc : (Lx.toks l).toks.length ≤ 20000) :
    Calls Tryd.prog 10 #[.string ⟨l.toArray⟩] V fun e w' => ∃ va vc, e = .returned (.tuple #[.slice va (Lx.toks l).toks.length vc, .int .i64 0, .int .i64 0]) ∧
      w'.ownsRow V.heap.size 48 5 (.slice va (Lx.toks l).toks.length vc) (Lx.toks l).toks.length ((Lx.toks l).toks.flatMap tokCells) ∧ Below w.heap.size w w' ∧ Below V.heap.size V w' := by
  refine (tokens_any V (he.below hb h7) (Nat.le_trans h7 hb.size) ⟨l.toArray⟩).mono ?_
  rintro e w' ⟨hp, hb2⟩
  unfold TokPost at hp
  rw [el_of, es_of, if_neg (by omega), hbad] at hp
  simp only at hp
  rw [if_neg (by omega)] at hp
  obtain ⟨tv, rfl, ho⟩ := hp
  rcases ho.2 with ⟨h1, h2⟩ | ⟨g, cap, cur, h1, _⟩
  · rw [h1, h2] at ho ⊢
    exact ⟨none, 0, rfl, ho, hb.trans (hb2.mono hb.size), hb2⟩
  · rw [h1] at ho ⊢
    exact ⟨_, cap, rfl, ho, hb.trans (hb2.mono hb.size), hb2⟩

theorem tokens_err (w V : World) (he : Env w) (h7 : 7 ≤ w.heap.size) (hb : Below w.heap.size w V) (l : Lx.Bytes) (hl : l.length ≤ 100000) (q : Nat) (hbad : (Lx.toks l).bad = some q) :
    Calls Tryd.prog 10 #[.string ⟨l.toArray⟩] V fun e w' => e = .returned (.tuple #[.slice none 0 0, .int .i64 q, .int .i64 10]) ∧ Below w.heap.size w w' ∧ Below V.heap.size V w' := by
  refine (tokens_any V (he.below hb h7) (Nat.le_trans h7 hb.size) ⟨l.toArray⟩).mono ?_
  rintro e w' ⟨hp, hb2⟩
  unfold TokPost at hp
  rw [el_of, es_of, if_neg (by omega), hbad] at hp
  exact ⟨hp, hb.trans (hb2.mono hb.size), hb2⟩

theorem tokens_many (w V : World) (he : Env w) (h7 : 7 ≤ w.heap.size) (hb : Below w.heap.size w V) (l : Lx.Bytes) (hl : l.length ≤ 100000) (hbad : (Lx.toks l).bad = none) (hc : 20000 < (Lx.toks l).toks.length) :
    Calls Tryd.prog 10 #[.string ⟨l.toArray⟩] V fun e w' => e = .returned (.tuple #[.slice none 0 0, .int .i64 0, .int .i64 2]) ∧ Below w.heap.size w w' ∧ Below V.heap.size V w' := by
  refine (tokens_any V (he.below hb h7) (Nat.le_trans h7 hb.size) ⟨l.toArray⟩).mono ?_
  rintro e w' ⟨hp, hb2⟩
  unfold TokPost at hp
  rw [el_of, es_of, if_neg (by omega), hbad] at hp
  simp only at hp
  rw [if_pos hc] at hp
  exact ⟨hp, hb.trans (hb2.mono hb.size), hb2⟩

theorem tokens_some (w V : World) (he : Env w) (h7 : 7 ≤ w.heap.size) (hb : Below w.heap.size w V) (l : Lx.Bytes) :
    Calls Tryd.prog 10 #[.string ⟨l.toArray⟩] V fun e w' => ∃ v0 v1 v2, e = .returned (.tuple #[v0, v1, v2]) ∧ Below w.heap.size w w' ∧ Below V.heap.size V w' := by
  refine (tokens_any V (he.below hb h7) (Nat.le_trans h7 hb.size) ⟨l.toArray⟩).mono ?_
  rintro e w' ⟨hp, hb2⟩
  unfold TokPost at hp
  have hv : ∃ v0 v1 v2, e = .returned (.tuple #[v0, v1, v2]) := by
    split at hp
    · exact ⟨_, _, _, hp⟩
    · split at hp
      · exact ⟨_, _, _, hp⟩
      · split at hp
        · exact ⟨_, _, _, hp⟩
        · obtain ⟨tv, hp, _⟩ := hp
          exact ⟨_, _, _, hp⟩
  obtain ⟨v0, v1, v2, rfl⟩ := hv
  exact ⟨v0, v1, v2, rfl, hb.trans (hb2.mono hb.size), hb2⟩

/-- Whether texts are short. -/
theorem shortK (w V : World) (hb : Below w.heap.size w V) (L : List Lx.Bytes) (n : Nat) (r : Bool) (hn : L.length = n) (hn2 : n ≤ 1000) (hl : ∀ s ∈ L, s.length ≤ 140737488351232) (hr : decide (sumLen L ≤ 20000) = r) :
    Calls Tryd.prog 9 #[.slice (some ⟨V.heap.size, 0, none⟩) n n] (V.alloc (.cells (L.map str).toArray 9)) fun e w' => e = .returned (.bool r) ∧ Below w.heap.size w w' := by
  have hb2 := hb.alloc hb.size (.cells (L.map str).toArray 9)
  have k2 := heap_alloc_new V (.cells (L.map str).toArray 9)
  generalize V.alloc (.cells (L.map str).toArray 9) = V2 at *
  refine (short_any V.heap.size n L V2 hn hn2 (lt_of_block k2) hl (fun j hj => words_at k2 j (by rw [hn]; exact hj))).mono ?_
  rintro e w' ⟨h1, h2⟩
  rw [hr] at h1
  exact ⟨h1, hb2.trans (h2.below hb2.size (fun _ hf => hf.elim))⟩

theorem sum2 (a b : Lx.Bytes) : sumLen [a, b] = a.length + b.length := by simp [sumLen]
theorem sum1 (a : Lx.Bytes) : sumLen [a] = a.length := by simp [sumLen]
theorem sum3 (a b c : Lx.Bytes) : sumLen [a, b, c] = a.length + (b.length + c.length) := by simp [sumLen]

theorem toks_count (l : Lx.Bytes) : (Lx.toks l).toks.length ≤ l.length := cuts_count l.length 0 l (Nat.le_refl _)

theorem ext_take (l : Lx.Bytes) (q : Nat) : (ByteArray.mk l.toArray).extract 0 q = ⟨(l.take q).toArray⟩ := by rw [Lib.extract_eq]; simp
theorem ext_drop (l : Lx.Bytes) (q n : Nat) (h : n = l.length) : (ByteArray.mk l.toArray).extract q n = ⟨(l.drop q).toArray⟩ := by
  subst h
  rw [Lib.extract_eq, List.take_of_length_le (by simp)]
end Go.Proofs.YtinogdeolnldhaaDoor
