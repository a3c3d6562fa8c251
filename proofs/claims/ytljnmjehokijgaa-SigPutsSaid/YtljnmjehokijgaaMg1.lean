/- Parts of the proof, one behind the other. -/
import Derived.Test.YtljnmjehokijgaaProg
import Derived.WalkKit
import Derived.WalkSpells
import Derived.WalkLawsBesides
import Derived.Maps.Own
import Derived.Maps.Views
import Derived.Maps.AppendAt
import Derived.Maps.OwnOps

/- What turns in memory while a program works. -/
namespace Go.Proofs.Ytljnmjehokijgaa
open Go.RowKit

/-- Of what was there, only blocks of D have turned. -/
structure Turned (w w' : World) (D : Nat → Prop) : Prop where
  os : w'.os = w.os
  tape : w'.tape = w.tape
  output : w'.output = w.output
  size : w.heap.size ≤ w'.heap.size
  block : ∀ k, k < w.heap.size → ¬ D k → w'.heap[k]? = w.heap[k]?

theorem Turned.refl (w : World) (D : Nat → Prop) : Turned w w D := ⟨rfl, rfl, rfl, Nat.le_refl _, fun _ _ _ => rfl⟩

theorem Turned.trans {a b c : World} {D E : Nat → Prop} (h : Turned a b D) (k : Turned b c E) (hE : ∀ i, i < a.heap.size → E i → D i) : Turned a c D :=
  ⟨k.os.trans h.os, k.tape.trans h.tape, k.output.trans h.output, Nat.le_trans h.size k.size,
    fun i hi hn => (k.block i (Nat.lt_of_lt_of_le hi h.size) (fun he => hn (hE i hi he))).trans (h.block i hi hn)⟩

theorem Turned.mono {a b : World} {D E : Nat → Prop} (h : Turned a b D) (hE : ∀ i, i < a.heap.size → D i → E i) : Turned a b E :=
  ⟨h.os, h.tape, h.output, h.size, fun i hi hn => h.block i hi (fun hd => hn (hE i hi hd))⟩

theorem Turned.drew {a w : World} {D : Nat → Prop} (h : Turned a w D) : Turned a w.drew D := ⟨h.os, h.tape, h.output, h.size, h.block⟩

theorem Turned.drewN {a w : World} {D : Nat → Prop} (h : Turned a w D) (n : Nat) : Turned a (w.drewN n) D := ⟨h.os, h.tape, h.output, h.size, h.block⟩

theorem Turned.alloc {a w : World} {D : Nat → Prop} (h : Turned a w D) (o : Obj) : Turned a (w.alloc o) D :=
  h.trans (E := fun _ => False) ⟨rfl, rfl, rfl, by simp, fun k hk _ => Below.heap_alloc _ _ _ hk⟩ (fun _ _ hf => hf.elim)

theorem Turned.setCell {a w : World} {D : Nat → Prop} (h : Turned a w D) {p : Addr} (hp : p.block < a.heap.size → D p.block) (u : Value) : Turned a (w.setCell p u) D :=
  h.trans (E := fun k => k = p.block) ⟨rfl, rfl, rfl, by simp [World.setCell], fun k _ hn => Below.heap_setCell _ _ _ _ hn⟩ (fun i hi he => by subst he; exact hp hi)

theorem Turned.grown {a w w' : World} {D : Nat → Prop} {row : Option Nat} (h : Turned a w D) (hg : w.grownBy w' row) (hr : ∀ k, k < a.heap.size → row = some k → D k) : Turned a w' D :=
  h.trans (E := fun k => row = some k) ⟨hg.os, hg.tape, hg.output, hg.size, fun k hk hn => hg.block k hk (fun e => hn e.symm)⟩ hr

theorem Turned.ofBelow {w w' : World} {B : Nat} (h : Below B w w') {D : Nat → Prop} (hD : ∀ k, k < w.heap.size → B ≤ k → D k) : Turned w w' D :=
  ⟨h.os, h.tape, h.output, h.size, fun k hk hn => h.block k (Nat.lt_of_not_le fun hb => hn (hD k hk hb))⟩

theorem Turned.below {w w' : World} {B : Nat} {D : Nat → Prop} (h : Turned w w' D) (hB : B ≤ w.heap.size) (hD : ∀ k, D k → B ≤ k) : Below B w w' :=
  ⟨h.os, h.tape, h.output, h.size, fun k hk => h.block k (by omega) (fun hd => by have := hD k hd; omega)⟩

theorem Turned.cell {w w' : World} {D : Nat → Prop} (h : Turned w w' D) {p : Addr} (hp : p.block < w.heap.size) (hn : ¬ D p.block) : w'.cell? p = w.cell? p := World.cell?_of_block (w := w) (h.block p.block hp hn)
theorem Turned.frozen {w w' : World} {D : Nat → Prop} (h : Turned w w' D) {p : Addr} (hp : p.block < w.heap.size) (hn : ¬ D p.block) : w'.frozen? p = w.frozen? p := World.frozen?_of_block (w := w) (h.block p.block hp hn)

theorem lt_of_block {w : World} {k : Nat} {o : Obj} (h : w.heap[k]? = some o) : k < w.heap.size := (Array.getElem?_eq_some_iff.1 h).1

/-! ### rows of the call's own -/
theorem ownsRow_turned {w w' : World} {base : Nat} {e : TypeId} {size : Nat} {v : Value} {n : Nat} {xs : List Value} {D : Nat → Prop} (h : w.ownsRow base e size v n xs) (t : Turned w w' D)
    (hn : ∀ k, v.ownBlock = some k → ¬ D k) : w'.ownsRow base e size v n xs := by
  refine ⟨h.1, ?_⟩
  rcases h.2 with hz | ⟨g, cap, cur, rfl, hb, hg, rest⟩
  · exact .inl hz
  · exact .inr ⟨g, cap, cur, rfl, hb, (t.block g (lt_of_block hg) (hn g rfl)).trans hg, rest⟩

theorem ownsMap_turned {H : Type} {P : Program} {k : TypeId} {R : Value → Option (DataW H × List MemPlace)} {w w' : World} {b n : Nat} {M : DataW H} {D : Nat → Prop} (h : w.ownsMap P k R b n M) (t : Turned w w' D)
    (hn : ¬ D b) : w'.ownsMap P k R b n M := by
  have hlt := h.lt
  obtain ⟨es, clock, hb, F, hs, hD⟩ := h
  exact ⟨es, clock, (t.block b hlt hn).trans hb, F, hs, hD⟩

/-- A row's block holds cells of its elements' type. -/
theorem ownsRow_tag {w : World} {base : Nat} {e : TypeId} {size : Nat} {v : Value} {n : Nat} {xs : List Value} (h : w.ownsRow base e size v n xs) {g : Nat} (hg : v.ownBlock = some g) :
    base ≤ g ∧ ∃ c, w.heap[g]? = some (.cells c e (0, 0)) := by
  rcases h.2 with ⟨rfl, _⟩ | ⟨g', cap, cur, rfl, hb, hgg, _⟩
  · simp [Value.ownBlock] at hg
  · simp [Value.ownBlock] at hg
    subst hg
    exact ⟨hb, _, hgg⟩
end Go.Proofs.Ytljnmjehokijgaa

/- Trees (terms) in memory: what lies where, what stays. -/
namespace Go.Proofs.Ytljnmjehokijgaa
open Go.RowKit

/-- A tree: its kind, its number, what it has. -/
inductive Tm where
  | node (k n : Int) (l : List Tm)

namespace Tm
def kind : Tm → Int | .node k _ _ => k
def num : Tm → Int | .node _ n _ => n
def kids : Tm → List Tm | .node _ _ l => l

/-- Induction over trees: what holds of a tree if it holds of all that it has, holds of all. -/
theorem ind {P : Tm → Prop} (h : ∀ k n l, (∀ t ∈ l, P t) → P (.node k n l)) : ∀ t, P t := by
  have key : ∀ (m : Nat) (t : Tm), SizeOf.sizeOf t ≤ m → P t := by
    intro m
    induction m with
    | zero => intro t ht; cases t; simp at ht
    | succ m ih =>
      intro t ht
      obtain ⟨k, n, l⟩ := t
      refine h k n l fun x hx => ih x ?_
      have := List.sizeOf_lt_of_mem hx
      simp only [Tm.node.sizeOf_spec] at ht
      omega
  exact fun t => key _ t (Nat.le_refl _)
end Tm

mutual
/-- A tree lies in memory. -/
def TmIn (w : World) : Tm → Value → Prop
  | .node k n l, v => ∃ a cap, v = .agg #[.int .i64 k, .int .i64 n, .slice a l.length cap] ∧ l.length ≤ maxLen ∧ TmsIn w l a
/-- Trees lie in memory, one behind the other. -/
def TmsIn (w : World) : List Tm → Option Addr → Prop
  | [], _ => True
  | t :: l, a => ∃ g off v0 v1 v2, a = some ⟨g, off, none⟩ ∧ g < w.heap.size ∧ w.cell? ⟨g, off, none⟩ = some v0 ∧ w.cell? ⟨g, off + 1, none⟩ = some v1 ∧ w.cell? ⟨g, off + 2, none⟩ = some v2 ∧
      TmIn w t (.agg #[v0, v1, v2]) ∧ TmsIn w l (some ⟨g, off + 3, none⟩)
end

/-- A list of trees as a value. -/
def RowTm (w : World) (v : Value) (l : List Tm) : Prop := ∃ a cap, v = .slice a l.length cap ∧ l.length ≤ maxLen ∧ TmsIn w l a

theorem tmsIn_at {w : World} : ∀ {l : List Tm} {a : Option Addr}, TmsIn w l a → ∀ i (h : i < l.length), ∃ g off v0 v1 v2, a = some ⟨g, off, none⟩ ∧ g < w.heap.size ∧
    w.cell? ⟨g, off + i * 3, none⟩ = some v0 ∧ w.cell? ⟨g, off + i * 3 + 1, none⟩ = some v1 ∧ w.cell? ⟨g, off + i * 3 + 2, none⟩ = some v2 ∧ TmIn w l[i] (.agg #[v0, v1, v2])
  | [], _, _, i, h => absurd h (Nat.not_lt_zero _)
  | t :: l, a, h, 0, _ => by
    obtain ⟨g, off, v0, v1, v2, ha, hg, h0, h1, h2, ht, -⟩ := h
    exact ⟨g, off, v0, v1, v2, ha, hg, by simpa using h0, by simpa using h1, by simpa using h2, ht⟩
  | t :: l, a, h, i + 1, hi => by
    obtain ⟨g, off, v0, v1, v2, ha, hg, -, -, -, -, hl⟩ := h
    obtain ⟨g', off', u0, u1, u2, ha', hg', k0, k1, k2, kt⟩ := tmsIn_at hl i (Nat.lt_of_succ_lt_succ hi)
    simp only [Option.some.injEq, Addr.mk.injEq, and_true] at ha'
    obtain ⟨rfl, rfl⟩ := ha'
    have e : off + 3 + i * 3 = off + (i + 1) * 3 := by omega
    rw [e] at k0 k1 k2
    exact ⟨g, off, u0, u1, u2, ha, hg, k0, k1, k2, kt⟩

theorem tmsIn_mk {w : World} : ∀ {l : List Tm} {g off : Nat}, g < w.heap.size → (∀ i (h : i < l.length), ∃ v0 v1 v2,
    w.cell? ⟨g, off + i * 3, none⟩ = some v0 ∧ w.cell? ⟨g, off + i * 3 + 1, none⟩ = some v1 ∧ w.cell? ⟨g, off + i * 3 + 2, none⟩ = some v2 ∧ TmIn w l[i] (.agg #[v0, v1, v2])) → TmsIn w l (some ⟨g, off, none⟩)
  | [], _, _, _, _ => trivial
  | t :: l, g, off, hg, h => by
    obtain ⟨v0, v1, v2, h0, h1, h2, ht⟩ := h 0 (Nat.zero_lt_succ _)
    refine ⟨g, off, v0, v1, v2, rfl, hg, by simpa using h0, by simpa using h1, by simpa using h2, ht, tmsIn_mk hg fun i hi => ?_⟩
    obtain ⟨u0, u1, u2, k0, k1, k2, kt⟩ := h (i + 1) (Nat.succ_lt_succ hi)
    have e : off + (i + 1) * 3 = off + 3 + i * 3 := by omega
    rw [e] at k0 k1 k2
    exact ⟨u0, u1, u2, k0, k1, k2, kt⟩

mutual
/-- A tree stays where memory stays. -/
theorem TmIn.turned {w w' : World} (h : Turned w w' (fun _ => False)) : ∀ (t : Tm) {v : Value}, TmIn w t v → TmIn w' t v
  | .node _ _ l, _, ht => by
    obtain ⟨a, cap, hv, hl, hr⟩ := ht
    exact ⟨a, cap, hv, hl, TmsIn.turned h l hr⟩
theorem TmsIn.turned {w w' : World} (h : Turned w w' (fun _ => False)) : ∀ (l : List Tm) {a : Option Addr}, TmsIn w l a → TmsIn w' l a
  | [], _, _ => trivial
  | t :: l, _, hr => by
    obtain ⟨g, off, v0, v1, v2, ha, hg, h0, h1, h2, ht, hl⟩ := hr
    exact ⟨g, off, v0, v1, v2, ha, Nat.lt_of_lt_of_le hg h.size, (h.cell (p := ⟨g, off, none⟩) hg (fun hf => hf)).trans h0, (h.cell (p := ⟨g, off + 1, none⟩) hg (fun hf => hf)).trans h1, (h.cell (p := ⟨g, off + 2, none⟩) hg (fun hf => hf)).trans h2,
      TmIn.turned h t ht, TmsIn.turned h l hl⟩
end

theorem RowTm.turned {w w' : World} (h : Turned w w' (fun _ => False)) {v : Value} {l : List Tm} (hr : RowTm w v l) : RowTm w' v l := by
  obtain ⟨a, cap, hv, hl, ht⟩ := hr
  exact ⟨a, cap, hv, hl, TmsIn.turned h l ht⟩

/-- What a tree's value is. -/
theorem TmIn.form {w : World} {t : Tm} {v : Value} (h : TmIn w t v) : ∃ a cap, v = .agg #[.int .i64 t.kind, .int .i64 t.num, .slice a t.kids.length cap] ∧ t.kids.length ≤ maxLen ∧ TmsIn w t.kids a := by
  obtain ⟨k, n, l⟩ := t
  exact h

/-- As tmsIn_at, what lies there written out. -/
theorem tmsIn_at2 {w : World} {l : List Tm} {a : Option Addr} (h : TmsIn w l a) (i : Nat) (hi : i < l.length) : ∃ g off sa sc, a = some ⟨g, off, none⟩ ∧ g < w.heap.size ∧
    w.cell? ⟨g, off + i * 3, none⟩ = some (.int .i64 l[i].kind) ∧ w.cell? ⟨g, off + i * 3 + 1, none⟩ = some (.int .i64 l[i].num) ∧ w.cell? ⟨g, off + i * 3 + 2, none⟩ = some (.slice sa l[i].kids.length sc) ∧
    TmIn w l[i] (.agg #[.int .i64 l[i].kind, .int .i64 l[i].num, .slice sa l[i].kids.length sc]) := by
  obtain ⟨g, off, v0, v1, v2, ha, hg, h0, h1, h2, ht⟩ := tmsIn_at h i hi
  obtain ⟨sa, sc, hv, -⟩ := ht.form
  simp only [Value.agg.injEq, Array.mk.injEq, List.cons.injEq, and_true] at hv
  obtain ⟨rfl, rfl, rfl⟩ := hv
  exact ⟨g, off, sa, sc, ha, hg, h0, h1, h2, ht⟩

theorem RowTm.nil (w : World) : RowTm w (.slice none 0 0) [] := ⟨none, 0, rfl, Nat.zero_le _, trivial⟩
end Go.Proofs.Ytljnmjehokijgaa
