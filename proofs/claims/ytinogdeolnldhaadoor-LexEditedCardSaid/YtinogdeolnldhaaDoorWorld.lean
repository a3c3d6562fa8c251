/- What turns in memory while a scanner works; the scanner in memory. -/
import Derived.Test.YtinogdeolnldhaaDoorProg
import Derived.Test.YtinogdeolnldhaaDoorSpec
import Derived.WalkKit
import Derived.WalkSpells
import Derived.WalkLawsBesides
import Derived.Maps.Own
import Derived.Maps.Views
import Derived.Maps.AppendAt
import Derived.Maps.OwnOps
namespace Go.Proofs.YtinogdeolnldhaaDoor
open Go.RowKit

/-- Of what was there, only blocks of D have turned. -/
structure Turned (w w' : World) (D : Nat → Prop) : Prop where
  os : w'.os = w.os
  tape : w'.tape = w.tape
  output : w'.output = w.output
  size : w.heap.size ≤ w'.heap.size
  block : ∀ k, k < w.heap.size → ¬ D k → w'.heap[k]? = w.heap[k]?

theorem Turned.refl (w : World) (D : Nat → Prop) : Turned w w D := ⟨rfl, rfl, rfl, Nat.le_refl _, fun _ _ _ => rfl⟩

theorem Turned.trans {a b c : World} {D E : Nat → Prop} (h : Turned a b D) (k : Turned b c E) (hE : ∀ i, i < a.heap.size → E i → D i) : Turned a c D :=
  ⟨k.os.trans h.os, k.tape.trans h.tape, k.output.trans h.output, Nat.le_trans h.size k.size,
    fun i hi hn => (k.block i (Nat.lt_of_lt_of_le hi h.size) (fun he => hn (hE i hi he))).trans (h.block i hi hn)⟩

theorem Turned.mono {a b : World} {D E : Nat → Prop} (h : Turned a b D) (hE : ∀ i, i < a.heap.size → D i → E i) : Turned a b E :=
  ⟨h.os, h.tape, h.output, h.size, fun i hi hn => h.block i hi (fun hd => hn (hE i hi hd))⟩

theorem Turned.drew {a w : World} {D : Nat → Prop} (h : Turned a w D) : Turned a w.drew D := ⟨h.os, h.tape, h.output, h.size, h.block⟩

theorem Turned.drewN {a w : World} {D : Nat → Prop} (h : Turned a w D) (n : Nat) : Turned a (w.drewN n) D := ⟨h.os, h.tape, h.output, h.size, h.block⟩

theorem Turned.alloc {a w : World} {D : Nat → Prop} (h : Turned a w D) (o : Obj) : Turned a (w.alloc o) D :=
  h.trans (E := fun _ => False) ⟨rfl, rfl, rfl, by simp, fun k hk _ => Below.heap_alloc _ _ _ hk⟩ (fun _ _ hf => hf.elim)

theorem Turned.setCell {a w : World} {D : Nat → Prop} (h : Turned a w D) {p : Addr} (hp : p.block < a.heap.size → D p.block) (u : Value) : Turned a (w.setCell p u) D :=
  h.trans (E := fun k => k = p.block) ⟨rfl, rfl, rfl, by simp [World.setCell], fun k _ hn => Below.heap_setCell _ _ _ _ hn⟩ (fun i hi he => by subst he; exact hp hi)

theorem Turned.grown {a w w' : World} {D : Nat → Prop} {row : Option Nat} (h : Turned a w D) (hg : w.grownBy w' row) (hr : ∀ k, k < a.heap.size → row = some k → D k) : Turned a w' D :=
  h.trans (E := fun k => row = some k) ⟨hg.os, hg.tape, hg.output, hg.size, fun k hk hn => hg.block k hk (fun e => hn e.symm)⟩ hr

theorem Turned.ofBelow {w w' : World} {B : Nat} (h : Below B w w') {D : Nat → Prop} (hD : ∀ k, k < w.heap.size → B ≤ k → D k) : Turned w w' D :=
  ⟨h.os, h.tape, h.output, h.size, fun k hk hn => h.block k (Nat.lt_of_not_le fun hb => hn (hD k hk hb))⟩

theorem Turned.below {w w' : World} {B : Nat} {D : Nat → Prop} (h : Turned w w' D) (hB : B ≤ w.heap.size) (hD : ∀ k, D k → B ≤ k) : Below B w w' :=
  ⟨h.os, h.tape, h.output, h.size, fun k hk => h.block k (by omega) (fun hd => by have := hD k hd; omega)⟩

theorem Turned.cell {w w' : World} {D : Nat → Prop} (h : Turned w w' D) {p : Addr} (hp : p.block < w.heap.size) (hn : ¬ D p.block) : w'.cell? p = w.cell? p := World.cell?_of_block (w := w) (h.block p.block hp hn)
theorem Turned.frozen {w w' : World} {D : Nat → Prop} (h : Turned w w' D) {p : Addr} (hp : p.block < w.heap.size) (hn : ¬ D p.block) : w'.frozen? p = w.frozen? p := World.frozen?_of_block (w := w) (h.block p.block hp hn)

theorem lt_of_block {w : World} {k : Nat} {o : Obj} (h : w.heap[k]? = some o) : k < w.heap.size := (Array.getElem?_eq_some_iff.1 h).1

/-! ### rows of the call's own -/
theorem ownsRow_turned {w w' : World} {base : Nat} {e : TypeId} {size : Nat} {v : Value} {n : Nat} {xs : List Value} {D : Nat → Prop} (h : w.ownsRow base e size v n xs) (t : Turned w w' D)
    (hn : ∀ k, v.ownBlock = some k → ¬ D k) : w'.ownsRow base e size v n xs := by
  refine ⟨h.1, ?_⟩
  rcases h.2 with hz | ⟨g, cap, cur, rfl, hb, hg, rest⟩
  · exact .inl hz
  · exact .inr ⟨g, cap, cur, rfl, hb, (t.block g (lt_of_block hg) (hn g rfl)).trans hg, rest⟩

theorem ownsMap_turned {H : Type} {P : Program} {k : TypeId} {R : Value → Option (DataW H × List MemPlace)} {w w' : World} {b n : Nat} {M : DataW H} {D : Nat → Prop} (h : w.ownsMap P k R b n M) (t : Turned w w' D)
    (hn : ¬ D b) : w'.ownsMap P k R b n M := by
  have hlt := h.lt
  obtain ⟨es, clock, hb, F, hs, hD⟩ := h
  exact ⟨es, clock, (t.block b hlt hn).trans hb, F, hs, hD⟩

/-- A row's block holds cells of its elements' type. -/
theorem ownsRow_tag {w : World} {base : Nat} {e : TypeId} {size : Nat} {v : Value} {n : Nat} {xs : List Value} (h : w.ownsRow base e size v n xs) {g : Nat} (hg : v.ownBlock = some g) :
    base ≤ g ∧ ∃ c, w.heap[g]? = some (.cells c e (0, 0)) := by
  rcases h.2 with ⟨rfl, _⟩ | ⟨g', cap, cur, rfl, hb, hgg, _⟩
  · simp [Value.ownBlock] at hg
  · simp [Value.ownBlock] at hg
    subst hg
    exact ⟨hb, _, hgg⟩

/-! ### the scanner -/
structure Scn where
  sb : Nat
  mw : Nat
  ms : Nat
  mst : Nat
  text : ByteArray
  from_ : Nat
  at_ : Nat
  tv : Value
  toks : List Lx.Tok
  cv : Value
  coms : List (Nat × Nat)

def Scn.rest (S : Scn) : Lx.Bytes := S.text.data.toList.drop S.at_

def str (l : Lx.Bytes) : Value := .string ⟨l.toArray⟩
def tokCells (t : Lx.Tok) : List Value := [.int .i64 t.kind, .int .i64 t.n, str t.s, .int .i64 t.at_, .int .i64 t.end_]
def comCells (c : Nat × Nat) : List Value := [.int .i64 c.1, .int .i64 c.2]

/-- Block b is a map that holds true at the texts of l, and at no other. -/
def SetAt (w : World) (b : Nat) (l : List Lx.Bytes) : Prop :=
  ∃ n, ∃ D : DataW Unit, w.ownsMap Tryd.prog 9 (plainElem Tryd.prog 4) b n D ∧ ∀ s : Lx.Bytes, D.atKey (.string s) (.lit (.bool false)) = .lit (.bool (l.contains s))

/-- How a function value without captured variables reads. -/
def fnElem (v : Value) : Option (DataW Unit × List MemPlace) :=
  match v with
  | .nilFunc => some (.nil, [])
  | .func (.func f) a c => if a = #[] ∧ c = #[] then some (.lit (.int .i64 f), []) else none
  | _ => none

/-- The function that a class of bytes leads to. -/
def stateOf (c : Int) : FuncId :=
  if c = 0 then 51 else if c = 1 then 52 else if c = 2 then 53
  else if c = 3 then 54 else 55

def StatesAt (w : World) (b : Nat) : Prop :=
  ∃ n, ∃ D : DataW Unit, w.ownsMap Tryd.prog 84 fnElem b n D ∧ ∀ c : Int, 0 ≤ c → c ≤ 4 → D.atKey (.int .i64 c) .nil = .lit (.int .i64 (stateOf c))

def Scn.cells (S : Scn) : Array Value := #[.map (some S.mw), .map (some S.ms), .map (some S.mst), .string S.text, .int .i64 S.from_, .int .i64 S.at_, S.tv, S.cv]

structure Scan (B : Nat) (w : World) (S : Scn) : Prop where
  block : w.heap[S.sb]? = some (.cells S.cells 63 (0, 0))
  words : SetAt w S.mw Lx.words
  signs : SetAt w S.ms Lx.signs
  states : StatesAt w S.mst
  toks : w.ownsRow B 48 5 S.tv S.toks.length (S.toks.flatMap tokCells)
  coms : w.ownsRow B 65 2 S.cv S.coms.length (S.coms.flatMap comCells)
  hB : B ≤ S.sb

def Scn.own (S : Scn) (k : Nat) : Prop := k = S.sb ∨ S.tv.ownBlock = some k ∨ S.cv.ownBlock = some k

section
variable {B : Nat} {w w' : World} {S S' : Scn}

theorem Scan.lt (h : Scan B w S) : S.sb < w.heap.size := lt_of_block h.block

theorem SetAt.not_cells {b : Nat} {l : List Lx.Bytes} (h : SetAt w b l) {c : Array Value} {t : TypeId} {z : Nat × Nat} : w.heap[b]? ≠ some (.cells c t z) := by
  obtain ⟨n, D, ⟨es, clock, hb, _⟩, _⟩ := h
  rw [hb]; intro e; cases e
theorem StatesAt.not_cells {b : Nat} (h : StatesAt w b) {c : Array Value} {t : TypeId} {z : Nat × Nat} : w.heap[b]? ≠ some (.cells c t z) := by
  obtain ⟨n, D, ⟨es, clock, hb, _⟩, _⟩ := h
  rw [hb]; intro e; cases e

/-- Each block that a scanner owns is one of cells of its types. -/
theorem Scan.own_tag (h : Scan B w S) {k : Nat} (hk : S.own k) : B ≤ k ∧ ∃ c t, w.heap[k]? = some (.cells c t (0, 0)) ∧ (t = 63 ∨ t = 48 ∨ t = 65) := by
  rcases hk with rfl | hk | hk
  · exact ⟨h.hB, _, _, h.block, .inl rfl⟩
  · obtain ⟨hb, c, hc⟩ := ownsRow_tag h.toks hk
    exact ⟨hb, c, _, hc, .inr (.inl rfl)⟩
  · obtain ⟨hb, c, hc⟩ := ownsRow_tag h.coms hk
    exact ⟨hb, c, _, hc, .inr (.inr rfl)⟩

theorem Scan.not_own {k : Nat} (h : Scan B w S) {o : Obj} (ho : w.heap[k]? = some o)
    (hne : ∀ c t, o = .cells c t (0, 0) → t ≠ 63 ∧ t ≠ 48 ∧ t ≠ 65) : ¬ S.own k := by
  intro hk
  obtain ⟨_, c, t, hc, ht⟩ := h.own_tag hk
  rw [hc] at ho
  obtain rfl := Option.some.inj ho
  have := hne c t rfl
  rcases ht with rfl | rfl | rfl <;> simp_all

theorem Scan.own_lt (h : Scan B w S) {k : Nat} (hk : S.own k) : k < w.heap.size := by
  obtain ⟨_, c, t, hc, _⟩ := h.own_tag hk
  exact lt_of_block hc
theorem SetAt.lt {b : Nat} {l : List Lx.Bytes} (h : SetAt w b l) : b < w.heap.size := by
  obtain ⟨n, D, hm, _⟩ := h
  exact hm.lt
theorem StatesAt.lt {b : Nat} (h : StatesAt w b) : b < w.heap.size := by
  obtain ⟨n, D, hm, _⟩ := h
  exact hm.lt
/-- A block that was not there is none of a scanner's. -/
theorem Scan.fresh (h : Scan B w S) : ∀ k, S.own k ∨ k = S.mw ∨ k = S.ms ∨ k = S.mst → k < w.heap.size := by
  rintro k (hk | rfl | rfl | rfl)
  · exact h.own_lt hk
  · exact h.words.lt
  · exact h.signs.lt
  · exact h.states.lt

theorem Scan.not_own_mw (h : Scan B w S) : ¬ S.own S.mw := fun hk => by obtain ⟨_, c, t, hc, _⟩ := h.own_tag hk; exact h.words.not_cells hc
theorem Scan.not_own_ms (h : Scan B w S) : ¬ S.own S.ms := fun hk => by obtain ⟨_, c, t, hc, _⟩ := h.own_tag hk; exact h.signs.not_cells hc
theorem Scan.not_own_mst (h : Scan B w S) : ¬ S.own S.mst := fun hk => by obtain ⟨_, c, t, hc, _⟩ := h.own_tag hk; exact h.states.not_cells hc

theorem SetAt.turned {b : Nat} {l : List Lx.Bytes} {D : Nat → Prop} (h : SetAt w b l) (t : Turned w w' D) (hn : ¬ D b) : SetAt w' b l := by
  obtain ⟨n, M, hm, hl⟩ := h
  exact ⟨n, M, ownsMap_turned hm t hn, hl⟩
theorem StatesAt.turned {b : Nat} {D : Nat → Prop} (h : StatesAt w b) (t : Turned w w' D) (hn : ¬ D b) : StatesAt w' b := by
  obtain ⟨n, M, hm, hl⟩ := h
  exact ⟨n, M, ownsMap_turned hm t hn, hl⟩

/-- What turns elsewhere leaves a scanner as it is. -/
theorem Scan.turned {D : Nat → Prop} (h : Scan B w S) (t : Turned w w' D) (hn : ∀ k, S.own k ∨ k = S.mw ∨ k = S.ms ∨ k = S.mst → ¬ D k) : Scan B w' S where
  block := (t.block _ h.lt (hn _ (.inl (.inl rfl)))).trans h.block
  words := h.words.turned t (hn _ (.inr (.inl rfl)))
  signs := h.signs.turned t (hn _ (.inr (.inr (.inl rfl))))
  states := h.states.turned t (hn _ (.inr (.inr (.inr rfl))))
  toks := ownsRow_turned h.toks t (fun _ hk => hn _ (.inl (.inr (.inl hk))))
  coms := ownsRow_turned h.coms t (fun _ hk => hn _ (.inl (.inr (.inr hk))))
  hB := h.hB

theorem Scan.drew (h : Scan B w S) : Scan B w.drew S := h.turned (D := fun _ => False) (Turned.refl w _).drew (fun _ _ hf => hf)
theorem Scan.drewN (h : Scan B w S) (n : Nat) : Scan B (w.drewN n) S := h.turned (D := fun _ => False) ((Turned.refl w _).drewN n) (fun _ _ hf => hf)
theorem Scan.alloc (h : Scan B w S) (o : Obj) : Scan B (w.alloc o) S := h.turned (D := fun _ => False) ((Turned.refl w _).alloc o) (fun _ _ hf => hf)
theorem Scan.setCell_other (h : Scan B w S) {p : Addr} (hp : ¬ S.own p.block) (hp2 : p.block ≠ S.mw) (hp3 : p.block ≠ S.ms) (hp4 : p.block ≠ S.mst) (u : Value) : Scan B (w.setCell p u) S :=
  h.turned (D := fun k => k = p.block) (Turned.setCell (Turned.refl w (fun k => k = p.block)) (fun _ => rfl) u) (fun k hk e => by
    subst e
    rcases hk with hk | hk | hk | hk
    · exact hp hk
    · exact hp2 hk
    · exact hp3 hk
    · exact hp4 hk)

/-! the cells of a scanner -/
theorem Scan.cellAt (h : Scan B w S) (i : Nat) : w.cell? ⟨S.sb, i, none⟩ = S.cells[i]? := by simp [World.cell?, h.block]
theorem Scan.frozenAt (h : Scan B w S) (i : Nat) : w.frozen? ⟨S.sb, i, none⟩ = false := by simp [World.frozen?, h.block]

theorem Scan.c0 (h : Scan B w S) : w.cell? ⟨S.sb, 0, none⟩ = some (.map (some S.mw)) := h.cellAt 0
theorem Scan.c1 (h : Scan B w S) : w.cell? ⟨S.sb, 1, none⟩ = some (.map (some S.ms)) := h.cellAt 1
theorem Scan.c2 (h : Scan B w S) : w.cell? ⟨S.sb, 2, none⟩ = some (.map (some S.mst)) := h.cellAt 2
theorem Scan.c3 (h : Scan B w S) : w.cell? ⟨S.sb, 3, none⟩ = some (.string S.text) := h.cellAt 3
theorem Scan.c4 (h : Scan B w S) : w.cell? ⟨S.sb, 4, none⟩ = some (.int .i64 S.from_) := h.cellAt 4
theorem Scan.c5 (h : Scan B w S) : w.cell? ⟨S.sb, 5, none⟩ = some (.int .i64 S.at_) := h.cellAt 5
theorem Scan.c6 (h : Scan B w S) : w.cell? ⟨S.sb, 6, none⟩ = some S.tv := h.cellAt 6
theorem Scan.c7 (h : Scan B w S) : w.cell? ⟨S.sb, 7, none⟩ = some S.cv := h.cellAt 7

theorem setCell_block {w : World} {sb i : Nat} {c : Array Value} {t : TypeId} {z : Nat × Nat} (h : w.heap[sb]? = some (.cells c t z)) (u : Value) :
    (w.setCell ⟨sb, i, none⟩ u).heap[sb]? = some (.cells (c.setIfInBounds i u) t z) := by
  simp [World.setCell, Array.getElem?_modify, h]

/-- A store into a scanner's own cell, of whose rows nothing is asked but what they are to be. -/
theorem scan_stored (hb : w.heap[S.sb]? = some (.cells S.cells 63 (0, 0))) (hwo : SetAt w S.mw Lx.words) (hsi : SetAt w S.ms Lx.signs) (hst : StatesAt w S.mst) (hB : B ≤ S.sb)
    (i : Nat) (u : Value) (S' : Scn) (hsb : S'.sb = S.sb) (hc : S.cells.setIfInBounds i u = S'.cells) (hmw : S'.mw = S.mw) (hms : S'.ms = S.ms) (hmst : S'.mst = S.mst)
    (htv : w.ownsRow B 48 5 S'.tv S'.toks.length (S'.toks.flatMap tokCells)) (hcv : w.ownsRow B 65 2 S'.cv S'.coms.length (S'.coms.flatMap comCells)) :
    Scan B (w.setCell ⟨S.sb, i, none⟩ u) S' := by
  have t : Turned w (w.setCell ⟨S.sb, i, none⟩ u) (fun k => k = S.sb) := Turned.setCell (Turned.refl w (fun k => k = S.sb)) (fun _ => rfl) u
  have hne : ∀ {v : Value} {n : Nat} {xs : List Value} {e : TypeId} {sz : Nat}, w.ownsRow B e sz v n xs → e ≠ 63 → ∀ k, v.ownBlock = some k → ¬ (k = S.sb) := by
    intro v n xs e sz ho he k hk e1
    subst e1
    obtain ⟨_, c, hc⟩ := ownsRow_tag ho hk
    rw [hb] at hc
    simp at hc
    exact he hc.2.symm
  refine ⟨?_, ?_, ?_, ?_, ownsRow_turned htv t (hne htv (by decide)), ownsRow_turned hcv t (hne hcv (by decide)), by rw [hsb]; exact hB⟩
  · rw [hsb, ← hc]; exact setCell_block hb u
  · rw [hmw]; exact hwo.turned t (fun e => by rw [← e] at hb; exact hwo.not_cells hb)
  · rw [hms]; exact hsi.turned t (fun e => by rw [← e] at hb; exact hsi.not_cells hb)
  · rw [hmst]; exact hst.turned t (fun e => by rw [← e] at hb; exact hst.not_cells hb)

/-- A store into a scanner's own cell: all but its block stays. -/
theorem Scan.stored (h : Scan B w S) (i : Nat) (u : Value) (S' : Scn) (hsb : S'.sb = S.sb) (hc : S.cells.setIfInBounds i u = S'.cells) (hmw : S'.mw = S.mw) (hms : S'.ms = S.ms) (hmst : S'.mst = S.mst)
    (htv : w.ownsRow B 48 5 S'.tv S'.toks.length (S'.toks.flatMap tokCells)) (hcv : w.ownsRow B 65 2 S'.cv S'.coms.length (S'.coms.flatMap comCells)) :
    Scan B (w.setCell ⟨S.sb, i, none⟩ u) S' :=
  scan_stored h.block h.words h.signs h.states h.hB i u S' hsb hc hmw hms hmst htv hcv

theorem Scan.own_disj (h : Scan B w S) : (∀ k, S.tv.ownBlock = some k → k ≠ S.sb ∧ k ≠ S.mw ∧ k ≠ S.ms ∧ k ≠ S.mst ∧ S.cv.ownBlock ≠ some k) ∧ (∀ k, S.cv.ownBlock = some k → k ≠ S.sb ∧ k ≠ S.mw ∧ k ≠ S.ms ∧ k ≠ S.mst ∧ S.tv.ownBlock ≠ some k) := by
  refine ⟨fun k hk => ?_, fun k hk => ?_⟩
  · obtain ⟨_, c, hc⟩ := ownsRow_tag h.toks hk
    refine ⟨fun e => ?_, fun e => ?_, fun e => ?_, fun e => ?_, fun e => ?_⟩
    · subst e; rw [h.block] at hc; simp at hc
    · subst e; exact h.words.not_cells hc
    · subst e; exact h.signs.not_cells hc
    · subst e; exact h.states.not_cells hc
    · obtain ⟨_, c', hc'⟩ := ownsRow_tag h.coms e
      rw [hc'] at hc; simp at hc
  · obtain ⟨_, c, hc⟩ := ownsRow_tag h.coms hk
    refine ⟨fun e => ?_, fun e => ?_, fun e => ?_, fun e => ?_, fun e => ?_⟩
    · subst e; rw [h.block] at hc; simp at hc
    · subst e; exact h.words.not_cells hc
    · subst e; exact h.signs.not_cells hc
    · subst e; exact h.states.not_cells hc
    · obtain ⟨_, c', hc'⟩ := ownsRow_tag h.toks e
      rw [hc'] at hc; simp at hc

/-- Behind an append to the tokens, and the store of the new value. -/
theorem Scan.appendToks (h : Scan B w S) (t : Turned w w' (fun k => S.tv.ownBlock = some k)) (v : Value) (l : List Lx.Tok) (hv : w'.ownsRow B 48 5 v l.length (l.flatMap tokCells)) :
    Scan B (w'.setCell ⟨S.sb, 6, none⟩ v) { S with tv := v, toks := l } :=
  scan_stored ((t.block _ h.lt (fun e => (h.own_disj.1 _ e).1 rfl)).trans h.block) (h.words.turned t (fun e => (h.own_disj.1 _ e).2.1 rfl)) (h.signs.turned t (fun e => (h.own_disj.1 _ e).2.2.1 rfl))
    (h.states.turned t (fun e => (h.own_disj.1 _ e).2.2.2.1 rfl)) h.hB 6 v { S with tv := v, toks := l } rfl (by simp [Scn.cells]) rfl rfl rfl hv (ownsRow_turned h.coms t (fun k hk e => (h.own_disj.2 k hk).2.2.2.2 e))
theorem Scan.appendComs (h : Scan B w S) (t : Turned w w' (fun k => S.cv.ownBlock = some k)) (v : Value) (l : List (Nat × Nat)) (hv : w'.ownsRow B 65 2 v l.length (l.flatMap comCells)) :
    Scan B (w'.setCell ⟨S.sb, 7, none⟩ v) { S with cv := v, coms := l } :=
  scan_stored ((t.block _ h.lt (fun e => (h.own_disj.2 _ e).1 rfl)).trans h.block) (h.words.turned t (fun e => (h.own_disj.2 _ e).2.1 rfl)) (h.signs.turned t (fun e => (h.own_disj.2 _ e).2.2.1 rfl))
    (h.states.turned t (fun e => (h.own_disj.2 _ e).2.2.2.1 rfl)) h.hB 7 v { S with cv := v, coms := l } rfl (by simp [Scn.cells]) rfl rfl rfl (ownsRow_turned h.toks t (fun k hk e => (h.own_disj.1 k hk).2.2.2.2 e)) hv

theorem Scan.setAt (h : Scan B w S) (n : Nat) : Scan B (w.setCell ⟨S.sb, 5, none⟩ (.int .i64 n)) { S with at_ := n } :=
  h.stored 5 _ { S with at_ := n } rfl (by simp [Scn.cells]) rfl rfl rfl h.toks h.coms
theorem Scan.setFrom (h : Scan B w S) (n : Nat) : Scan B (w.setCell ⟨S.sb, 4, none⟩ (.int .i64 n)) { S with from_ := n } :=
  h.stored 4 _ { S with from_ := n } rfl (by simp [Scn.cells]) rfl rfl rfl h.toks h.coms
theorem Scan.setText (h : Scan B w S) (t : ByteArray) : Scan B (w.setCell ⟨S.sb, 3, none⟩ (.string t)) { S with text := t } :=
  h.stored 3 _ { S with text := t } rfl (by simp [Scn.cells]) rfl rfl rfl h.toks h.coms
theorem Scan.setToks (h : Scan B w S) (v : Value) (l : List Lx.Tok) (hv : w.ownsRow B 48 5 v l.length (l.flatMap tokCells)) : Scan B (w.setCell ⟨S.sb, 6, none⟩ v) { S with tv := v, toks := l } :=
  h.stored 6 _ { S with tv := v, toks := l } rfl (by simp [Scn.cells]) rfl rfl rfl hv h.coms
theorem Scan.setComs (h : Scan B w S) (v : Value) (l : List (Nat × Nat)) (hv : w.ownsRow B 65 2 v l.length (l.flatMap comCells)) : Scan B (w.setCell ⟨S.sb, 7, none⟩ v) { S with cv := v, coms := l } :=
  h.stored 7 _ { S with cv := v, coms := l } rfl (by simp [Scn.cells]) rfl rfl rfl h.toks hv

/-- How a scanner goes from one state to another one: what else was there stays. -/
structure Goes (w : World) (S : Scn) (w' : World) (S' : Scn) : Prop where
  turned : Turned w w' S.own
  own : ∀ k, k < w.heap.size → S'.own k → S.own k

theorem Goes.refl (w : World) (S : Scn) : Goes w S w S := ⟨Turned.refl _ _, fun _ _ h => h⟩
theorem Goes.trans {w1 w2 w3 : World} {S1 S2 S3 : Scn} (h : Goes w1 S1 w2 S2) (k : Goes w2 S2 w3 S3) : Goes w1 S1 w3 S3 :=
  ⟨h.turned.trans k.turned h.own, fun i hi ho => h.own i hi (k.own i (Nat.lt_of_lt_of_le hi h.turned.size) ho)⟩
theorem Goes.drew {w1 w2 : World} {S1 S2 : Scn} (h : Goes w1 S1 w2 S2) : Goes w1 S1 w2.drew S2 := ⟨h.turned.drew, h.own⟩
theorem Goes.drewN {w1 w2 : World} {S1 S2 : Scn} (h : Goes w1 S1 w2 S2) (n : Nat) : Goes w1 S1 (w2.drewN n) S2 := ⟨h.turned.drewN n, h.own⟩
theorem Goes.alloc {w1 w2 : World} {S1 S2 : Scn} (h : Goes w1 S1 w2 S2) (o : Obj) : Goes w1 S1 (w2.alloc o) S2 := ⟨h.turned.alloc o, h.own⟩
/-- A store into the scanner's own block. -/
theorem Goes.stored {w1 w2 : World} {S1 S2 : Scn} (h : Goes w1 S1 w2 S2) (hsb : S2.sb = S1.sb) (i : Nat) (u : Value) (S3 : Scn) (ho : ∀ k, k < w1.heap.size → S3.own k → S1.own k) : Goes w1 S1 (w2.setCell ⟨S2.sb, i, none⟩ u) S3 :=
  ⟨h.turned.setCell (fun _ => .inl hsb) u, ho⟩
theorem Goes.below {w1 w2 : World} {S1 S2 : Scn} (h : Goes w1 S1 w2 S2) (hs : Scan B w1 S1) : Below B w1 w2 :=
  h.turned.below (Nat.le_trans hs.hB (Nat.le_of_lt hs.lt)) (fun _ hk => (hs.own_tag hk).1)

theorem Goes.setAt (w : World) (S : Scn) (n : Nat) : Goes w S (w.setCell ⟨S.sb, 5, none⟩ (.int .i64 n)) { S with at_ := n } := (Goes.refl w S).stored rfl 5 _ _ (fun _ _ h => h)
theorem Goes.setFrom (w : World) (S : Scn) (n : Nat) : Goes w S (w.setCell ⟨S.sb, 4, none⟩ (.int .i64 n)) { S with from_ := n } := (Goes.refl w S).stored rfl 4 _ _ (fun _ _ h => h)
theorem Goes.setText (w : World) (S : Scn) (n : ByteArray) : Goes w S (w.setCell ⟨S.sb, 3, none⟩ (.string n)) { S with text := n } := (Goes.refl w S).stored rfl 3 _ _ (fun _ _ h => h)
end
end Go.Proofs.YtinogdeolnldhaaDoor
