/- Parts of the proof, one behind the other. -/
import Derived.ArgAppend
import Derived.Test.YtljnmjehokijgaaMg8

/- Paths: the places of a tree. -/
namespace Go.Proofs.Ytljnmjehokijgaa
open Go.RowKit

mutual
/-- The places of a tree that stands at a place. -/
def Tm.paths : Tm → List Int → List (List Int)
  | .node _ _ l, at_ => at_ :: Tm.pathss l at_ 0
def Tm.pathss : List Tm → List Int → Nat → List (List Int)
  | [], _, _ => []
  | t :: l, at_, i => t.paths (at_ ++ [(i : Int)]) ++ Tm.pathss l at_ (i + 1)
end

theorem Tm.pathss_snoc : ∀ (l : List Tm) (t : Tm) (at_ : List Int) (i : Nat), Tm.pathss (l ++ [t]) at_ i = Tm.pathss l at_ i ++ t.paths (at_ ++ [((i + l.length : Nat) : Int)])
  | [], t, at_, i => by simp [Tm.pathss]
  | x :: l, t, at_, i => by
    simp only [List.cons_append, Tm.pathss, Tm.pathss_snoc l t at_ (i + 1), List.append_assoc, List.length_cons]
    rw [show i + 1 + l.length = i + (l.length + 1) by omega]

theorem bcellT {a b : World} (t : Turned a b (fun _ => False)) : (∀ (k i : Nat), k < a.heap.size → b.cell? ⟨k, i, none⟩ = a.cell? ⟨k, i, none⟩) ∧ (∀ (k i : Nat), k < a.heap.size → b.frozen? ⟨k, i, none⟩ = a.frozen? ⟨k, i, none⟩) ∧ a.heap.size ≤ b.heap.size :=
  ⟨fun k i h => t.cell (p := ⟨k, i, none⟩) h (fun hf => hf), fun k i h => t.frozen (p := ⟨k, i, none⟩) h (fun hf => hf), t.size⟩

/-- Blocks of a type stay. -/
def KeepsB (T : TypeId) (w w' : World) : Prop := w.heap.size ≤ w'.heap.size ∧ ∀ (b : Nat) (c : Array Value), w.heap[b]? = some (.cells c T (0, 0)) → w'.heap[b]? = some (.cells c T (0, 0))
theorem KeepsB.refl (T : TypeId) (w : World) : KeepsB T w w := ⟨Nat.le_refl _, fun _ _ h => h⟩
theorem KeepsB.trans {T : TypeId} {a b c : World} (h : KeepsB T a b) (k : KeepsB T b c) : KeepsB T a c := ⟨Nat.le_trans h.1 k.1, fun i x hx => k.2 i x (h.2 i x hx)⟩
theorem KeepsB.of {T : TypeId} {a b : World} (h : Turned a b (fun _ => False)) : KeepsB T a b := ⟨h.size, fun _ _ hx => turn_keep h hx⟩

/-- A list of numbers in a block of its own kind. -/
def RowB (w : World) (v : Value) (l : List Int) : Prop :=
  ∃ a cap, v = .slice a l.length cap ∧ l.length ≤ cap ∧ cap ≤ maxLen ∧ (a = none → l = [] ∧ cap = 0) ∧
    (∀ x, a = some x → ∃ (g : Nat) (c : Array Value), x = ⟨g, 0, none⟩ ∧ w.heap[g]? = some (.cells c 3 (0, 0)) ∧ ∀ (j : Nat) (y : Int), l[j]? = some y → c[j]? = some (.int .i64 y))

theorem RowB.keeps {w w' : World} {v : Value} {l : List Int} (h : RowB w v l) (k : KeepsB 3 w w') : RowB w' v l := by
  obtain ⟨a, cap, hv, h1, h2, h3, h4⟩ := h
  refine ⟨a, cap, hv, h1, h2, h3, fun x hx => ?_⟩
  obtain ⟨g, c, rfl, hg, hc⟩ := h4 x hx
  exact ⟨g, c, rfl, k.2 _ _ hg, hc⟩

theorem RowB.nil (w : World) : RowB w (.slice none 0 0) [] := ⟨none, 0, rfl, Nat.le_refl _, Nat.zero_le _, fun _ => ⟨rfl, rfl⟩, fun x hx => (by cases hx)⟩

theorem RowB.row {w : World} {v : Value} {l : List Int} (h : RowB w v l) : RowI w v l := by
  obtain ⟨a, cap, rfl, h1, h2, h3, h4⟩ := h
  refine ⟨a, cap, rfl, Nat.le_trans h1 h2, fun hne => ?_⟩
  cases a with
  | none => exact absurd (h3 rfl).1 hne
  | some x =>
    obtain ⟨g, c, rfl, hg, hc⟩ := h4 x rfl
    refine ⟨g, 0, rfl, lt_of_block hg, fun j y hj => ?_⟩
    simp only [World.cell?, hg, Nat.zero_add]
    exact hc j y hj

theorem OwnI.rowB {w : World} {B : Nat} {v : Value} {l : List Int} (h : OwnI w B v l) : RowB w v l := by
  rcases h.2 with ⟨rfl, h0⟩ | ⟨g, cap, cur, rfl, hb, hg, hle, hcap, hsz, hx⟩
  · have : l = [] := List.length_eq_zero_iff.1 h0
    subst this
    exact RowB.nil w
  · refine ⟨some ⟨g, 0, none⟩, cap, rfl, hle, hcap, fun e => (by cases e), fun x hxe => ⟨g, cur, ?_, hg, fun j y hj => ?_⟩⟩
    · simp only [Option.some.injEq] at hxe; exact hxe.symm
    · have h1 : (l.map (Value.int .i64))[j]? = some (.int .i64 y) := by rw [List.getElem?_map, hj]; rfl
      rw [← hx] at h1
      have hlt : j < l.length := (List.getElem?_eq_some_iff.1 hj).1
      rw [List.getElem?_take_of_lt (by omega)] at h1
      simpa using h1

/-- One number more behind a row that has no room: a new row. -/
theorem run_append_full (w : World) (ty : TypeId) {v : Value} {l : List Int} (hv : RowB w v l) (a : Option Addr) (cap : Nat) (he : v = .slice a l.length cap) (g : Nat) (y : Int) (hg : w.heap[g]? = some (.cells #[.int .i64 y] 3 (0, 0))) (hlen : l.length ≤ 1000000) :
    ∃ v' w', (Builtin.append_ #[37, 37] ty #[.slice a l.length l.length, .slice (some ⟨g, 0, none⟩) 1 1]).run Try.prog w = .ok v' w' ∧ OwnI w' w.heap.size v' (l ++ [y]) ∧ Turned w w' (fun _ => False) := by
  obtain ⟨i0, hi0, hz0, hz1, hz2⟩ := info_parts Try.infoInt
  obtain ⟨a', cap', hv', h1, h2, h3, h4⟩ := hv
  rw [he] at hv'
  simp only [Value.slice.injEq, true_and] at hv'
  obtain ⟨rfl, rfl⟩ := hv'
  have hl : (l ++ [y]).length = l.length + 1 := by simp
  have hold : (l.map (Value.int .i64)).length = l.length * 1 := by simp
  cases a with
  | none =>
    obtain ⟨rfl, -⟩ := h3 rfl
    obtain ⟨v', w', hrun, r1, r2, _⟩ := run_append_own (P := Try.prog) w w.heap.size 37 ty 3 i0 (.int .i64 0) 1 8 Try.underlying37 hi0 hz0 hz1 hz2 rfl (by omega) (.slice none 0 0) 0 [] (World.ownsRow_nil w _ _ _) ⟨g, 0, none⟩ 1 1 [.int .i64 y] rfl (World.news_of_block hg) (by simp [Value.oneCell']) (by unfold maxLen; omega) (by omega) (Nat.le_refl _)
    exact ⟨v', w', hrun, r1, Turned.grown (Turned.refl _ _) r2 (fun k _ e => by cases e)⟩
  | some x =>
    obtain ⟨gl, c, rfl, hgl, hc⟩ := h4 x rfl
    obtain ⟨v', w', hrun, r1, r2⟩ := run_append_arg_grows (P := Try.prog) w 37 ty 3 i0 (.int .i64 0) 1 8 Try.underlying37 hi0 hz0 hz1 hz2 rfl (by omega) ⟨gl, 0, none⟩ l.length l.length (l.map (Value.int .i64)) hold (fun j u hj => by
      rw [List.getElem?_map] at hj
      obtain ⟨y', hy', rfl⟩ := Option.map_eq_some_iff.1 hj
      have e : ((⟨gl, 0, none⟩ : Addr).add j) = ⟨gl, j, none⟩ := by
        unfold Addr.add
        split
        · rename_i h0; simp only [Addr.mk.injEq, true_and, and_true]; omega
        · simp
      rw [e]
      simp only [World.cell?, hgl]
      exact hc j y' hy') ⟨g, 0, none⟩ 1 1 [.int .i64 y] rfl (World.news_of_block hg) (by omega) (by unfold maxLen; omega) (by omega)
    refine ⟨v', w', hrun, ?_, Turned.grown (Turned.refl _ _) r2 (fun k _ e => by cases e)⟩
    unfold OwnI
    rw [hl, List.map_append]
    exact r1

theorem step_append_full {ops : Array Oper} {o : Oper} {a : Act} {K : Act → World → Prop} {Q : Exit → Act → World → Prop} {E : Prop} (w : World) (hgd : o.guard = none) (s x : Operand)
    (ho : o.op = .call { callee := .builtin .append, args := #[s, x], argTypes := #[37, 37] }) (v : Value) (l : List Int) (hv : RowB w v l) (p : Option Addr) (cap : Nat) (he : v = .slice p l.length cap) (hs : a.eval s = .slice p l.length l.length)
    (g : Nat) (y : Int) (hx : a.eval x = .slice (some ⟨g, 0, none⟩) 1 1) (hg : w.heap[g]? = some (.cells #[.int .i64 y] 3 (0, 0))) (hlen : l.length ≤ 1000000)
    (h : ∀ (v' : Value) (w' : World), OwnI w' w.heap.size v' (l ++ [y]) → Turned w w' (fun _ => False) → K (a.put o.dst v') w') :
    if Region.wanted o (yielded ops a.tmps) = true then Oper.wp Try.prog o a w K Q else E := by
  have hw : Region.wanted o (yielded ops a.tmps) = true := by simp [Region.wanted, hgd]
  rw [if_pos hw]
  obtain ⟨v', w', hr, h1, h2⟩ := run_append_full w o.type hv p cap he g y hg hlen
  unfold Oper.wp execOp
  simp only [ho, resolve, invoke, builtin, Sem.run_bind, Sem.run_pure, Result.andThen_ok, List.map_toArray, List.map_cons, List.map_nil, hs, hx, hr]
  exact h v' w' h1 h2

/-- A row of lists of numbers of the call's own. -/
def OwnL (w : World) (B : Nat) (v : Value) (L : List (List Int)) : Prop :=
  ∃ vs : List Value, vs.length = L.length ∧ (∀ (i : Nat) (u : Value) (x : List Int), vs[i]? = some u → L[i]? = some x → RowB w u x) ∧ w.ownsRow B 37 1 v L.length vs

theorem OwnL.form {w : World} {B : Nat} {v : Value} {L : List (List Int)} (h : OwnL w B v L) : ∃ a cap, v = .slice a L.length cap := by
  obtain ⟨vs, -, -, h⟩ := h
  rcases h.2 with ⟨hv, h0⟩ | ⟨g, cap, cur, hv, _⟩
  · exact ⟨none, 0, by rw [hv, h0]⟩
  · exact ⟨_, cap, hv⟩

theorem OwnL.turned {w w' : World} {B : Nat} {v : Value} {L : List (List Int)} {D : Nat → Prop} (h : OwnL w B v L) (t : Turned w w' D) (k : KeepsB 3 w w') (hn : ∀ g, v.ownBlock = some g → ¬ D g) : OwnL w' B v L := by
  obtain ⟨vs, h1, h2, h3⟩ := h
  exact ⟨vs, h1, fun i u x hu hx => (h2 i u x hu hx).keeps k, ownsRow_turned h3 t hn⟩

theorem OwnL.nil (w : World) (B : Nat) : OwnL w B (.slice none 0 0) [] := ⟨[], rfl, fun i u x hu => by simp at hu, by trivial, .inl ⟨rfl, rfl⟩⟩

theorem OwnL.tag {w : World} {B : Nat} {v : Value} {L : List (List Int)} (h : OwnL w B v L) {g : Nat} (hg : v.ownBlock = some g) : B ≤ g ∧ ∃ c, w.heap[g]? = some (.cells c 37 (0, 0)) := by
  obtain ⟨vs, -, -, h⟩ := h
  exact ownsRow_tag h hg

theorem Try.infoInts : (Try.prog.info? 37).map (fun i => (i.zero, i.size, i.bytes)) = some (some (.slice none 0 0), 1, 24) := by kernel_rfl

/-- What the functions of Paths look at. -/
structure Pth (w0 : World) (bo bl : Nat) (L : List (List Int)) (w : World) : Prop where
  turned : Turned w0 w (fun _ => False)
  ho : ∃ v, w.heap[bo]? = some (.cells #[v] 31 (0, 0)) ∧ OwnL w w0.heap.size v L
  hl : w.heap[bl]? = some (.cells #[.func (.func 44) #[] #[.pointer (some ⟨bo, 0, none⟩), .pointer (some ⟨bl, 0, none⟩)]] 77 (0, 0))
  lo : w0.heap.size ≤ bo

theorem Pth.step {w0 : World} {bo bl : Nat} {L : List (List Int)} {w w' : World} (h : Pth w0 bo bl L w) (t : Turned w w' (fun _ => False)) : Pth w0 bo bl L w' := by
  obtain ⟨v, h1, h2⟩ := h.ho
  exact ⟨h.turned.trans t (fun _ _ hf => hf), ⟨v, turn_keep t h1, h2.turned t (KeepsB.of t) (fun _ _ hf => hf)⟩, turn_keep t h.hl, h.lo⟩

theorem run_paths1 (x y : Value) (bo bl : Nat) (w : World) : (callFunc 44 (#[x, y] ++ #[.pointer (some ⟨bo, 0, none⟩), .pointer (some ⟨bl, 0, none⟩)])).run Try.prog w = .ok (.enter 44 (#[x, y] ++ #[.pointer (some ⟨bo, 0, none⟩), .pointer (some ⟨bl, 0, none⟩)])) w := by kernel_rfl

/-- One place more. -/
theorem append_list {ops : Array Oper} {rest : List Oper} {o : Oper} {a : Act} {Q : Exit → Act → World → Prop} (w : World) (hgd : o.guard = none) (s x : Operand)
    (ho : o.op = .call { callee := .builtin .append, args := #[s, x], argTypes := #[31, 31] }) (w0 : World) (bo bl : Nat) (L : List (List Int)) (hP : Pth w0 bo bl L w) (v : Value) (hbo : w.heap[bo]? = some (.cells #[v] 31 (0, 0))) (hs : a.eval s = v) (g : Nat) (y : Value) (p : List Int) (hy : RowB w y p)
    (hx : a.eval x = .slice (some ⟨g, 0, none⟩) 1 1) (hg : w.heap[g]? = some (.cells #[y] 37 (0, 0))) (hlen : L.length ≤ 1000000)
    (h : ∀ (q' : Option Addr) (c' : Nat) (w' : World), w'.heap[bo]? = some (.cells #[v] 31 (0, 0)) → Pth w0 bo bl (L ++ [p]) (w'.setCell ⟨bo, 0, none⟩ (.slice q' (L.length + 1) c')) → KeepsT w (w'.setCell ⟨bo, 0, none⟩ (.slice q' (L.length + 1) c')) → KeepsB 3 w (w'.setCell ⟨bo, 0, none⟩ (.slice q' (L.length + 1) c')) → wpList Try.prog ops Q rest (a.put o.dst (.slice q' (L.length + 1) c')) w') : wpList Try.prog ops Q (o :: rest) a w := by
  obtain ⟨i0, hi0, hz0, hz1, hz2⟩ := info_parts Try.infoInts
  obtain ⟨v1, hb1, hO⟩ := hP.ho
  rw [hbo] at hb1
  simp only [Option.some.injEq, Obj.cells.injEq, Array.mk.injEq, List.cons.injEq, and_true] at hb1
  subst hb1
  obtain ⟨q, cq, hq⟩ : ∃ a cap, y = .slice a p.length cap := by obtain ⟨a, cap, h1, -⟩ := hy; exact ⟨a, cap, h1⟩
  have hO2 := hO
  obtain ⟨vs, hl, hc, hr⟩ := hO2
  have hBs : w0.heap.size ≤ w.heap.size := hP.turned.size
  refine wpList_append_own w hgd s x _ ho w0.heap.size 37 i0 (.slice none 0 0) 1 24 Try.underlying31 hi0 hz0 hz1 hz2 rfl (by omega) v L.length _ hs hr ⟨g, 0, none⟩ 1 1 [y] hx rfl (World.news_of_block hg) (by rw [hq]; simp [Value.oneCell'])
    (by unfold maxLen; omega) (by omega) hBs ?_
  intro v' w' ho' hgr hnil
  obtain ⟨q', c', rfl⟩ : ∃ q' c', v' = .slice q' (L.length + 1) c' := by
    rcases ho'.2 with ⟨hv, h0⟩ | ⟨g, cap, cur, hv, _⟩
    · omega
    · exact ⟨_, cap, hv⟩
  have hT : Turned w w' (fun k => v.ownBlock = some k) := Turned.grown (Turned.refl _ _) hgr (fun k _ e => e)
  have hkeep : ∀ (k : Nat) (c : Array Value) (t : TypeId), t ≠ 37 → w.heap[k]? = some (.cells c t (0, 0)) → w'.heap[k]? = some (.cells c t (0, 0)) := fun k c t ht hk =>
    (hT.block k (lt_of_block hk) (fun e => by
      obtain ⟨-, cc, hcc⟩ := hO.tag e
      rw [hk] at hcc
      simp only [Option.some.injEq, Obj.cells.injEq] at hcc
      exact ht hcc.2.1)).trans hk
  have ko := hkeep bo _ _ (by decide) hbo
  have ts : Turned w' (w'.setCell ⟨bo, 0, none⟩ (.slice q' (L.length + 1) c')) (fun k => k = bo) := Turned.setCell (D := fun k => k = bo) (Turned.refl _ _) (p := ⟨bo, 0, none⟩) (fun _ => rfl) _
  have hkeep2 : ∀ (k : Nat) (c : Array Value) (t : TypeId), t ≠ 37 → t ≠ 31 → w.heap[k]? = some (.cells c t (0, 0)) → (w'.setCell ⟨bo, 0, none⟩ (.slice q' (L.length + 1) c')).heap[k]? = some (.cells c t (0, 0)) := fun k c t h1 h2 hk =>
    (ts.block k (lt_of_block (hkeep k c t h1 hk)) (fun e => by
      rw [e, hbo] at hk
      simp only [Option.some.injEq, Obj.cells.injEq] at hk
      exact h2 hk.2.1.symm)).trans (hkeep k c t h1 hk)
  have hsz : w.heap.size ≤ (w'.setCell ⟨bo, 0, none⟩ (.slice q' (L.length + 1) c')).heap.size := Nat.le_trans hT.size ts.size
  have hlo := hP.lo
  have kI : KeepsB 3 w (w'.setCell ⟨bo, 0, none⟩ (.slice q' (L.length + 1) c')) := ⟨hsz, fun k c hk => hkeep2 k c _ (by decide) (by decide) hk⟩
  have hLl : (L ++ [p]).length = L.length + 1 := by simp
  have hown : w'.ownsRow w0.heap.size 37 1 (.slice q' (L.length + 1) c') (L ++ [p]).length (vs ++ [y]) := by rw [hLl]; exact ho'
  refine h q' c' w' ko ⟨?_, ⟨(.slice q' (L.length + 1) c'), setCell_one ko, vs ++ [y], by simp [hl], fun i u x' hu hx' => ?_, ownsRow_turned hown ts (fun k hk e => ?_)⟩, hkeep2 _ _ _ (by decide) (by decide) hP.hl, hlo⟩ ⟨hsz, fun k c hk => hkeep2 k c _ (by decide) (by decide) hk⟩ kI
  · exact (hP.turned.trans hT (fun i hi e => by have := (hO.tag e).1; omega)).trans ts (fun i hi e => by omega)
  · rcases Nat.lt_or_ge i vs.length with hi | hi
    · rw [List.getElem?_append_left hi] at hu
      rw [List.getElem?_append_left (by omega)] at hx'
      exact (hc i u x' hu hx').keeps kI
    · rw [List.getElem?_append_right hi] at hu
      rw [List.getElem?_append_right (by omega), ← hl] at hx'
      rcases Nat.eq_zero_or_pos (i - vs.length) with h0 | h0
      · rw [h0] at hu hx'
        simp only [List.getElem?_cons_zero, Option.some.injEq] at hu hx'
        subst hu; subst hx'
        exact hy.keeps kI
      · rw [List.getElem?_eq_none (by simp; omega)] at hu
        cases hu
  · obtain ⟨-, c, hc2⟩ := ownsRow_tag hown hk
    rw [e, ko] at hc2
    simp at hc2

theorem Tm.depth_mem : ∀ {l : List Tm} {t : Tm}, t ∈ l → t.depth ≤ Tm.depths l 0
  | y :: l, t, h => by
    simp only [Tm.depths]
    rw [Tm.depths_max l (max 0 y.depth)]
    rcases List.mem_cons.1 h with rfl | h
    · omega
    · have := Tm.depth_mem h
      omega

mutual
theorem Tm.paths_len : ∀ (t : Tm) (p : List Int), (t.paths p).length = t.size
  | .node k n l, p => by simp only [Tm.paths, List.length_cons, Tm.size, Tm.pathss_len l p 0]
theorem Tm.pathss_len : ∀ (l : List Tm) (p : List Int) (i : Nat), (Tm.pathss l p i).length = Tm.sizes l
  | [], _, _ => rfl
  | t :: l, p, i => by simp only [Tm.pathss, List.length_append, Tm.paths_len t, Tm.pathss_len l, Tm.sizes]
end

set_option maxRecDepth 100000 in
set_option maxHeartbeats 3200000 in
theorem paths1_any (w0 : World) (bo bl : Nat) : ∀ (ta : Tm) (va vp : Value) (p : List Int) (L : List (List Int)) (w : World), TmIn w0 ta va → RowB w vp p → Pth w0 bo bl L w → L.length + ta.size ≤ 1000000 → p.length + ta.depth ≤ 1000000 →
    Calls Try.prog 44 #[va, vp, .pointer (some ⟨bo, 0, none⟩), .pointer (some ⟨bl, 0, none⟩)] w fun e w' => (∃ v, e = .returned v) ∧ Pth w0 bo bl (L ++ ta.paths p) w' ∧ KeepsT w w' ∧ KeepsB 3 w w' := by
  intro ta
  refine Tm.ind (P := fun ta => ∀ (va vp : Value) (p : List Int) (L : List (List Int)) (w : World), TmIn w0 ta va → RowB w vp p → Pth w0 bo bl L w → L.length + ta.size ≤ 1000000 → p.length + ta.depth ≤ 1000000 →
    Calls Try.prog 44 #[va, vp, .pointer (some ⟨bo, 0, none⟩), .pointer (some ⟨bl, 0, none⟩)] w fun e w' => (∃ v, e = .returned v) ∧ Pth w0 bo bl (L ++ ta.paths p) w' ∧ KeepsT w w' ∧ KeepsB 3 w w') ?_ ta
  clear ta
  intro ka na la ih va vp p L w ha hp hP hlen hdep
  obtain ⟨aa, ca, rfl, hla, ra⟩ := ha
  have hla2 := hla
  unfold maxLen at hla2
  have hp2 := hp
  obtain ⟨ap, cp, rfl, hpc, hpm, -, -⟩ := hp2
  obtain ⟨W, hW, tW, -⟩ := box1 w (.int .i64 ka) (.int .i64 na) (.slice aa la.length ca) 24
  have hPW := hP.step tW
  obtain ⟨v, hbo, hO⟩ := hPW.ho
  obtain ⟨av, cv, rfl⟩ := hO.form
  have q0 : W.cell? ⟨bo, 0, none⟩ = some (.slice av L.length cv) := by simp [World.cell?, hbo]
  have q1 := lt_of_block hbo
  have tA : Turned W (W.alloc (.cells #[.slice ap p.length cp] 37)) (fun _ => False) := (Turned.refl _ _).alloc _
  have hPA := hPW.step tA
  have hboA := turn_keep tA hbo
  have hpA := hp.keeps (KeepsB.of (tW.trans tA (fun _ _ hf => hf)))
  have hG := heap_alloc_new W (.cells #[.slice ap p.length cp] 37)
  have hLl : L.length ≤ 1000000 := by omega
  have hss : L.length + 1 + Tm.sizes la ≤ 1000000 := by simp only [Tm.size] at hlen; omega
  have hpl : p.length ≤ 1000000 := by omega
  have hdk : ∀ t ∈ la, p.length + 1 + t.depth ≤ 1000000 := fun t ht => by
    simp only [Tm.depth] at hdep
    have := Tm.depth_mem ht
    omega
  have HW := Lib.hid hW
  have KW := Lib.hid (KeepsT.of (tW.trans tA (fun _ _ hf => hf)))
  have KI := Lib.hid (KeepsB.of (T := 3) (tW.trans tA (fun _ _ hf => hf)))
  have KB := Lib.hid (KeepsT.box hW (KeepsT.of tA))
  have Ih := Lib.hid ih
  have Ra := Lib.hid ra
  have Hp := Lib.hid hp
  have Hdk := Lib.hid hdk
  have KWb := Lib.hid (show KeepsT W (W.alloc (.cells #[.slice ap p.length cp] 37)) from KeepsT.of tA)
  have hmf : ∀ (fn : Fn) (first cap : Array Value) (w : World), (Instr.makeFunc fn first cap).run Try.prog w = .ok (.func fn first cap) w := fun _ _ _ _ => rfl
  clear ih ra hW tW tA hP hPW hbo hO hp hdk hlen hdep
  have HAp := Lib.hid (And.intro hPA (And.intro hboA (And.intro hpA hG)))
  clear hPA hboA hpA hG
  go_enter Try.func44, Try.ntmps44
  go_upto_region 1 with fail
  rw [← HW.out]
  go_upto_region 2 with (at_builtin; refine append_list _ (by rfl) _ _ (by rfl) w0 bo bl L HAp.out.1 (.slice av L.length cv) HAp.out.2.1 (by rfl) W.heap.size (.slice ap p.length cp) p HAp.out.2.2.1 (by rfl) HAp.out.2.2.2 hLl ?_; intro q5 c5 w5 k5 hP5 hK5 hI5; have m0 : w5.cell? ⟨bo, 0, none⟩ = some (.slice av L.length cv) := (by simp [World.cell?, k5]); have m1 : w5.frozen? ⟨bo, 0, none⟩ = false := (by simp [World.frozen?, k5]); have m2 := lt_of_block k5; have HP5 := Lib.hid hP5; have HK5 := Lib.hid (KWb.out.trans hK5); have HK5b := Lib.hid hK5; have HI5 := Lib.hid hI5; clear k5 hP5 hK5 hI5)
  have kbox := KeepsT.box HW.out HK5.out
  have hP5 := HP5.out
  have kk5 := KW.out.trans (KeepsT.trans (KeepsT.refl _) (show KeepsT (W.alloc (.cells #[.slice ap p.length cp] 37)) _ from HK5b.out))
  have ki5 := KI.out.trans HI5.out
  generalize w5.setCell ⟨bo, 0, none⟩ (.slice q5 (L.length + 1) c5) = V at *
  have Kbox := Lib.hid kbox
  have HPV := Lib.hid hP5
  have KKV := Lib.hid kk5
  have KIV := Lib.hid ki5
  have HKV := Lib.hid HK5.out
  clear m0 m1 m2 HP5 HK5 HK5b HI5 hP5 kk5 ki5 q0 q1 HAp KB KW KI KWb
  obtain ⟨-, -, -, n2, n3⟩ := kbox
  go_wp2
  clear n2 n3
  go_loopw [15] (fun i wr => ∃ k : Nat, k ≤ la.length ∧ i = .int .i64 k ∧ Pth w0 bo bl (L ++ [p] ++ Tm.pathss (la.take k) p 0) wr ∧ KeepsT w wr ∧ KeepsB 3 w wr) (fun i _ => la.length - (intOf i).toNat)
  case atStart => exact ⟨0, Nat.zero_le _, rfl, by simpa [Tm.pathss] using HPV.out, KKV.out, KIV.out⟩
  case round =>
    obtain ⟨k, hk, rfl, hPr, hkT, hkI⟩ := hrel
    by_cases hlt : k < la.length
    · have hki : (k : Int) < (la.length : Int) := by omega
      obtain ⟨ga, oa, sa, sc, rfl, lga, xa0, xa1, xa2, xat⟩ := tmsIn_at2 Ra.out k hlt
      have lga' : ga < wr.heap.size := Nat.lt_of_lt_of_le lga hPr.turned.size
      have p0 := (hPr.turned.cell (p := ⟨ga, oa + k * 3, none⟩) lga (fun hf => hf)).trans xa0
      have p1 := (hPr.turned.cell (p := ⟨ga, oa + k * 3 + 1, none⟩) lga (fun hf => hf)).trans xa1
      have p2 := (hPr.turned.cell (p := ⟨ga, oa + k * 3 + 2, none⟩) lga (fun hf => hf)).trans xa2
      obtain ⟨U, hU, tU, hCU⟩ := box1 wr (.int .i64 la[k].kind) (.int .i64 la[k].num) (.slice sa la[k].kids.length sc) 24
      obtain ⟨u0, u1, u2, lU⟩ := hCU U (Turned.refl _ _)
      have hPU := hPr.step tU
      have z0 : U.cell? ⟨bl, 0, none⟩ = some (.func (.func 44) #[] #[.pointer (some ⟨bo, 0, none⟩), .pointer (some ⟨bl, 0, none⟩)]) := by simp [World.cell?, hPU.hl]
      have z1 := lt_of_block hPU.hl
      have hpU := Hp.out.keeps (hkI.trans (KeepsB.of tU))
      have hsz2 : (L ++ [p] ++ Tm.pathss (la.take k) p 0).length + la[k].size ≤ 1000000 := by
        have h1 := Tm.pathss_len (la.take k) p 0
        have h3 := Tm.sizes_app (la.take (k + 1)) (la.drop (k + 1))
        rw [List.take_append_drop, List.take_succ_eq_append_getElem hlt, Tm.sizes_app] at h3
        simp only [Tm.sizes] at h3
        simp only [List.length_append, List.length_cons, List.length_nil]
        omega
      have Hcall := Lib.hid (fun (X : World) (hX : Turned U X (fun _ => False)) (v' : Value) (hv : RowB X v' (p ++ [(k : Int)])) => Ih.out la[k] (List.getElem_mem hlt) (.agg #[.int .i64 la[k].kind, .int .i64 la[k].num, .slice sa la[k].kids.length sc]) v' (p ++ [(k : Int)]) _ X xat hv (hPU.step hX) hsz2 (by have := Hdk.out la[k] (List.getElem_mem hlt); simp only [List.length_append, List.length_cons, List.length_nil]; omega))
      have hsn : L ++ [p] ++ Tm.pathss (la.take k) p 0 ++ la[k].paths (p ++ [(k : Int)]) = L ++ [p] ++ Tm.pathss (la.take (k + 1)) p 0 := by
        rw [List.take_succ_eq_append_getElem hlt, Tm.pathss_snoc, List.length_take]
        rw [show 0 + min k la.length = k by omega]
        simp
      rw [hsn] at Hcall
      have HU := Lib.hid hU
      have HkT := Lib.hid (hkT.trans (KeepsT.of tU))
      have HkI := Lib.hid (hkI.trans (KeepsB.of tU))
      have HpU := Lib.hid hpU
      have HPU := Lib.hid hPU
      have hrunq := fun (y : Value) => run_paths1 (.agg #[.int .i64 la[k].kind, .int .i64 la[k].num, .slice sa la[k].kids.length sc]) y bo bl
      have rU := bcellT (Turned.refl U (fun _ => False))
      clear xa0 xa1 xa2 xat lga hPr hCU tU hU hkT hkI hpU hPU hsz2 hsn rU
      generalize la[k].kind = xk at *
      generalize la[k].num = xn at *
      generalize la[k].kids.length = xm at *
      go_upto_region 5 with fail
      rw [← HU.out]
      go_region_law (first
        | (refine step_append_full _ (by rfl) _ _ (by rfl) (.slice ap p.length cp) p (HpU.out.keeps (KeepsB.of (by repeat (first | assumption | exact Turned.refl _ _ | apply Turned.alloc | apply Turned.drew)))) ap cp rfl (by rfl) U.heap.size (k : Int) (by rfl) (by exact heap_alloc_new U (.cells #[.int .i64 (k : Int)] 3)) hpl ?_; intro v5 w5 ho5 ht5;
           have t5 : Turned U w5 (fun _ => False) := (Turned.trans (by repeat (first | assumption | exact Turned.refl _ _ | apply Turned.alloc | apply Turned.drew)) ht5 (fun _ _ hf => hf)); have hl5 := turn_keep t5 HPU.out.hl; have zz0 : w5.cell? ⟨bl, 0, none⟩ = some (.func (.func 44) #[] #[.pointer (some ⟨bo, 0, none⟩), .pointer (some ⟨bl, 0, none⟩)]) := (by simp [World.cell?, hl5]);
           have zz1 := lt_of_block hl5; obtain ⟨-, y0, y1, y2, y3⟩ := KeepsT.box HU.out (KeepsT.of t5); have HO5 := Lib.hid ho5.rowB; have T5 := Lib.hid t5; clear ho5 ht5 t5 hl5)
        | (go_simp; go_at_call 44; refine (Hcall.out w5 T5.out v5 HO5.out).mono ?_; rintro e w6 ⟨⟨v6, rfl⟩, hP6, k6, i6⟩; have HP6 := Lib.hid hP6; have K6 := Lib.hid (HkT.out.trans ((KeepsT.of T5.out).trans k6)); have I6 := Lib.hid (HkI.out.trans ((KeepsB.of T5.out).trans i6)); clear hP6 k6 i6))
      all_goals
        clear y0 y1 y2 y3 zz0 zz1 z0 z1 u0 u1 u2 lU p0 p1 p2 hrunq
        go_wp2
        go_roundw
        case rel => exact ⟨k + 1, by omega, by go_num, HP6.out, K6.out, I6.out⟩
        case measure => simp [intOf]; omega
    · obtain rfl : k = la.length := by omega
      rw [List.take_of_length_le (Nat.le_refl _)] at hPr
      have Hfin := Lib.hid (show Pth w0 bo bl (L ++ (Tm.node ka na la).paths p) wr by
        simp only [Tm.paths]
        rw [show L ++ p :: Tm.pathss la p 0 = L ++ [p] ++ Tm.pathss la p 0 by simp]
        exact hPr)
      have HkT := Lib.hid hkT
      have HkI := Lib.hid hkI
      clear hPr hkT hkI
      go_wp2
      go_end0
      exact ⟨⟨_, rfl⟩, Hfin.out, HkT.out, HkI.out⟩

/-- What Paths gives. -/
def PathsP (w : World) (t : Tm) (e : Ending) (w' : World) : Prop :=
  (t.isTree = true → ∃ v, e = .returned (.tuple #[v, .int .i64 0]) ∧ OwnL w' w.heap.size v (t.paths [])) ∧ (t.isTree = false → e = .returned (.tuple #[.slice none 0 0, .int .i64 4])) ∧ Turned w w' (fun _ => False)

set_option maxRecDepth 100000 in
set_option maxHeartbeats 1600000 in
theorem sigPaths_any (ta : Tm) (va : Value) (w : World) (ha : TmIn w ta va) : Calls Try.prog 14 #[va] w (PathsP w ta) := by
  obtain ⟨aa, ca, rfl, hla, -⟩ := ha.form
  obtain ⟨W, hW, tW, hC⟩ := box1 w (.int .i64 ta.kind) (.int .i64 ta.num) (.slice aa ta.kids.length ca) 24
  obtain ⟨c0, c1, c2, lW⟩ := hC W (Turned.refl _ _)
  have hE : ta.treeE = if ta.isTree = true then 0 else 4 := rfl
  have HTree := Lib.hid (tree_any ta _ W (TmIn.turned tW _ ha))
  have hmf : ∀ (fn : Fn) (first cap : Array Value) (w : World), (Instr.makeFunc fn first cap).run Try.prog w = .ok (.func fn first cap) w := fun _ _ _ _ => rfl
  by_cases ht : ta.isTree = true
  rotate_left 1
  · rw [if_neg ht] at hE
    rw [hE] at HTree
    have HW := Lib.hid hW
    have TW := Lib.hid tW
    have Hnt := Lib.hid ht
    clear hE ht hC hW tW ha hla
    go_enter Try.func14, Try.ntmps14
    go_upto_region 1 with fail
    rw [← HW.out]
    go_wp2_with fail
    refine HTree.out.mono ?_
    rintro e w1 ⟨rfl, t1⟩
    have Hfin := Lib.hid (show PathsP w ta (.returned (.tuple #[.slice none 0 0, .int .i64 4])) w1 from ⟨fun h => absurd h Hnt.out, fun _ => rfl, TW.out.trans t1 (fun _ _ hf => hf)⟩)
    clear t1 c0 c1 c2 lW
    go_wp2
    go_ret2
    exact Hfin.out
  rw [if_pos ht] at hE
  rw [hE] at HTree
  have hbd := (Tm.isTree_iff ta).1 ht
  have Hcall := Lib.hid (fun (w1 : World) (t1 : Turned w w1 (fun _ => False)) (V : World) (hV : V = (w1.alloc (.cells #[.slice none 0 0] 31)).alloc (.cells #[.func (.func 44) #[] #[.pointer (some ⟨w1.heap.size, 0, none⟩), .pointer (some ⟨w1.heap.size + 1, 0, none⟩)]] 77)) => by
    have hz : (w1.alloc (.cells #[.slice none 0 0] 31)).heap.size = w1.heap.size + 1 := by simp
    have k0 : V.heap[w1.heap.size]? = some (.cells #[.slice none 0 0] 31 (0, 0)) := by rw [hV]; exact alloc_keep (heap_alloc_new _ _)
    have k1 : V.heap[w1.heap.size + 1]? = some (.cells #[.func (.func 44) #[] #[.pointer (some ⟨w1.heap.size, 0, none⟩), .pointer (some ⟨w1.heap.size + 1, 0, none⟩)]] 77 (0, 0)) := by rw [hV]; exact alloc_at hz
    have tV : Turned w1 V (fun _ => False) := by rw [hV]; exact ((Turned.refl _ _).alloc _).alloc _
    have hP : Pth w w1.heap.size (w1.heap.size + 1) [] V := ⟨t1.trans tV (fun _ _ hf => hf), ⟨_, k0, OwnL.nil _ _⟩, k1, t1.size⟩
    exact And.intro hP (paths1_any w w1.heap.size (w1.heap.size + 1) ta _ (.slice none 0 0) [] [] V ha (RowB.nil V) hP (by simp only [List.length_nil]; omega) (by simp only [List.length_nil]; omega)))
  simp only [List.nil_append] at Hcall
  have HW := Lib.hid hW
  have HC := Lib.hid hC
  have TW := Lib.hid tW
  have Hit := Lib.hid ht
  have hrun := run_paths1 (.agg #[.int .i64 ta.kind, .int .i64 ta.num, .slice aa ta.kids.length ca]) (.slice none 0 0)
  clear hE hC hW tW ha hla hbd ht
  generalize ta.kind = xk at *
  generalize ta.num = xn at *
  generalize ta.kids.length = xl at *
  go_enter Try.func14, Try.ntmps14
  go_upto_region 1 with fail
  rw [← HW.out]
  go_wp2_with fail
  refine HTree.out.mono ?_
  rintro e w1 ⟨rfl, t1⟩
  clear c0 c1 c2 lW
  obtain ⟨V, hV⟩ : ∃ V, V = (w1.alloc (.cells #[.slice none 0 0] 31)).alloc (.cells #[.func (.func 44) #[] #[.pointer (some ⟨w1.heap.size, 0, none⟩), .pointer (some ⟨w1.heap.size + 1, 0, none⟩)]] 77) := ⟨_, rfl⟩
  obtain ⟨hP, hcall⟩ := Hcall.out w1 (TW.out.trans t1 (fun _ _ hf => hf)) V hV
  obtain ⟨c0, c1, c2, lW⟩ := HC.out V (t1.trans (by rw [hV]; exact ((Turned.refl _ _).alloc _).alloc _) (fun _ _ hf => hf))
  have z0 : V.cell? ⟨w1.heap.size + 1, 0, none⟩ = some (.func (.func 44) #[] #[.pointer (some ⟨w1.heap.size, 0, none⟩), .pointer (some ⟨w1.heap.size + 1, 0, none⟩)]) := by simp [World.cell?, hP.hl]
  have z1 := lt_of_block hP.hl
  have Hc2 := Lib.hid hcall
  have HV := Lib.hid hV
  clear hV hP hcall t1
  go_upto_region 6 with fail
  rw [← HV.out]
  go_wp2_with fail
  refine Hc2.out.mono ?_
  rintro e w2 ⟨⟨v2, rfl⟩, hP2, -, -⟩
  obtain ⟨v3, h3, h4⟩ := hP2.ho
  have e0 : w2.cell? ⟨w1.heap.size, 0, none⟩ = some v3 := by simp [World.cell?, h3]
  have e1 := lt_of_block h3
  have Hfin := Lib.hid (show PathsP w ta (.returned (.tuple #[v3, .int .i64 0])) w2 from ⟨fun _ => ⟨v3, rfl, h4⟩, fun h => (by rw [Hit.out] at h; cases h), hP2.turned⟩)
  clear h3 h4 hP2 c0 c1 c2 lW z0 z1 hrun
  go_wp2
  go_ret2
  exact Hfin.out
end Go.Proofs.Ytljnmjehokijgaa

/- Sorts of terms: areBelow, fits. -/
namespace Go.Proofs.Ytljnmjehokijgaa
open Go.RowKit

/-- All rows stay. -/
def KeepsC (w w' : World) : Prop := w.heap.size ≤ w'.heap.size ∧ ∀ (b : Nat) (c : Array Value) (t : TypeId) (z : Nat × Nat), w.heap[b]? = some (.cells c t z) → w'.heap[b]? = some (.cells c t z)
theorem KeepsC.refl (w : World) : KeepsC w w := ⟨Nat.le_refl _, fun _ _ _ _ h => h⟩
theorem KeepsC.trans {a b c : World} (h : KeepsC a b) (k : KeepsC b c) : KeepsC a c := ⟨Nat.le_trans h.1 k.1, fun i x t z hx => k.2 i x t z (h.2 i x t z hx)⟩
theorem KeepsC.of {a b : World} (h : Turned a b (fun _ => False)) : KeepsC a b := ⟨h.size, fun _ _ _ _ hx => turn_keep h hx⟩

/-- Is a number from 0 to below n? -/
def belowB (n : Nat) (x : Int) : Bool := decide (0 ≤ x) && decide (x < n)

theorem isBelow_any (x : Int) (n : Nat) (w : World) : Calls Try.prog 46 #[.int .i64 x, .int .i64 n] w fun e w' => e = .returned (.bool (belowB n x)) ∧ w = w' := by
  unfold belowB
  by_cases h1 : 0 ≤ x
  · by_cases h2 : x < n
    · rw [decide_eq_true h1, decide_eq_true h2]
      go_enter Try.func46, Try.ntmps46
      go_wp2
      go_ret
      exact ⟨rfl, rfl⟩
    · rw [decide_eq_true h1, decide_eq_false h2]
      have h3 := decide_eq_false h2
      go_enter Try.func46, Try.ntmps46
      go_wp2
      go_ret
      exact ⟨(by first | rfl | (show Ending.returned (.bool (decide (x < n))) = _; rw [h3]; rfl)), rfl⟩
  · rw [decide_eq_false h1, Bool.false_and]
    go_enter Try.func46, Try.ntmps46
    go_wp2
    go_ret
    exact ⟨rfl, rfl⟩

set_option maxRecDepth 100000 in
set_option maxHeartbeats 1600000 in
theorem areBelow_any (l : List Int) (n : Nat) (v : Value) (w : World) (ha : RowI w v l) :
    Calls Try.prog 69 #[v, .int .i64 n] w fun e w' => e = .returned (.bool (l.all (belowB n))) ∧ w = w' := by
  have ha2 := ha
  obtain ⟨aa, ca, rfl, hla, -⟩ := ha2
  have hla2 := hla
  unfold maxLen at hla2
  have Ha := Lib.hid ha
  clear ha
  go_enter Try.func69, Try.ntmps69
  go_wp2
  go_loopw [9] (fun i wr => ∃ k : Nat, k ≤ l.length ∧ i = .int .i64 k ∧ (l.take k).all (belowB n) = true ∧ w = wr) (fun i _ => l.length - (intOf i).toNat)
  case atStart => exact ⟨0, Nat.zero_le _, rfl, rfl, rfl⟩
  case round =>
    obtain ⟨k, hk, rfl, htk, rfl⟩ := hrel
    have Htk := Lib.hid htk
    clear htk
    by_cases hlt : k < l.length
    · have hki : (k : Int) < (l.length : Int) := by omega
      obtain ⟨ga, oa, rfl, lga, xa⟩ := Ha.out.at k hlt
      have Hcall := Lib.hid (isBelow_any l[k] n w)
      have Hno := Lib.hid (fun (h : belowB n l[k] = false) => show l.all (belowB n) = false by
        rw [List.all_eq_false]
        exact ⟨_, List.getElem_mem hlt, by simpa using h⟩)
      have Hyes := Lib.hid (fun (h : belowB n l[k] = true) => show (l.take (k + 1)).all (belowB n) = true by
        rw [List.take_succ_eq_append_getElem hlt, List.all_append, Htk.out]
        simp [h])
      generalize belowB n l[k] = b at *
      generalize l[k] = x at *
      go_wp2_with fail
      refine Hcall.out.mono ?_
      rintro e w1 ⟨rfl, rfl⟩
      cases b
      · have Hf := Lib.hid (Hno.out rfl)
        clear Hno Hyes
        go_wp2
        go_ret
        rw [Hf.out]
        exact ⟨rfl, rfl⟩
      · have Hf := Lib.hid (Hyes.out rfl)
        clear Hno Hyes
        go_wp2
        go_roundw
        case rel => exact ⟨k + 1, by omega, by go_num, Hf.out, by first | rfl | trivial⟩
        case measure => simp [intOf]; omega
    · obtain rfl : k = l.length := by omega
      have hfin : l.all (belowB n) = true := by
        have h5 := Htk.out
        rwa [List.take_of_length_le (Nat.le_refl _)] at h5
      have Hfin := Lib.hid hfin
      clear hfin
      go_wp2
      go_ret
      rw [Hfin.out]
      exact ⟨rfl, rfl⟩

mutual
/-- Is a tree a term of a sort, if variables have the sorts that f admits? -/
def Tm.fitsT {σ : Type} (f : σ → Int → Int → σ × Bool) (ops : List OpD) : Tm → Int → σ → σ × Bool
  | .node kd n l, k, s => if kd = 1 then f s n k else match ops[n.toNat]? with
    | none => (s, false)
    | some o => if o.res ≠ k ∨ o.args.length ≠ l.length then (s, false) else Tm.fitsTs f ops l o.args s
def Tm.fitsTs {σ : Type} (f : σ → Int → Int → σ × Bool) (ops : List OpD) : List Tm → List Int → σ → σ × Bool
  | [], _, s => (s, true)
  | _ :: _, [], s => (s, true)
  | t :: l, a :: ar, s => if (t.fitsT f ops a s).2 = true then Tm.fitsTs f ops l ar (t.fitsT f ops a s).1 else ((t.fitsT f ops a s).1, false)
end

theorem Tm.fitsTs_snoc {σ : Type} (f : σ → Int → Int → σ × Bool) (ops : List OpD) : ∀ (l : List Tm) (ar : List Int) (t : Tm) (a : Int) (s : σ), l.length = ar.length →
    Tm.fitsTs f ops (l ++ [t]) (ar ++ [a]) s = if (Tm.fitsTs f ops l ar s).2 = true then t.fitsT f ops a (Tm.fitsTs f ops l ar s).1 else Tm.fitsTs f ops l ar s
  | [], [], t, a, s, _ => by
    simp only [List.nil_append, Tm.fitsTs, if_true]
    rcases t.fitsT f ops a s with ⟨x, b⟩
    cases b <;> simp
  | x :: l, y :: ar, t, a, s, h => by
    simp only [List.cons_append, Tm.fitsTs]
    split
    · exact Tm.fitsTs_snoc f ops l ar t a _ (by simpa using h)
    · simp

theorem Tm.fitsTs_stop {σ : Type} (f : σ → Int → Int → σ × Bool) (ops : List OpD) : ∀ (l m : List Tm) (ar bs : List Int) (s : σ), l.length = ar.length → (Tm.fitsTs f ops l ar s).2 = false → Tm.fitsTs f ops (l ++ m) (ar ++ bs) s = Tm.fitsTs f ops l ar s
  | [], m, [], bs, s, _, h => by simp [Tm.fitsTs] at h
  | x :: l, m, y :: ar, bs, s, hl, h => by
    simp only [List.cons_append, Tm.fitsTs] at h ⊢
    split
    · rename_i h2
      rw [if_pos h2] at h
      exact Tm.fitsTs_stop f ops l m ar bs _ (by simpa using hl) h
    · rfl

/-- A function value that keeps a state admits sorts of variables. -/
structure Admits {σ : Type} (w0 : World) (g : FuncId) (caps : Array Value) (f : σ → Int → Int → σ × Bool) (I : σ → World → Prop) (Q : σ → Nat → Prop) (P : Int → Prop) : Prop where
  run : ∀ (x y : Value) (w : World), (callFunc g (#[x, y] ++ caps)).run Try.prog w = .ok (.enter g (#[x, y] ++ caps)) w
  old : ∀ s w, I s w → Turned w0 w (fun _ => False)
  step : ∀ s w w', I s w → Turned w w' (fun _ => False) → I s w'
  less : ∀ s m n, m ≤ n → Q s n → Q s m
  next : ∀ s x k n, Q s (n + 1) → Q (f s x k).1 n
  call : ∀ s n x k w, Q s (n + 1) → P x → I s w → Calls Try.prog g (#[.int .i64 x, .int .i64 k] ++ caps) w fun e w' => e = .returned (.bool (f s x k).2) ∧ I (f s x k).1 w' ∧ KeepsC w w'

/-- An operation in memory. -/
theorem SigIn.op {w : World} {s : List (List UInt8)} {l : List OpD} {a b : Option Addr} {n m ca cb : Nat} (h : SigIn w s l (.agg #[.slice a n ca, .slice b m cb])) : n = s.length ∧ m = l.length ∧ s.length ≤ maxLen ∧ l.length ≤ maxLen ∧
    ∀ (i : Nat) (hi : i < l.length), ∃ g off aa ac, b = some ⟨g, off, none⟩ ∧ g < w.heap.size ∧ w.cell? ⟨g, off + i * 3, none⟩ = some (.string ⟨l[i].name.toArray⟩) ∧ w.cell? ⟨g, off + i * 3 + 1, none⟩ = some (.slice aa l[i].args.length ac) ∧ w.cell? ⟨g, off + i * 3 + 2, none⟩ = some (.int .i64 l[i].res) ∧ RowI w (.slice aa l[i].args.length ac) l[i].args := by
  obtain ⟨a', ca', b', cb', hv, h1, h2, h3, h4⟩ := h
  simp only [Value.agg.injEq, Array.mk.injEq, List.cons.injEq, Value.slice.injEq, and_true] at hv
  obtain ⟨⟨rfl, rfl, rfl⟩, ⟨rfl, rfl, rfl⟩⟩ := hv
  refine ⟨rfl, rfl, h1, h2, fun i hi => ?_⟩
  obtain ⟨g, off, va, hb, hg, c0, c1, c2, hr⟩ := h4 i l[i] (List.getElem?_eq_getElem hi)
  have hr2 := hr
  obtain ⟨aa, ac, rfl, -⟩ := hr2
  exact ⟨g, off, aa, ac, hb, hg, c0, c1, c2, hr⟩

set_option maxRecDepth 100000 in
set_option maxHeartbeats 3200000 in
theorem fits_any {σ : Type} (w0 : World) (g : FuncId) (caps : Array Value) (f : σ → Int → Int → σ × Bool) (I : σ → World → Prop) (Q : σ → Nat → Prop) (P : Int → Prop) (hL : Admits w0 g caps f I Q P)
    (ss : List (List UInt8)) (ops : List OpD) (as_ bs_ : Option Addr) (cs_ cb_ : Nat) (hSig : SigIn w0 ss ops (.agg #[.slice as_ ss.length cs_, .slice bs_ ops.length cb_])) :
    ∀ (ta : Tm) (va : Value) (kk : Int) (s : σ) (m : Nat) (w : World), TmIn w0 ta va → ta.right = true → (∀ x, ta.vin x → P x) → I s w → Q s (ta.size + m) →
    Calls Try.prog 71 #[.agg #[.slice as_ ss.length cs_, .slice bs_ ops.length cb_], va, .int .i64 kk, .func (.func g) #[] caps] w fun e w' => e = .returned (.bool (ta.fitsT f ops kk s).2) ∧ I (ta.fitsT f ops kk s).1 w' ∧ KeepsC w w' ∧ Q (ta.fitsT f ops kk s).1 m := by
  have HL := Lib.hid hL
  obtain ⟨-, -, hsl, hol, hops⟩ := hSig.op
  have Hops := Lib.hid hops
  unfold maxLen at hsl hol
  clear hL hSig hops
  intro ta
  refine Tm.ind (P := fun ta => ∀ (va : Value) (kk : Int) (s : σ) (m : Nat) (w : World), TmIn w0 ta va → ta.right = true → (∀ x, ta.vin x → P x) → I s w → Q s (ta.size + m) →
    Calls Try.prog 71 #[.agg #[.slice as_ ss.length cs_, .slice bs_ ops.length cb_], va, .int .i64 kk, .func (.func g) #[] caps] w fun e w' => e = .returned (.bool (ta.fitsT f ops kk s).2) ∧ I (ta.fitsT f ops kk s).1 w' ∧ KeepsC w w' ∧ Q (ta.fitsT f ops kk s).1 m) ?_ ta
  clear ta
  intro ka na la ih va kk s m w ha hr hvin hI hQ
  obtain ⟨aa, ca, rfl, hla, ra⟩ := ha
  have hla2 := hla
  unfold maxLen at hla2
  obtain ⟨W, hW⟩ : ∃ W, W = (w.alloc (.cells #[.slice as_ ss.length cs_, .slice bs_ ops.length cb_] 60)).alloc (.cells #[.int .i64 ka, .int .i64 na, .slice aa la.length ca] 24) := ⟨_, rfl⟩
  have tW : Turned w W (fun _ => False) := by rw [hW]; exact ((Turned.refl _ _).alloc _).alloc _
  have k0 : W.heap[w.heap.size]? = some (.cells #[.slice as_ ss.length cs_, .slice bs_ ops.length cb_] 60 (0, 0)) := by rw [hW]; exact alloc_keep (heap_alloc_new _ _)
  have k1 : W.heap[w.heap.size + 1]? = some (.cells #[.int .i64 ka, .int .i64 na, .slice aa la.length ca] 24 (0, 0)) := by rw [hW]; exact alloc_at (by simp)
  have hWs : W.heap.size = w.heap.size + 2 := by rw [hW]; simp
  have hIW := HL.out.step _ _ _ hI tW
  obtain ⟨s0, s1, -, -, ls⟩ := boxE k0
  obtain ⟨c0, c1, c2, -, -, -, lW⟩ := box3 k1
  obtain ⟨hrk, hr1⟩ := Tm.right_kids hr
  have hn0 : 0 ≤ na := by
    simp only [Tm.right, Bool.and_eq_true, Bool.not_eq_true', decide_eq_false_iff_not] at hr
    omega
  have HW := Lib.hid hW
  have TW := Lib.hid (KeepsC.of tW)
  by_cases hk : ka = 1
  · subst hk
    have hv : (Tm.node 1 na la).fitsT f ops kk s = f s na kk := by simp [Tm.fitsT]
    rw [hv]
    have hq1 : Q s ((Tm.sizes la + m) + 1) := by simp only [Tm.size] at hQ; rwa [show Tm.sizes la + 1 + m = Tm.sizes la + m + 1 by omega] at hQ
    have Hcall := Lib.hid (HL.out.call s _ na kk W hq1 (hvin na (by simp [Tm.vin])) hIW)
    have Hq := Lib.hid (HL.out.less _ m _ (by omega) (HL.out.next s na kk _ hq1))
    have hrun := HL.out.run (.int .i64 na) (.int .i64 kk)
    clear hW tW k0 k1 ih ra hI hIW hQ hq1 hv hvin hr hrk hr1 hn0
    generalize hX : f s na kk = X at *
    obtain ⟨x1, xb⟩ := X
    clear hX
    go_enter Try.func71, Try.ntmps71
    go_upto_region 1 with fail
    rw [← HW.out]
    go_wp2_with fail
    refine Hcall.out.mono ?_
    rintro e w1 ⟨rfl, hI1, k1⟩
    have HI1 := Lib.hid hI1
    have K1 := Lib.hid k1
    clear hI1 k1 s0 s1 ls c0 c1 c2 lW hrun
    go_wp2
    go_ret
    exact ⟨rfl, HI1.out, TW.out.trans K1.out, Hq.out⟩
  have e1 : (ka == 1) = false := by simpa using hk
  have hQm : Q s m := HL.out.less _ _ _ (by omega) hQ
  obtain ⟨n, rfl⟩ : ∃ n : Nat, na = n := ⟨na.toNat, by omega⟩
  by_cases hn : n < ops.length
  rotate_left 1
  · have hv : (Tm.node ka n la).fitsT f ops kk s = (s, false) := by
      simp only [Tm.fitsT, if_neg hk, Int.toNat_natCast, List.getElem?_eq_none (show ops.length ≤ n by omega)]
    rw [hv]
    have hni : (ops.length : Int) ≤ (n : Int) := by omega
    have HI := Lib.hid hIW
    have HQ := Lib.hid hQm
    clear hW tW k0 k1 ih ra hI hIW hQ hv hvin hr hrk hr1 hn0 hQm hk
    go_enter Try.func71, Try.ntmps71
    go_upto_region 1 with fail
    rw [← HW.out]
    go_wp2
    go_ret
    exact ⟨rfl, HI.out, TW.out, HQ.out⟩
  have hni : ¬ (ops.length : Int) ≤ (n : Int) := by omega
  have hni2 : (n : Int) < (ops.length : Int) := by omega
  obtain ⟨go, oo, ya, yc, rfl, lgo, o0, o1, o2, hrow⟩ := Hops.out n hn
  have hoW := HL.out.old _ _ hIW
  have lgo' : go < W.heap.size := Nat.lt_of_lt_of_le lgo hoW.size
  have r0 := (hoW.cell (p := ⟨go, oo + n * 3, none⟩) lgo (fun hf => hf)).trans o0
  have r1 := (hoW.cell (p := ⟨go, oo + n * 3 + 1, none⟩) lgo (fun hf => hf)).trans o1
  have r2 := (hoW.cell (p := ⟨go, oo + n * 3 + 2, none⟩) lgo (fun hf => hf)).trans o2
  obtain ⟨V, hV⟩ : ∃ V, V = W.alloc (.cells #[.string ⟨ops[n].name.toArray⟩, .slice ya ops[n].args.length yc, .int .i64 ops[n].res] 98) := ⟨_, rfl⟩
  have tV : Turned W V (fun _ => False) := by rw [hV]; exact (Turned.refl _ _).alloc _
  have k2 : V.heap[w.heap.size + 2]? = some (.cells #[.string ⟨ops[n].name.toArray⟩, .slice ya ops[n].args.length yc, .int .i64 ops[n].res] 98 (0, 0)) := by rw [hV]; exact alloc_at hWs
  have hv : (Tm.node ka n la).fitsT f ops kk s = if ops[n].res ≠ kk ∨ ops[n].args.length ≠ la.length then (s, false) else Tm.fitsTs f ops la ops[n].args s := by
    simp only [Tm.fitsT, if_neg hk, Int.toNat_natCast, List.getElem?_eq_getElem hn]
  have hIV := HL.out.step _ _ _ hIW tV
  have HV := Lib.hid hV
  have Hv := Lib.hid hv
  have HIV := Lib.hid hIV
  have KV := Lib.hid (TW.out.trans (KeepsC.of tV))
  have K0 := Lib.hid (turn_keep tV k0)
  have K1 := Lib.hid (turn_keep tV k1)
  have K2 := Lib.hid k2
  have Hrow := Lib.hid hrow
  have Ih := Lib.hid ih
  have Ra := Lib.hid ra
  have Hq1 := Lib.hid (show Q s (Tm.sizes la + m) from HL.out.less _ _ _ (by simp only [Tm.size]; omega) hQ)
  have Hvk := Lib.hid (fun (t : Tm) (ht : t ∈ la) (x : Int) (hx : t.vin x) => hvin x (by simp only [Tm.vin]; rw [if_neg hk]; exact Tm.vins_mem ht hx))
  have Hrk := Lib.hid hrk
  have HQm := Lib.hid hQm
  obtain ⟨b0, b1, b2, -, -, -, lb⟩ := box3 k2
  obtain ⟨d0, d1, d2, -, -, -, lb2⟩ := box3 K1.out
  clear hW tW k0 k1 k2 hV tV ih ra hI hIW hIV hQ hv hvin hr hrk hr1 hn0 hk hoW lgo o0 o1 o2 hrow hQm
  generalize ops[n].name = on at *
  generalize hargs : ops[n].args = oargs at *
  generalize hres : ops[n].res = ores at *
  clear hargs hres
  by_cases g1 : ores ≠ kk ∨ oargs.length ≠ la.length
  · rw [if_pos g1] at Hv
    by_cases g2 : ores = kk
    · have g3 : ((oargs.length : Int) == (la.length : Int)) = false := by rw [beq_eq_false_iff_ne]; omega
      have g4 : ((oargs.length : Int) != (la.length : Int)) = true := by simp only [bne, g3]; rfl
      have g5 : (ores == kk) = true := by simpa using g2
      have g6 : (ores != kk) = false := by simpa using g2
      clear g1 g2
      go_enter Try.func71, Try.ntmps71
      go_upto_region 1 with fail
      rw [← HW.out]
      go_upto_region 6 with fail
      rw [← HV.out]
      go_wp2
      go_ret
      rw [Hv.out]
      exact ⟨rfl, HIV.out, KV.out, HQm.out⟩
    · have g5 : (ores == kk) = false := by simpa using g2
      have g6 : (ores != kk) = true := by simpa using g2
      clear g1 g2
      go_enter Try.func71, Try.ntmps71
      go_upto_region 1 with fail
      rw [← HW.out]
      go_upto_region 6 with fail
      rw [← HV.out]
      go_wp2
      go_ret
      rw [Hv.out]
      exact ⟨rfl, HIV.out, KV.out, HQm.out⟩
  rw [if_neg g1] at Hv
  have g2 : ores = kk := by omega
  have g3 : oargs.length = la.length := by omega
  have g4 : ((oargs.length : Int) == (la.length : Int)) = true := by rw [g3]; exact beq_self_eq_true _
  have g5 : ((oargs.length : Int) != (la.length : Int)) = false := by simp only [bne, g4]; rfl
  have g6 : (ores == kk) = true := by simpa using g2
  have g7 : (ores != kk) = false := by simpa using g2
  have Hal := Lib.hid g3
  clear g1 g2 g3
  go_enter Try.func71, Try.ntmps71
  go_upto_region 1 with fail
  rw [← HW.out]
  go_upto_region 6 with fail
  rw [← HV.out]
  clear s0 s1 ls c0 c1 c2 lW r0 r1 r2 e1 hWs
  go_wp2
  clear b0 b1 b2 lb d0 d1 d2 lb2 g4 g5 g6 g7
  go_loopw [48] (fun i wr => ∃ k : Nat, k ≤ la.length ∧ i = .int .i64 k ∧ (Tm.fitsTs f ops (la.take k) (oargs.take k) s).2 = true ∧ I (Tm.fitsTs f ops (la.take k) (oargs.take k) s).1 wr ∧ KeepsC V wr ∧ Q (Tm.fitsTs f ops (la.take k) (oargs.take k) s).1 (Tm.sizes (la.drop k) + m)) (fun i _ => la.length - (intOf i).toNat)
  case atStart => exact ⟨0, Nat.zero_le _, rfl, by simp [Tm.fitsTs], by simpa [Tm.fitsTs] using HIV.out, KeepsC.refl _, by simpa [Tm.fitsTs] using Hq1.out⟩
  case round =>
    obtain ⟨k, hk, rfl, htk, hIr, hkr, hqr⟩ := hrel
    have hlen : (la.take k).length = (oargs.take k).length := by rw [List.length_take, List.length_take, Hal.out]
    by_cases hlt : k < la.length
    · have hlt2 : k < oargs.length := by rw [Hal.out]; exact hlt
      have hki : (k : Int) < (la.length : Int) := by omega
      have hki2 : (k : Int) < (oargs.length : Int) := by omega
      have hor := HL.out.old _ _ hIr
      obtain ⟨ga, oa, sa, sc, rfl, lga, xa0, xa1, xa2, xat⟩ := tmsIn_at2 Ra.out k hlt
      have lga' : ga < wr.heap.size := Nat.lt_of_lt_of_le lga hor.size
      have p0 := (hor.cell (p := ⟨ga, oa + k * 3, none⟩) lga (fun hf => hf)).trans xa0
      have p1 := (hor.cell (p := ⟨ga, oa + k * 3 + 1, none⟩) lga (fun hf => hf)).trans xa1
      have p2 := (hor.cell (p := ⟨ga, oa + k * 3 + 2, none⟩) lga (fun hf => hf)).trans xa2
      obtain ⟨U, hU, tU, hCU⟩ := box1 wr (.int .i64 la[k].kind) (.int .i64 la[k].num) (.slice sa la[k].kids.length sc) 24
      obtain ⟨u0, u1, u2, lU⟩ := hCU U (Turned.refl _ _)
      have hIU := HL.out.step _ _ _ hIr tU
      have h0U := hor.trans tU (fun _ _ hf => hf)
      obtain ⟨s0, s1, -, -, ls⟩ := boxE (turn_keep tU (hkr.2 _ _ _ _ K0.out))
      obtain ⟨-, b1, -, -, -, -, lb⟩ := box3 (turn_keep tU (hkr.2 _ _ _ _ K2.out))
      obtain ⟨gr, or_, rfl, lgr, xr⟩ := Hrow.out.at k hlt2
      have lgr' : gr < U.heap.size := Nat.lt_of_lt_of_le lgr h0U.size
      have z0 := (h0U.cell (p := ⟨gr, or_ + k, none⟩) lgr (fun hf => hf)).trans xr
      have hsn : Tm.fitsTs f ops (la.take (k + 1)) (oargs.take (k + 1)) s = la[k].fitsT f ops oargs[k] (Tm.fitsTs f ops (la.take k) (oargs.take k) s).1 := by
        rw [List.take_succ_eq_append_getElem hlt, List.take_succ_eq_append_getElem hlt2, Tm.fitsTs_snoc _ _ _ _ _ _ _ hlen, if_pos htk]
      have hst : (Tm.fitsTs f ops (la.take (k + 1)) (oargs.take (k + 1)) s).2 = false → Tm.fitsTs f ops la oargs s = Tm.fitsTs f ops (la.take (k + 1)) (oargs.take (k + 1)) s := fun h => by
        have := Tm.fitsTs_stop f ops (la.take (k + 1)) (la.drop (k + 1)) (oargs.take (k + 1)) (oargs.drop (k + 1)) s (by rw [List.length_take, List.length_take, Hal.out]) h
        rwa [List.take_append_drop, List.take_append_drop] at this
      have hsz : Tm.sizes (la.drop k) + m = la[k].size + (Tm.sizes (la.drop (k + 1)) + m) := by
        rw [List.drop_eq_getElem_cons hlt]
        simp only [Tm.sizes]
        omega
      rw [hsz] at hqr
      have hcall := fun (X : World) (hX : Turned U X (fun _ => False)) => Ih.out la[k] (List.getElem_mem hlt) (.agg #[.int .i64 la[k].kind, .int .i64 la[k].num, .slice sa la[k].kids.length sc]) oargs[k] (Tm.fitsTs f ops (la.take k) (oargs.take k) s).1 _ X xat (Tm.rights_mem Hrk.out (List.getElem_mem hlt)) (Hvk.out _ (List.getElem_mem hlt)) (HL.out.step _ _ _ hIU hX) hqr
      rw [← hsn] at hcall
      have Hcall := Lib.hid hcall
      have Hst := Lib.hid hst
      have HU := Lib.hid hU
      have Hk := Lib.hid (hkr.trans (KeepsC.of tU))
      have tt : Turned U U.drew (fun _ => False) := (Turned.refl U _).drew
      clear htk xa0 xa1 xa2 xat lga hsn hcall hst hIr hIU hCU tU hU hkr hqr hsz hor h0U xr lgr hlen
      generalize hX : Tm.fitsTs f ops (la.take (k + 1)) (oargs.take (k + 1)) s = X at *
      have HX := Lib.hid hX
      clear hX
      obtain ⟨x1, xb⟩ := X
      generalize oargs[k] = oak at *
      generalize la[k].kind = xk at *
      generalize la[k].num = xn at *
      generalize la[k].kids.length = xm at *
      go_upto_region 11 with fail
      rw [← HU.out]
      go_region_law (first
        | (go_simp; go_at_call 71; refine (Hcall.out _ tt).mono ?_; rintro e w1 ⟨rfl, hf1, k1, hq1⟩; have F3 := Lib.hid hf1; have K3 := Lib.hid (Hk.out.trans ((KeepsC.of tt).trans k1)); have Q3 := Lib.hid hq1; clear hf1 k1 hq1))
      all_goals
        clear p0 p1 p2 u0 u1 u2 lU s0 s1 ls b1 lb z0 tt
        cases xb
        · have Hf := Lib.hid (Hst.out rfl)
          clear Hst
          go_wp2
          go_ret
          rw [Hv.out, Hf.out]
          exact ⟨rfl, F3.out, KV.out.trans K3.out, HL.out.less _ _ _ (by omega) Q3.out⟩
        · go_wp2
          go_roundw
          case rel => exact ⟨k + 1, by omega, by go_num, by rw [HX.out], by rw [HX.out]; exact F3.out, K3.out, by rw [HX.out]; exact Q3.out⟩
          case measure => simp [intOf]; omega
    · obtain rfl : k = la.length := by omega
      rw [List.take_of_length_le (Nat.le_refl _), List.take_of_length_le (show oargs.length ≤ la.length by rw [Hal.out]; exact Nat.le_refl _)] at htk hIr hqr
      have Htk := Lib.hid htk
      have HIr := Lib.hid hIr
      have Hkr := Lib.hid hkr
      have Hqr := Lib.hid hqr
      clear htk hIr hkr hqr hlen
      go_wp2
      go_ret
      rw [Hv.out, Htk.out]
      exact ⟨rfl, HIr.out, KV.out.trans Hkr.out, HL.out.less _ _ _ (by omega) Hqr.out⟩
end Go.Proofs.Ytljnmjehokijgaa

/- Sort. -/
namespace Go.Proofs.Ytljnmjehokijgaa
open Go.RowKit

/-- The sort that a tree has if it is a term. -/
def promisedT (ops : List OpD) (vars : List Int) (t : Tm) : Option Int :=
  if t.kind = 1 then (if t.num < vars.length then some ((vars[t.num.toNat]?).getD 0) else none)
  else if t.kind = 2 then (if t.num < ops.length then some (((ops[t.num.toNat]?).map OpD.res).getD 0) else none) else none

/-- What promised gives. -/
def PromP (X : Option Int) (e : Ending) : Prop := match X with
  | some k => e = .returned (.tuple #[.int .i64 k, .bool true])
  | none => e = .returned (.tuple #[.int .i64 0, .bool false])

set_option maxRecDepth 100000 in
set_option maxHeartbeats 1600000 in
theorem promised_any (ss : List (List UInt8)) (ops : List OpD) (vars : List Int) (vS vI : Value) (ta : Tm) (va : Value) (w : World) (hS : SigIn w ss ops vS) (hI : RowI w vI vars) (ha : TmIn w ta va) (hn : 0 ≤ ta.num) :
    Calls Try.prog 70 #[vS, vI, va] w fun e w' => PromP (promisedT ops vars ta) e ∧ Turned w w' (fun _ => False) := by
  have hS2 := hS
  obtain ⟨as_, cs_, bs_, cb_, rfl, -⟩ := hS2
  obtain ⟨-, -, hsl, hol, hops⟩ := hS.op
  unfold maxLen at hsl hol
  have hI2 := hI
  obtain ⟨ai, ci, rfl, hil, -⟩ := hI2
  unfold maxLen at hil
  obtain ⟨aa, ca, rfl, hla, -⟩ := ha.form
  obtain ⟨W, hW⟩ : ∃ W, W = (w.alloc (.cells #[.slice as_ ss.length cs_, .slice bs_ ops.length cb_] 60)).alloc (.cells #[.int .i64 ta.kind, .int .i64 ta.num, .slice aa ta.kids.length ca] 24) := ⟨_, rfl⟩
  have tW : Turned w W (fun _ => False) := by rw [hW]; exact ((Turned.refl _ _).alloc _).alloc _
  have k0 : W.heap[w.heap.size]? = some (.cells #[.slice as_ ss.length cs_, .slice bs_ ops.length cb_] 60 (0, 0)) := by rw [hW]; exact alloc_keep (heap_alloc_new _ _)
  have k1 : W.heap[w.heap.size + 1]? = some (.cells #[.int .i64 ta.kind, .int .i64 ta.num, .slice aa ta.kids.length ca] 24 (0, 0)) := by rw [hW]; exact alloc_at (by simp)
  obtain ⟨s0, s1, -, -, ls⟩ := boxE k0
  obtain ⟨c0, c1, c2, -, -, -, lW⟩ := box3 k1
  have Hp := Lib.hid (show ∀ X e, promisedT ops vars ta = X → PromP X e → PromP (promisedT ops vars ta) e from fun X e h1 h2 => by rw [h1]; exact h2)
  have hdef : promisedT ops vars ta = if ta.kind = 1 then (if ta.num < vars.length then some ((vars[ta.num.toNat]?).getD 0) else none)
    else if ta.kind = 2 then (if ta.num < ops.length then some (((ops[ta.num.toNat]?).map OpD.res).getD 0) else none) else none := rfl
  have HW := Lib.hid hW
  have TW := Lib.hid tW
  have Hi := Lib.hid (hI.turned tW)
  have Hops := Lib.hid hops
  generalize promisedT ops vars ta = PX at *
  clear hW k0 k1 ha hla hS hI hops
  generalize ta.kind = xk at *
  generalize ta.num = xn at *
  generalize ta.kids.length = xl at *
  obtain ⟨n, rfl⟩ : ∃ n : Nat, xn = n := ⟨xn.toNat, by omega⟩
  simp only [Int.toNat_natCast] at hdef
  by_cases h1 : xk = 1
  · subst h1
    by_cases h2 : n < vars.length
    · have h3 : (n : Int) < (vars.length : Int) := by omega
      rw [if_pos rfl, if_pos h3, List.getElem?_eq_getElem h2, Option.getD_some] at hdef
      obtain ⟨gi, oi, rfl, lgi, xi⟩ := Hi.out.at n h2
      have Hd := Lib.hid hdef
      clear hdef tW
      generalize vars[n] = y at *
      go_enter Try.func70, Try.ntmps70
      go_upto_region 1 with fail
      rw [← HW.out]
      go_wp2
      go_ret2
      exact ⟨Hp.out _ _ Hd.out rfl, TW.out⟩
    · have h3 : ¬ (n : Int) < (vars.length : Int) := by omega
      rw [if_pos rfl, if_neg h3] at hdef
      have Hd := Lib.hid hdef
      clear hdef tW
      go_enter Try.func70, Try.ntmps70
      go_upto_region 1 with fail
      rw [← HW.out]
      go_wp2
      go_ret2
      exact ⟨Hp.out _ _ Hd.out rfl, TW.out⟩
  have e1 : (xk == 1) = false := by simpa using h1
  rw [if_neg h1] at hdef
  by_cases h4 : xk = 2
  · subst h4
    by_cases h2 : n < ops.length
    · have h3 : (n : Int) < (ops.length : Int) := by omega
      rw [if_pos rfl, if_pos h3, List.getElem?_eq_getElem h2] at hdef
      simp only [Option.map_some, Option.getD_some] at hdef
      obtain ⟨go, oo, ya, yc, rfl, lgo, o0, o1, o2, hrow⟩ := Hops.out n h2
      have lgo' : go < W.heap.size := Nat.lt_of_lt_of_le lgo tW.size
      have r2 := (tW.cell (p := ⟨go, oo + n * 3 + 2, none⟩) lgo (fun hf => hf)).trans o2
      have Hd := Lib.hid hdef
      clear hdef tW o0 o1 o2 hrow lgo h1
      generalize ops[n].res = y at *
      go_enter Try.func70, Try.ntmps70
      go_upto_region 1 with fail
      rw [← HW.out]
      go_wp2
      go_ret2
      exact ⟨Hp.out _ _ Hd.out rfl, TW.out⟩
    · have h3 : ¬ (n : Int) < (ops.length : Int) := by omega
      rw [if_pos rfl, if_neg h3] at hdef
      have Hd := Lib.hid hdef
      clear hdef tW h1
      go_enter Try.func70, Try.ntmps70
      go_upto_region 1 with fail
      rw [← HW.out]
      go_wp2
      go_ret2
      exact ⟨Hp.out _ _ Hd.out rfl, TW.out⟩
  have e2 : (xk == 2) = false := by simpa using h4
  rw [if_neg h4] at hdef
  have Hd := Lib.hid hdef
  clear hdef tW h1 h4
  go_enter Try.func70, Try.ntmps70
  go_upto_region 1 with fail
  rw [← HW.out]
  go_wp2
  go_ret2
  exact ⟨Hp.out _ _ Hd.out rfl, TW.out⟩

/-- A variable is admitted where it has the sort. -/
def sortF (vars : List Int) (s : Unit) (x k : Int) : Unit × Bool := (s, decide (x < vars.length) && decide ((vars[x.toNat]?).getD 0 = k))

theorem run_sort1 (x y : Value) (bv : Nat) (w : World) : (callFunc 72 (#[x, y] ++ #[.pointer (some ⟨bv, 0, none⟩)])).run Try.prog w = .ok (.enter 72 (#[x, y] ++ #[.pointer (some ⟨bv, 0, none⟩)])) w := by kernel_rfl

set_option maxRecDepth 100000 in
set_option maxHeartbeats 1600000 in
theorem sort1_any (vars : List Int) (vI : Value) (bv : Nat) (x k : Int) (w : World) (hb : w.heap[bv]? = some (.cells #[vI] 37 (0, 0))) (hI : RowI w vI vars) (hx : 0 ≤ x) :
    Calls Try.prog 72 #[.int .i64 x, .int .i64 k, .pointer (some ⟨bv, 0, none⟩)] w fun e w' => e = .returned (.bool (sortF vars () x k).2) ∧ w = w' := by
  have hI2 := hI
  obtain ⟨ai, ci, rfl, hil, -⟩ := hI2
  unfold maxLen at hil
  have b0 : w.cell? ⟨bv, 0, none⟩ = some (.slice ai vars.length ci) := by simp [World.cell?, hb]
  have b1 := lt_of_block hb
  obtain ⟨n, rfl⟩ : ∃ n : Nat, x = n := ⟨x.toNat, by omega⟩
  have Hi := Lib.hid hI
  clear hb hI
  by_cases h2 : n < vars.length
  · have h3 : (n : Int) < (vars.length : Int) := by omega
    have hv : ∀ b : Bool, decide (vars[n] = k) = b → (sortF vars () n k).2 = b := fun b h => by
      rw [← h]
      show (decide ((n : Int) < vars.length) && decide ((vars[(n : Int).toNat]?).getD 0 = k)) = _
      simp [h2]
    have Hv := Lib.hid hv
    clear hv
    obtain ⟨gi, oi, rfl, lgi, xi⟩ := Hi.out.at n h2
    generalize (sortF vars () n k).2 = r at *
    generalize vars[n] = y at *
    by_cases hy : y = k
    · have Hr := Lib.hid (Hv.out true (decide_eq_true hy))
      subst hy
      go_enter Try.func72, Try.ntmps72
      go_wp2
      go_ret
      rw [Hr.out]
      exact ⟨rfl, rfl⟩
    · have Hr := Lib.hid (Hv.out false (decide_eq_false hy))
      have e1 : (y == k) = false := by simpa using hy
      clear hy
      go_enter Try.func72, Try.ntmps72
      go_wp2
      go_ret
      rw [Hr.out]
      exact ⟨rfl, rfl⟩
  · have h3 : ¬ (n : Int) < (vars.length : Int) := by omega
    have Hr := Lib.hid (show (sortF vars () n k).2 = false by
      show (decide ((n : Int) < vars.length) && decide ((vars[(n : Int).toNat]?).getD 0 = k)) = false
      rw [decide_eq_false h3, Bool.false_and])
    generalize (sortF vars () n k).2 = r at *
    go_enter Try.func72, Try.ntmps72
    go_wp2
    go_ret
    rw [Hr.out]
    exact ⟨rfl, rfl⟩

theorem admits_sort (w0 w1 : World) (h01 : Turned w0 w1 (fun _ => False)) (vars : List Int) (vI : Value) (bv : Nat) (hb : w1.heap[bv]? = some (.cells #[vI] 37 (0, 0))) (hI : RowI w1 vI vars) :
    Admits w0 72 #[.pointer (some ⟨bv, 0, none⟩)] (sortF vars) (fun _ w => Turned w1 w (fun _ => False)) (fun _ _ => True) (fun x => 0 ≤ x) where
  run := fun x y w => run_sort1 x y bv w
  old := fun _ _ h => h01.trans h (fun _ _ hf => hf)
  step := fun _ _ _ h t => h.trans t (fun _ _ hf => hf)
  less := fun _ _ _ _ _ => trivial
  next := fun _ _ _ _ _ => trivial
  call := fun s n x k w _ hx hw => by
    refine (sort1_any vars vI bv x k w (turn_keep hw hb) (hI.turned hw) hx).mono ?_
    rintro e w' ⟨rfl, rfl⟩
    exact ⟨rfl, hw, KeepsC.refl _⟩

/-- What Sort answers. -/
def sortT (ce : Int) (ss : List (List UInt8)) (ops : List OpD) (vars : List Int) (t : Tm) : Int × Int :=
  if ce ≠ 0 then (0, ce) else if vars.all (belowB ss.length) = false then (0, 1) else if t.isTree = false then (0, 4) else
    match promisedT ops vars t with
    | none => (0, 4)
    | some k => if (t.fitsT (sortF vars) ops k ()).2 = true then (k, 0) else (0, 4)

theorem Tm.right_num {t : Tm} (h : t.right = true) : 0 ≤ t.num := by
  obtain ⟨k, n, l⟩ := t
  simp only [Tm.right, Bool.and_eq_true, Bool.not_eq_true', decide_eq_false_iff_not] at h
  show 0 ≤ n
  omega

set_option maxRecDepth 100000 in
set_option maxHeartbeats 3200000 in
theorem sigSort_any (ss : List (List UInt8)) (ops : List OpD) (ce : Int) (hCheck : ∀ (V : World) (vS : Value), SigIn V ss ops vS → Calls Try.prog 34 #[vS] V fun e w' => e = .returned (.int .i64 ce) ∧ Turned V w' (fun _ => False))
    (vars : List Int) (vS vI : Value) (ta : Tm) (va : Value) (w : World) (hS : SigIn w ss ops vS) (hI : RowI w vI vars) (ha : TmIn w ta va) :
    Calls Try.prog 30 #[vS, vI, va] w fun e w' => e = .returned (.tuple #[.int .i64 (sortT ce ss ops vars ta).1, .int .i64 (sortT ce ss ops vars ta).2]) ∧ Turned w w' (fun _ => False) := by
  have hS2 := hS
  obtain ⟨as_, cs_, bs_, cb_, rfl, -⟩ := hS2
  have hI2 := hI
  obtain ⟨ai, ci, rfl, hil, -⟩ := hI2
  obtain ⟨aa, ca, rfl, hla, -⟩ := ha.form
  obtain ⟨W, hW⟩ : ∃ W, W = ((w.alloc (.cells #[.slice as_ ss.length cs_, .slice bs_ ops.length cb_] 60)).alloc (.cells #[.slice ai vars.length ci] 37)).alloc (.cells #[.int .i64 ta.kind, .int .i64 ta.num, .slice aa ta.kids.length ca] 24) := ⟨_, rfl⟩
  obtain ⟨k0, k1, k2, tW, -⟩ := alloc3 hW
  have hB : ∀ V, Turned W V (fun _ => False) → V.cell? ⟨w.heap.size, 0, none⟩ = some (.slice as_ ss.length cs_) ∧ V.cell? ⟨w.heap.size, 1, none⟩ = some (.slice bs_ ops.length cb_) ∧ w.heap.size < V.heap.size ∧
      V.cell? ⟨w.heap.size + 1, 0, none⟩ = some (.slice ai vars.length ci) ∧ w.heap.size + 1 < V.heap.size ∧
      V.cell? ⟨w.heap.size + 1 + 1, 0, none⟩ = some (.int .i64 ta.kind) ∧ V.cell? ⟨w.heap.size + 1 + 1, 1, none⟩ = some (.int .i64 ta.num) ∧ V.cell? ⟨w.heap.size + 1 + 1, 2, none⟩ = some (.slice aa ta.kids.length ca) ∧ w.heap.size + 1 + 1 < V.heap.size := fun V hV => by
    obtain ⟨a, b, -, -, c⟩ := boxE (turn_keep hV k0)
    obtain ⟨d, e, f, -, -, -, g⟩ := box3 (turn_keep hV k2)
    have h1 := turn_keep hV k1
    exact ⟨a, b, c, by simp [World.cell?, h1], lt_of_block h1, d, e, f, g⟩
  have Hchk := Lib.hid (hCheck W _ (hS.turned tW))
  have Hbel := Lib.hid (fun V (hV : Turned W V (fun _ => False)) => areBelow_any vars ss.length _ V (hI.turned (tW.trans hV (fun _ _ hf => hf))))
  have Htree := Lib.hid (fun V (hV : Turned W V (fun _ => False)) => tree_any ta _ V (TmIn.turned (tW.trans hV (fun _ _ hf => hf)) _ ha))
  have Hprom := Lib.hid (fun V (hV : Turned W V (fun _ => False)) (hn : 0 ≤ ta.num) => promised_any ss ops vars _ _ ta _ V (hS.turned (tW.trans hV (fun _ _ hf => hf))) (hI.turned (tW.trans hV (fun _ _ hf => hf))) (TmIn.turned (tW.trans hV (fun _ _ hf => hf)) _ ha) hn)
  have Hfits := Lib.hid (fun V (hV : Turned W V (fun _ => False)) (kk : Int) (hr : ta.isTree = true) => fits_any w _ _ _ _ _ _ (admits_sort w V (tW.trans hV (fun _ _ hf => hf)) vars _ (w.heap.size + 1) (turn_keep hV k1) (hI.turned (tW.trans hV (fun _ _ hf => hf)))) ss ops as_ bs_ cs_ cb_ hS ta _ kk () 0 V ha ((Tm.isTree_iff ta).1 hr).2.2 (fun x hx => (Tm.vin_top hr hx).1) (Turned.refl _ _) trivial)
  have Hnum := Lib.hid (fun (h : ta.isTree = true) => Tm.right_num ((Tm.isTree_iff ta).1 h).2.2)
  have Hdef := Lib.hid (show sortT ce ss ops vars ta = if ce ≠ 0 then (0, ce) else if vars.all (belowB ss.length) = false then (0, 1) else if ta.isTree = false then (0, 4) else
    match promisedT ops vars ta with
    | none => (0, 4)
    | some k => if (ta.fitsT (sortF vars) ops k ()).2 = true then (k, 0) else (0, 4) from rfl)
  have hte : ta.treeE = if ta.isTree = true then 0 else 4 := rfl
  have HB := Lib.hid hB
  have HW := Lib.hid hW
  have TW := Lib.hid tW
  have hmf : ∀ (fn : Fn) (first cap : Array Value) (w : World), (Instr.makeFunc fn first cap).run Try.prog w = .ok (.func fn first cap) w := fun _ _ _ _ => rfl
  generalize sortT ce ss ops vars ta = SX at *
  clear hB hW k0 k1 k2 tW ha hla hS hI hil
  generalize ta.treeE = te at *
  generalize ta.isTree = it at *
  generalize vars.all (belowB ss.length) = vb at *
  generalize promisedT ops vars ta = PX at *
  generalize ta.kind = xk at *
  generalize ta.num = xn at *
  generalize ta.kids.length = xl at *
  obtain ⟨a0, a1, a2, a3, a4, a5, a6, a7, a8⟩ := HB.out W (Turned.refl _ _)
  go_enter Try.func30, Try.ntmps30
  go_upto_region 1 with fail
  rw [← HW.out]
  go_wp2_with fail
  refine Hchk.out.mono ?_
  rintro e w1 ⟨rfl, t1⟩
  have T1 := Lib.hid t1
  clear a0 a1 a2 a3 a4 a5 a6 a7 a8
  obtain ⟨a0, a1, a2, a3, a4, a5, a6, a7, a8⟩ := HB.out w1 t1
  clear t1
  by_cases hce : ce = 0
  rotate_left 1
  · rw [if_pos hce] at Hdef
    have e1 : (ce == 0) = false := by simpa using hce
    have e2 : (ce != 0) = true := by simpa using hce
    clear hce
    go_wp2
    go_ret2
    rw [Hdef.out]
    exact ⟨rfl, TW.out.trans T1.out (fun _ _ hf => hf)⟩
  subst hce
  rw [if_neg (by simp)] at Hdef
  go_wp2_with fail
  refine (Hbel.out w1 T1.out).mono ?_
  rintro e w2 ⟨rfl, rfl⟩
  cases vb
  · rw [if_pos rfl] at Hdef
    go_wp2
    go_ret2
    rw [Hdef.out]
    exact ⟨rfl, TW.out.trans T1.out (fun _ _ hf => hf)⟩
  rw [if_neg (by simp)] at Hdef
  go_wp2_with fail
  refine (Htree.out w1 T1.out).mono ?_
  rintro e w3 ⟨rfl, t3⟩
  have T3 := Lib.hid (T1.out.trans t3 (fun _ _ hf => hf))
  clear a0 a1 a2 a3 a4 a5 a6 a7 a8 t3
  obtain ⟨a0, a1, a2, a3, a4, a5, a6, a7, a8⟩ := HB.out w3 T3.out
  cases it
  · rw [if_pos rfl] at Hdef
    rw [if_neg (by simp)] at hte
    subst hte
    go_wp2
    go_ret2
    rw [Hdef.out]
    exact ⟨rfl, TW.out.trans T3.out (fun _ _ hf => hf)⟩
  rw [if_neg (by simp)] at Hdef
  rw [if_pos rfl] at hte
  subst hte
  go_wp2_with fail
  refine (Hprom.out w3 T3.out (Hnum.out (by first | rfl | trivial))).mono ?_
  rintro e w4 ⟨hp, t4⟩
  have T4 := Lib.hid (T3.out.trans t4 (fun _ _ hf => hf))
  clear a0 a1 a2 a3 a4 a5 a6 a7 a8 t4
  obtain ⟨a0, a1, a2, a3, a4, a5, a6, a7, a8⟩ := HB.out w4 T4.out
  cases PX with
  | none =>
    obtain rfl : e = .returned (.tuple #[.int .i64 0, .bool false]) := hp
    go_wp2
    go_ret2
    rw [Hdef.out]
    exact ⟨rfl, TW.out.trans T4.out (fun _ _ hf => hf)⟩
  | some kk =>
    obtain rfl : e = .returned (.tuple #[.int .i64 kk, .bool true]) := hp
    have Hfc := Lib.hid (Hfits.out w4 T4.out kk (by first | rfl | trivial))
    have Hd2 := Lib.hid (show SX = if (ta.fitsT (sortF vars) ops kk ()).2 = true then (kk, 0) else (0, 4) from Hdef.out)
    generalize hF : ta.fitsT (sortF vars) ops kk () = FX at *
    obtain ⟨f1, fb⟩ := FX
    clear hF Hdef
    go_wp2_with fail
    refine Hfc.out.mono ?_
    rintro e w5 ⟨rfl, hI5, -, -⟩
    have T5 := Lib.hid (T4.out.trans hI5 (fun _ _ hf => hf))
    clear a0 a1 a2 a3 a4 a5 a6 a7 a8 hI5
    cases fb
    · go_wp2
      go_ret2
      rw [Hd2.out]
      exact ⟨rfl, TW.out.trans T5.out (fun _ _ hf => hf)⟩
    · go_wp2
      go_ret2
      rw [Hd2.out]
      exact ⟨rfl, TW.out.trans T5.out (fun _ _ hf => hf)⟩
end Go.Proofs.Ytljnmjehokijgaa

/- Find: the operations with a name. -/
namespace Go.Proofs.Ytljnmjehokijgaa
open Go.RowKit

theorem bytes_eq (a b : List UInt8) : ((⟨a.toArray⟩ : ByteArray) == ⟨b.toArray⟩) = decide (a = b) := by
  show (a.toArray == b.toArray) = _
  by_cases h : a = b
  · subst h; simp
  · simp [h]
theorem bytes_eq2 (a b : List UInt8) : ((⟨a.toArray⟩ : ByteArray).toList == (⟨b.toArray⟩ : ByteArray).toList) = decide (a = b) := (beq_toListBytes _ _).symm.trans (bytes_eq a b)

/-- The numbers of the operations with a name. -/
def findI (nm : List UInt8) : List OpD → Nat → List Int
  | [], _ => []
  | o :: l, i => if o.name = nm then (i : Int) :: findI nm l (i + 1) else findI nm l (i + 1)

theorem findI_snoc (nm : List UInt8) : ∀ (l : List OpD) (o : OpD) (i : Nat), findI nm (l ++ [o]) i = findI nm l i ++ (if o.name = nm then [((i + l.length : Nat) : Int)] else [])
  | [], o, i => by simp [findI]
  | x :: l, o, i => by
    simp only [List.cons_append, findI, findI_snoc nm l o (i + 1), List.length_cons]
    rw [show i + 1 + l.length = i + (l.length + 1) by omega]
    split <;> simp

theorem findI_len (nm : List UInt8) : ∀ (l : List OpD) (i : Nat), (findI nm l i).length ≤ l.length
  | [], _ => Nat.le_refl _
  | o :: l, i => by
    have := findI_len nm l (i + 1)
    simp only [findI]
    split <;> simp <;> omega

set_option maxRecDepth 100000 in
set_option maxHeartbeats 3200000 in
theorem sigFind_any (ss : List (List UInt8)) (ops : List OpD) (nm : List UInt8) (vS : Value) (w : World) (hS : SigIn w ss ops vS) (hlen : ops.length ≤ 1000000) :
    Calls Try.prog 33 #[vS, .string ⟨nm.toArray⟩] w (NewI w (findI nm ops 0)) := by
  have hS2 := hS
  obtain ⟨as_, cs_, bs_, cb_, rfl, -⟩ := hS2
  obtain ⟨-, -, hsl, hol, hops⟩ := hS.op
  unfold maxLen at hsl hol
  obtain ⟨W, hW⟩ : ∃ W, W = w.alloc (.cells #[.slice as_ ss.length cs_, .slice bs_ ops.length cb_] 60) := ⟨_, rfl⟩
  have tW : Turned w W (fun _ => False) := by rw [hW]; exact (Turned.refl _ _).alloc _
  have k0 : W.heap[w.heap.size]? = some (.cells #[.slice as_ ss.length cs_, .slice bs_ ops.length cb_] 60 (0, 0)) := by rw [hW]; exact heap_alloc_new _ _
  obtain ⟨s0, s1, -, -, ls⟩ := boxE k0
  have HW := Lib.hid hW
  have TW := Lib.hid tW
  have Hops := Lib.hid hops
  clear hW tW k0 hops hS
  go_enter Try.func33, Try.ntmps33
  go_upto_region 1 with fail
  rw [← HW.out]
  go_wp2
  clear s0 s1 ls
  go_loopw [11, 5] (fun i u wr => ∃ k : Nat, k ≤ ops.length ∧ i = .int .i64 k ∧ OwnI wr w.heap.size u (findI nm (ops.take k) 0) ∧ TurnedI w.heap.size W wr) (fun i _ _ => ops.length - (intOf i).toNat)
  case atStart => exact ⟨0, Nat.zero_le _, rfl, OwnI.nil _ _, TurnedI.refl _ _⟩
  case round =>
    obtain ⟨k, hk, rfl, hor, ht⟩ := hrel
    have h0r : Turned w wr (fun _ => False) := TurnedI.old TW.out ht
    by_cases hlt : k < ops.length
    · have hki : (k : Int) < (ops.length : Int) := by omega
      obtain ⟨go, oo, ya, yc, rfl, lgo, o0, o1, o2, hrow⟩ := Hops.out k hlt
      have lgo' : go < wr.heap.size := Nat.lt_of_lt_of_le lgo h0r.size
      have r0 := (h0r.cell (p := ⟨go, oo + k * 3, none⟩) lgo (fun hf => hf)).trans o0
      have r1 := (h0r.cell (p := ⟨go, oo + k * 3 + 1, none⟩) lgo (fun hf => hf)).trans o1
      have r2 := (h0r.cell (p := ⟨go, oo + k * 3 + 2, none⟩) lgo (fun hf => hf)).trans o2
      obtain ⟨U, hU⟩ : ∃ U, U = wr.alloc (.cells #[.string ⟨ops[k].name.toArray⟩, .slice ya ops[k].args.length yc, .int .i64 ops[k].res] 98) := ⟨_, rfl⟩
      have tU : Turned wr U (fun _ => False) := by rw [hU]; exact (Turned.refl _ _).alloc _
      obtain ⟨u0, u1, u2, -, -, -, lU⟩ := box3 (show U.heap[wr.heap.size]? = some (.cells #[.string ⟨ops[k].name.toArray⟩, .slice ya ops[k].args.length yc, .int .i64 ops[k].res] 98 (0, 0)) by rw [hU]; exact heap_alloc_new _ _)
      have hsn := findI_snoc nm (ops.take k) ops[k] 0
      rw [← List.take_succ_eq_append_getElem hlt, List.length_take, show 0 + min k ops.length = k by omega] at hsn
      obtain ⟨ua, uc, rfl⟩ := hor.form
      have hfl := findI_len nm (ops.take k) 0
      rw [List.length_take] at hfl
      have horU := hor.step tU
      have HorU := Lib.hid horU
      have HtU := Lib.hid (ht.trans (TurnedI.of tU))
      have HU := Lib.hid hU
      have Hsn := Lib.hid hsn
      have hwU : w.heap.size ≤ U.heap.size := Nat.le_trans h0r.size tU.size
      clear hor ht o0 o1 o2 hrow lgo tU hU horU hsn h0r
      generalize ops[k].args.length = oal at *
      generalize ops[k].res = ores at *
      by_cases hnm : ops[k].name = nm
      · rw [if_pos hnm] at Hsn
        have e1 : ((⟨ops[k].name.toArray⟩ : ByteArray) == ⟨nm.toArray⟩) = true := by rw [bytes_eq, decide_eq_true hnm]
        have e2 : ((⟨ops[k].name.toArray⟩ : ByteArray).toList == (⟨nm.toArray⟩ : ByteArray).toList) = true := by rw [bytes_eq2, decide_eq_true hnm]
        have e3 : (ops[k].name == nm) = true := by rw [hnm]; exact beq_self_eq_true _
        generalize ops[k].name = on at *
        generalize hF : findI nm (ops.take k) 0 = F at *
        have hA : OwnI (U.alloc (.cells #[.int .i64 (k : Int)] 3)) w.heap.size (.slice ua F.length uc) F := HorU.out.step ((Turned.refl _ _).alloc _)
        have hG := heap_alloc_new U (.cells #[.int .i64 (k : Int)] 3)
        have hBs : w.heap.size ≤ (U.alloc (.cells #[.int .i64 (k : Int)] 3)).heap.size := by simp; omega
        have HTA := Lib.hid (HtU.out.trans (TurnedI.of ((Turned.refl U (fun _ => False)).alloc (.cells #[.int .i64 (k : Int)] 3))))
        have hFl : F.length ≤ 1000000 := by omega
        clear hF hnm
        go_upto_region 5 with fail
        rw [← HU.out]
        go_wp2_with (at_builtin; refine append_int _ (by rfl) _ _ (by rfl) w.heap.size (.slice ua F.length uc) F (by rfl) hA U.heap.size (k : Int) (by rfl) hG hFl hBs ?_; intro p5 c5 w5 ho5 ht5; have HO5 := Lib.hid ho5; have HT5 := Lib.hid (HTA.out.trans ht5); clear ho5 ht5)
        go_roundw
        case rel => exact ⟨k + 1, by omega, by go_num, by rw [Hsn.out]; exact HO5.out, HT5.out⟩
        case measure => simp [intOf]; omega
      · rw [if_neg hnm, List.append_nil] at Hsn
        have e1 : ((⟨ops[k].name.toArray⟩ : ByteArray) == ⟨nm.toArray⟩) = false := by rw [bytes_eq, decide_eq_false hnm]
        have e2 : ((⟨ops[k].name.toArray⟩ : ByteArray).toList == (⟨nm.toArray⟩ : ByteArray).toList) = false := by rw [bytes_eq2, decide_eq_false hnm]
        have e3 : (ops[k].name == nm) = false := by simpa using hnm
        generalize ops[k].name = on at *
        go_upto_region 5 with fail
        rw [← HU.out]
        go_wp2
        go_roundw
        case rel => exact ⟨k + 1, by omega, by go_num, by rw [Hsn.out]; exact HorU.out, HtU.out⟩
        case measure => simp [intOf]; omega
    · obtain rfl : k = ops.length := by omega
      rw [List.take_of_length_le (Nat.le_refl _)] at hor
      have Hfin := Lib.hid (And.intro hor h0r)
      clear hor h0r ht
      go_wp2
      go_ret
      exact ⟨_, rfl, Hfin.out.1, Hfin.out.2⟩
end Go.Proofs.Ytljnmjehokijgaa

/- matches: instances of patterns. -/
namespace Go.Proofs.Ytljnmjehokijgaa
open Go.RowKit

/-- What was found of a pattern's variables, and how often something was put there. -/
structure Fnd where
  f : Int → Option Tm
  n : Nat

def Fnd.put (s : Fnd) (x : Int) (t : Tm) : Fnd := ⟨fun y => if y = x then some t else s.f y, s.n + 1⟩

mutual
/-- Is a tree an instance of a pattern, with what was found? -/
def Tm.mtch : Tm → Tm → Fnd → Fnd × Bool
  | .node k n l, t, s => if k = 1 then (s.put n t, match s.f n with | none => true | some u => u.same t)
    else if k = t.kind ∧ n = t.num ∧ l.length = t.kids.length then Tm.mtchs l t.kids s else (s, false)
def Tm.mtchs : List Tm → List Tm → Fnd → Fnd × Bool
  | [], _, s => (s, true)
  | _ :: _, [], s => (s, true)
  | a :: l, b :: m, s => if (a.mtch b s).2 = true then Tm.mtchs l m (a.mtch b s).1 else ((a.mtch b s).1, false)
end

theorem Tm.mtchs_snoc : ∀ (l m : List Tm) (a b : Tm) (s : Fnd), l.length = m.length → Tm.mtchs (l ++ [a]) (m ++ [b]) s = if (Tm.mtchs l m s).2 = true then a.mtch b (Tm.mtchs l m s).1 else Tm.mtchs l m s
  | [], [], a, b, s, _ => by
    simp only [List.nil_append, Tm.mtchs, if_true]
    rcases a.mtch b s with ⟨x, c⟩
    cases c <;> simp
  | x :: l, y :: m, a, b, s, h => by
    simp only [List.cons_append, Tm.mtchs]
    split
    · exact Tm.mtchs_snoc l m a b _ (by simpa using h)
    · simp

theorem Tm.mtchs_stop : ∀ (l m l' m' : List Tm) (s : Fnd), l.length = m.length → (Tm.mtchs l m s).2 = false → Tm.mtchs (l ++ l') (m ++ m') s = Tm.mtchs l m s
  | [], [], _, _, s, _, h => by simp [Tm.mtchs] at h
  | x :: l, y :: m, l', m', s, hl, h => by
    simp only [List.cons_append, Tm.mtchs] at h ⊢
    split
    · rename_i h2
      rw [if_pos h2] at h
      exact Tm.mtchs_stop l m l' m' _ (by simpa using hl) h
    · rfl

mutual
theorem Tm.mtch_n : ∀ (p t : Tm) (s : Fnd), (p.mtch t s).1.n ≤ s.n + p.size
  | .node k n l, t, s => by
    simp only [Tm.mtch, Tm.size]
    split
    · simp only [Fnd.put]; omega
    · split
      · have := Tm.mtchs_n l t.kids s; omega
      · simp only; omega
theorem Tm.mtchs_n : ∀ (l m : List Tm) (s : Fnd), (Tm.mtchs l m s).1.n ≤ s.n + Tm.sizes l
  | [], _, s => by simp [Tm.mtchs]
  | _ :: _, [], s => by simp [Tm.mtchs]
  | a :: l, b :: m, s => by
    have h1 := Tm.mtch_n a b s
    have h2 := Tm.mtchs_n l m (a.mtch b s).1
    simp only [Tm.mtchs, Tm.sizes]
    split
    · omega
    · simp only; omega
end

/-- The map of what was found; the trees lie in old memory. -/
structure Mch (w0 : World) (b : Nat) (s : Fnd) (w : World) : Prop where
  turned : Turned w0 w (fun _ => False)
  hf : ∃ F, MapV w 3 b s.n F ∧ ∀ x : Int, (s.f x = none → F (.int .i64 x) = none) ∧ ∀ u, s.f x = some u → ∃ v, F (.int .i64 x) = some v ∧ TmIn w0 u v
  lo : w0.heap.size ≤ b

theorem Mch.step {w0 : World} {b : Nat} {s : Fnd} {w w' : World} (h : Mch w0 b s w) (t : Turned w w' (fun _ => False)) : Mch w0 b s w' := by
  obtain ⟨F, h1, h2⟩ := h.hf
  exact ⟨h.turned.trans t (fun _ _ hf => hf), ⟨F, h1.turned t (fun hf => hf), h2⟩, h.lo⟩

theorem zero_term (w : World) : (zeroValue 24).run Try.prog w = .ok (.agg #[.int .i64 0, .int .i64 0, .slice none 0 0]) w := by kernel_rfl

/-- One thing more is put there. -/
theorem Mch.put {w0 : World} {b : Nat} {s : Fnd} {w : World} (h : Mch w0 b s w) {n : Int} (hn : -9223372036854775808 ≤ n ∧ n ≤ 9223372036854775807) (hs : s.n ≤ 1000000) {t : Tm} {v : Value} (ht : TmIn w0 t v) :
    ∃ w', (Instr.mapUpdate 105 (.map (some b)) (.int .i64 n) v).run Try.prog w = .ok () w' ∧ Mch w0 b (s.put n t) w' ∧ KeepsC w w' := by
  obtain ⟨F, h1, h2⟩ := h.hf
  obtain ⟨w', hput, hM2, t2⟩ := h1.put (v := v) (t := 105) (e := 24) intKeyed (by kernel_rfl) (by unfold maxLen; omega) (intKey hn)
  have hl := h.lo
  refine ⟨w', hput, ⟨h.turned.trans t2 (fun i hi e => by omega), ⟨_, hM2, fun x => ?_⟩, h.lo⟩, t2.size, fun k c t z hk => ?_⟩
  · simp only [putF, Lit.sameKey, true_and, decide_eq_true_eq, Fnd.put]
    by_cases hx : x = n
    · rw [if_pos hx, if_pos hx]
      exact ⟨fun e => (by cases e), fun u hu => ⟨v, rfl, by simp only [Option.some.injEq] at hu; rwa [← hu]⟩⟩
    · rw [if_neg hx, if_neg hx]
      exact h2 x
  · refine (t2.block k (lt_of_block hk) (fun e => ?_)).trans hk
    obtain ⟨es, cc, hb⟩ := h1.block
    rw [e, hb] at hk
    cases hk

/-- What is looked up. -/
theorem Mch.look {w0 : World} {b : Nat} {s : Fnd} {w : World} (h : Mch w0 b s w) {n : Int} (hn : -9223372036854775808 ≤ n ∧ n ≤ 9223372036854775807) :
    (s.f n = none → (Instr.lookup 105 (.map (some b)) (.int .i64 n) true).run Try.prog w = .ok (.tuple #[.agg #[.int .i64 0, .int .i64 0, .slice none 0 0], .bool false]) w) ∧
    (∀ u, s.f n = some u → ∃ v, TmIn w0 u v ∧ (Instr.lookup 105 (.map (some b)) (.int .i64 n) true).run Try.prog w = .ok (.tuple #[v, .bool true]) w) := by
  obtain ⟨F, h1, h2⟩ := h.hf
  have hl := h1.look_ok (t := 105) (e := 24) intKeyed (by kernel_rfl) (zero_term w) (intKey hn)
  refine ⟨fun hx => ?_, fun u hu => ?_⟩
  · rw [(h2 n).1 hx] at hl
    exact hl
  · obtain ⟨v, hv, ht⟩ := (h2 n).2 u hu
    rw [hv] at hl
    exact ⟨v, ht, hl⟩

set_option maxRecDepth 100000 in
set_option maxHeartbeats 3200000 in
theorem matches_any (w0 : World) (b : Nat) : ∀ (p t : Tm) (vp vt : Value) (s : Fnd) (w : World), TmIn w0 p vp → TmIn w0 t vt → p.small → Mch w0 b s w → s.n + p.size ≤ 1000000 →
    Calls Try.prog 77 #[vp, vt, .map (some b)] w fun e w' => e = .returned (.bool (p.mtch t s).2) ∧ Mch w0 b (p.mtch t s).1 w' ∧ KeepsC w w' := by
  intro p
  refine Tm.ind (P := fun p => ∀ (t : Tm) (vp vt : Value) (s : Fnd) (w : World), TmIn w0 p vp → TmIn w0 t vt → p.small → Mch w0 b s w → s.n + p.size ≤ 1000000 →
    Calls Try.prog 77 #[vp, vt, .map (some b)] w fun e w' => e = .returned (.bool (p.mtch t s).2) ∧ Mch w0 b (p.mtch t s).1 w' ∧ KeepsC w w') ?_ p
  clear p
  intro ka na la ih t vp vt s w ha ht hsm hM hlen
  obtain ⟨aa, ca, rfl, hla, ra⟩ := ha
  have hla2 := hla
  unfold maxLen at hla2
  have ht2 := ht
  obtain ⟨ab, cb, rfl, hlb, rb⟩ := ht.form
  have hlb2 := hlb
  unfold maxLen at hlb2
  obtain ⟨W, hW⟩ : ∃ W, W = (w.alloc (.cells #[.int .i64 ka, .int .i64 na, .slice aa la.length ca] 24)).alloc (.cells #[.int .i64 t.kind, .int .i64 t.num, .slice ab t.kids.length cb] 24) := ⟨_, rfl⟩
  have tW : Turned w W (fun _ => False) := by rw [hW]; exact ((Turned.refl _ _).alloc _).alloc _
  have k0 : W.heap[w.heap.size]? = some (.cells #[.int .i64 ka, .int .i64 na, .slice aa la.length ca] 24 (0, 0)) := by rw [hW]; exact alloc_keep (heap_alloc_new _ _)
  have k1 : W.heap[w.heap.size + 1]? = some (.cells #[.int .i64 t.kind, .int .i64 t.num, .slice ab t.kids.length cb] 24 (0, 0)) := by rw [hW]; exact alloc_at (by simp)
  have hWs : W.heap.size = w.heap.size + 2 := by rw [hW]; simp
  have hMW := hM.step tW
  have hB : ∀ V, KeepsC W V → (V.cell? ⟨w.heap.size, 0, none⟩ = some (.int .i64 ka) ∧ V.cell? ⟨w.heap.size, 1, none⟩ = some (.int .i64 na) ∧ V.cell? ⟨w.heap.size, 2, none⟩ = some (.slice aa la.length ca) ∧ w.heap.size < V.heap.size) ∧
      (V.cell? ⟨w.heap.size + 1, 0, none⟩ = some (.int .i64 t.kind) ∧ V.cell? ⟨w.heap.size + 1, 1, none⟩ = some (.int .i64 t.num) ∧ V.cell? ⟨w.heap.size + 1, 2, none⟩ = some (.slice ab t.kids.length cb) ∧ w.heap.size + 1 < V.heap.size) := fun V hV => by
    obtain ⟨a0, a1, a2, -, -, -, a3⟩ := box3 (hV.2 _ _ _ _ k0)
    obtain ⟨b0, b1, b2, -, -, -, b3⟩ := box3 (hV.2 _ _ _ _ k1)
    exact ⟨⟨a0, a1, a2, a3⟩, b0, b1, b2, b3⟩
  obtain ⟨⟨a0, a1, a2, a3⟩, b0, b1, b2, b3⟩ := hB W (KeepsC.refl _)
  have HB := Lib.hid hB
  have HW := Lib.hid hW
  have TW := Lib.hid (KeepsC.of tW)
  by_cases hk : ka = 1
  · subst hk
    have hv : (Tm.node 1 na la).mtch t s = (s.put na t, match s.f na with | none => true | some u => u.same t) := by simp [Tm.mtch]
    have hsn : s.n ≤ 1000000 := by omega
    obtain ⟨hl1, hl2⟩ := hMW.look hsm.1
    rw [hv]
    cases hx : s.f na with
    | none =>
      have hlk := hl1 hx
      obtain ⟨V, hV⟩ : ∃ V, V = W.alloc (.cells #[.int .i64 0, .int .i64 0, .slice none 0 0] 24) := ⟨_, rfl⟩
      have tV : Turned W V (fun _ => False) := by rw [hV]; exact (Turned.refl _ _).alloc _
      obtain ⟨W2, hput, hM2, k2⟩ := (hMW.step tV).put hsm.1 hsn ht2
      obtain ⟨⟨e0, e1, e2, e3⟩, f0, f1, f2, f3⟩ := hB V (KeepsC.of tV)
      have HV := Lib.hid hV
      have HM2 := Lib.hid hM2
      have K2 := Lib.hid (TW.out.trans ((KeepsC.of tV).trans k2))
      clear hW tW k0 k1 hB ih ra rb hM hMW hl1 hl2 hV tV hM2 k2 hx hv ht ht2
      generalize t.kind = yk at *
      generalize t.num = yn at *
      generalize t.kids.length = ym at *
      go_enter Try.func77, Try.ntmps77
      go_upto_region 1 with fail
      rw [← HW.out]
      go_upto_region 3 with fail
      rw [← HV.out]
      go_wp2
      go_ret
      exact ⟨rfl, HM2.out, K2.out⟩
    | some u =>
      obtain ⟨v, hvu, hlk⟩ := hl2 u hx
      obtain ⟨av, cv, rfl, -⟩ := hvu.form
      obtain ⟨V, hV⟩ : ∃ V, V = W.alloc (.cells #[.int .i64 u.kind, .int .i64 u.num, .slice av u.kids.length cv] 24) := ⟨_, rfl⟩
      have tV : Turned W V (fun _ => False) := by rw [hV]; exact (Turned.refl _ _).alloc _
      obtain ⟨W2, hput, hM2, k2⟩ := (hMW.step tV).put hsm.1 hsn ht2
      obtain ⟨⟨e0, e1, e2, e3⟩, f0, f1, f2, f3⟩ := hB V (KeepsC.of tV)
      obtain ⟨⟨i0, i1, i2, i3⟩, j0, j1, j2, j3⟩ := hB W2 ((KeepsC.of tV).trans k2)
      obtain ⟨z0, z1, z2, -, -, -, z3⟩ := box3 (k2.2 _ _ _ _ (show V.heap[w.heap.size + 2]? = some (.cells #[.int .i64 u.kind, .int .i64 u.num, .slice av u.kids.length cv] 24 (0, 0)) by rw [hV]; exact alloc_at hWs))
      have Hcall := Lib.hid (same_any u t _ _ W2 (TmIn.turned hM2.turned _ hvu) (TmIn.turned hM2.turned _ ht2))
      have HV := Lib.hid hV
      have HM2 := Lib.hid hM2
      have K2 := Lib.hid (TW.out.trans ((KeepsC.of tV).trans k2))
      clear hW tW k0 k1 hB ih ra rb hM hMW hl1 hl2 hV tV hM2 k2 hx hv ht ht2 hvu
      simp only
      generalize u.same t = sm at *
      generalize t.kind = yk at *
      generalize t.num = yn at *
      generalize t.kids.length = ym at *
      generalize u.kind = uk at *
      generalize u.num = un at *
      generalize u.kids.length = um at *
      go_enter Try.func77, Try.ntmps77
      go_upto_region 1 with fail
      rw [← HW.out]
      go_upto_region 3 with fail
      rw [← HV.out]
      go_wp2_with fail
      refine Hcall.out.mono ?_
      rintro e w3 ⟨rfl, t3⟩
      have HM3 := Lib.hid (HM2.out.step t3)
      have K3 := Lib.hid (K2.out.trans (KeepsC.of t3))
      clear t3
      go_wp2
      go_ret
      exact ⟨rfl, HM3.out, K3.out⟩
  have e1 : (ka == 1) = false := by simpa using hk
  have hv : (Tm.node ka na la).mtch t s = if ka = t.kind ∧ na = t.num ∧ la.length = t.kids.length then Tm.mtchs la t.kids s else (s, false) := by simp only [Tm.mtch, if_neg hk]
  have Hv := Lib.hid hv
  have HMW := Lib.hid hMW
  by_cases g : ka = t.kind ∧ na = t.num ∧ la.length = t.kids.length
  rotate_left 1
  · rw [if_neg g] at Hv
    clear hW tW k0 k1 hB ih ra rb hM hMW hv ht ht2
    generalize t.kind = yk at *
    generalize t.num = yn at *
    generalize t.kids.length = ym at *
    by_cases g1 : ka = yk
    · by_cases g2 : na = yn
      · have g3 : ((la.length : Int) == (ym : Int)) = false := by rw [beq_eq_false_iff_ne]; omega
        have g4 : ((la.length : Int) != (ym : Int)) = true := by simp only [bne, g3]; rfl
        clear g hk
        subst g1; subst g2
        go_enter Try.func77, Try.ntmps77
        go_upto_region 1 with fail
        rw [← HW.out]
        go_wp2
        go_ret
        rw [Hv.out]
        exact ⟨rfl, HMW.out, TW.out⟩
      · have g3 : (na == yn) = false := by simpa using g2
        have g4 : (na != yn) = true := by simpa using g2
        clear g g2 hk
        subst g1
        go_enter Try.func77, Try.ntmps77
        go_upto_region 1 with fail
        rw [← HW.out]
        go_wp2
        go_ret
        rw [Hv.out]
        exact ⟨rfl, HMW.out, TW.out⟩
    · have g3 : (ka == yk) = false := by simpa using g1
      have g4 : (ka != yk) = true := by simpa using g1
      clear g g1 hk
      go_enter Try.func77, Try.ntmps77
      go_upto_region 1 with fail
      rw [← HW.out]
      go_wp2
      go_ret
      rw [Hv.out]
      exact ⟨rfl, HMW.out, TW.out⟩
  rw [if_pos g] at Hv
  obtain ⟨g1, g2, g3⟩ := g
  have q1 : (ka == t.kind) = true := by simpa using g1
  have q2 : (ka != t.kind) = false := by simpa using g1
  have q3 : (na == t.num) = true := by simpa using g2
  have q4 : (na != t.num) = false := by simpa using g2
  have q5 : ((la.length : Int) == (t.kids.length : Int)) = true := by rw [g3]; exact beq_self_eq_true _
  have q6 : ((la.length : Int) != (t.kids.length : Int)) = false := by simp only [bne, q5]; rfl
  have Hal := Lib.hid g3
  have Ih := Lib.hid ih
  have Ra := Lib.hid ra
  have Rb := Lib.hid rb
  have Hks := Lib.hid hsm.2
  have hss : s.n + Tm.sizes la ≤ 1000000 := by simp only [Tm.size] at hlen; omega
  clear hW tW k0 k1 hB ih ra rb hM hMW hv ht ht2 g1 g2 g3 hk hlen hsm
  generalize t.kids = lb at *
  generalize t.kind = yk at *
  generalize t.num = yn at *
  go_enter Try.func77, Try.ntmps77
  go_upto_region 1 with fail
  rw [← HW.out]
  go_wp2
  clear a0 a1 a2 a3 b0 b1 b2 b3 e1 q1 q2 q3 q4 q5 q6 hWs
  go_loopw [55] (fun i wr => ∃ k : Nat, k ≤ la.length ∧ i = .int .i64 k ∧ (Tm.mtchs (la.take k) (lb.take k) s).2 = true ∧ Mch w0 b (Tm.mtchs (la.take k) (lb.take k) s).1 wr ∧ KeepsC W wr) (fun i _ => la.length - (intOf i).toNat)
  case atStart => exact ⟨0, Nat.zero_le _, rfl, by simp [Tm.mtchs], by simpa [Tm.mtchs] using HMW.out, KeepsC.refl _⟩
  case round =>
    obtain ⟨k, hk, rfl, htk, hMr, hkr⟩ := hrel
    have hl2 : (la.take k).length = (lb.take k).length := by rw [List.length_take, List.length_take, Hal.out]
    by_cases hlt : k < la.length
    · have hltb : k < lb.length := by rw [← Hal.out]; exact hlt
      have hki : (k : Int) < (la.length : Int) := by omega
      have hki2 : (k : Int) < (lb.length : Int) := by omega
      have hor := hMr.turned
      obtain ⟨ga, oa, sa, sc, rfl, lga, xa0, xa1, xa2, xat⟩ := tmsIn_at2 Ra.out k hlt
      obtain ⟨gb, ob, sb, sd, rfl, lgb, yb0, yb1, yb2, ybt⟩ := tmsIn_at2 Rb.out k hltb
      have lga' : ga < wr.heap.size := Nat.lt_of_lt_of_le lga hor.size
      have lgb' : gb < wr.heap.size := Nat.lt_of_lt_of_le lgb hor.size
      have p0 := (hor.cell (p := ⟨ga, oa + k * 3, none⟩) lga (fun hf => hf)).trans xa0
      have p1 := (hor.cell (p := ⟨ga, oa + k * 3 + 1, none⟩) lga (fun hf => hf)).trans xa1
      have p2 := (hor.cell (p := ⟨ga, oa + k * 3 + 2, none⟩) lga (fun hf => hf)).trans xa2
      have r0 := (hor.cell (p := ⟨gb, ob + k * 3, none⟩) lgb (fun hf => hf)).trans yb0
      have r1 := (hor.cell (p := ⟨gb, ob + k * 3 + 1, none⟩) lgb (fun hf => hf)).trans yb1
      have r2 := (hor.cell (p := ⟨gb, ob + k * 3 + 2, none⟩) lgb (fun hf => hf)).trans yb2
      obtain ⟨⟨-, -, a2, a3⟩, -, -, b2, b3⟩ := HB.out wr hkr
      have hsn : Tm.mtchs (la.take (k + 1)) (lb.take (k + 1)) s = la[k].mtch lb[k] (Tm.mtchs (la.take k) (lb.take k) s).1 := by
        rw [List.take_succ_eq_append_getElem hlt, List.take_succ_eq_append_getElem hltb, Tm.mtchs_snoc _ _ _ _ _ hl2, if_pos htk]
      have hst : (Tm.mtchs (la.take (k + 1)) (lb.take (k + 1)) s).2 = false → Tm.mtchs la lb s = Tm.mtchs (la.take (k + 1)) (lb.take (k + 1)) s := fun h => by
        have := Tm.mtchs_stop (la.take (k + 1)) (lb.take (k + 1)) (la.drop (k + 1)) (lb.drop (k + 1)) s (by rw [List.length_take, List.length_take, Hal.out]) h
        rwa [List.take_append_drop, List.take_append_drop] at this
      have hsz : (Tm.mtchs (la.take k) (lb.take k) s).1.n + la[k].size ≤ 1000000 := by
        have h1 := Tm.mtchs_n (la.take k) (lb.take k) s
        have h3 := Tm.sizes_app (la.take (k + 1)) (la.drop (k + 1))
        rw [List.take_append_drop, List.take_succ_eq_append_getElem hlt, Tm.sizes_app] at h3
        simp only [Tm.sizes] at h3
        omega
      have hcall := fun (X : World) (hX : Turned wr X (fun _ => False)) => Ih.out la[k] (List.getElem_mem hlt) lb[k] (.agg #[.int .i64 la[k].kind, .int .i64 la[k].num, .slice sa la[k].kids.length sc]) (.agg #[.int .i64 lb[k].kind, .int .i64 lb[k].num, .slice sb lb[k].kids.length sd]) (Tm.mtchs (la.take k) (lb.take k) s).1 X xat ybt (Tm.smalls_mem Hks.out (List.getElem_mem hlt)) (hMr.step hX) hsz
      rw [← hsn] at hcall
      have Hcall := Lib.hid hcall
      have Hst := Lib.hid hst
      have Hk := Lib.hid hkr
      have tt : Turned wr wr.drew (fun _ => False) := (Turned.refl wr _).drew
      clear htk xa0 xa1 xa2 xat yb0 yb1 yb2 ybt lga lgb hsn hcall hst hkr hMr hor hsz hl2
      generalize hX : Tm.mtchs (la.take (k + 1)) (lb.take (k + 1)) s = X at *
      have HX := Lib.hid hX
      clear hX
      obtain ⟨x1, xb⟩ := X
      generalize la[k].kind = xk at *
      generalize la[k].num = xn at *
      generalize la[k].kids.length = xm at *
      generalize lb[k].kind = zk at *
      generalize lb[k].num = zn at *
      generalize lb[k].kids.length = zm at *
      go_upto_region 10 with fail
      go_region_law (first
        | (go_simp; go_at_call 77; refine (Hcall.out _ tt).mono ?_; rintro e w1 ⟨rfl, hf1, k1⟩; have F3 := Lib.hid hf1; have K3 := Lib.hid (Hk.out.trans ((KeepsC.of tt).trans k1)); clear hf1 k1))
      all_goals
        clear p0 p1 p2 r0 r1 r2 a2 a3 b2 b3 tt
        cases xb
        · have Hf := Lib.hid (Hst.out rfl)
          clear Hst
          go_wp2
          go_ret
          rw [Hv.out, Hf.out]
          exact ⟨rfl, F3.out, TW.out.trans K3.out⟩
        · go_wp2
          go_roundw
          case rel => exact ⟨k + 1, by omega, by go_num, by rw [HX.out], by rw [HX.out]; exact F3.out, K3.out⟩
          case measure => simp [intOf]; omega
    · obtain rfl : k = la.length := by omega
      rw [List.take_of_length_le (Nat.le_refl _), List.take_of_length_le (show lb.length ≤ la.length by rw [Hal.out]; exact Nat.le_refl _)] at htk hMr
      have Htk := Lib.hid htk
      have HMr := Lib.hid hMr
      have Hkr := Lib.hid hkr
      clear htk hMr hkr hl2
      go_wp2
      go_ret
      rw [Hv.out, Htk.out]
      exact ⟨rfl, HMr.out, TW.out.trans Hkr.out⟩
end Go.Proofs.Ytljnmjehokijgaa

/- Maps gone through; rows of trees that are written anywhere. -/
namespace Go.Proofs.Ytljnmjehokijgaa
open Go.RowKit
open Go.Maps (Keyed)

/-- A map under way. -/
def RangV (w : World) (k : TypeId) (b r n : Nat) (F : Lit → Option Value) (left : Lit → Bool) (cnt : Nat) : Prop :=
  ∃ D : DataW Value, w.ranges Try.prog k heldR b r n D left cnt ∧ ∀ kl, WideAt.IsKeyLit kl → Maps.has D kl = (F kl).isSome ∧ ∀ z, D.atKey kl (.held z) = .held ((F kl).getD z)

theorem MapV.range {w : World} {k e t : TypeId} {b n : Nat} {F : Lit → Option Value} (h : MapV w k b n F) (K : Keyed Try.prog k) (ht : Try.prog.underlying t = some (.map k e)) :
    ∃ w' left cnt, (Instr.range t (.map (some b))).run Try.prog w = .ok (.pointer (some ⟨w.heap.size, 0, none⟩)) w' ∧ RangV w' k b w.heap.size n F left cnt ∧ (∀ kl, WideAt.IsKeyLit kl → left kl = (F kl).isSome) ∧ Turned w w' (fun _ => False) ∧ w'.heap.size = w.heap.size + 1 := by
  obtain ⟨D, h, hF⟩ := h
  obtain ⟨w', hrun, h1, h2, h3⟩ := h.range K ht
  exact ⟨w', _, _, hrun, ⟨D, h1, hF⟩, fun kl hk => (hF kl hk).1, Turned.grown (Turned.refl _ _) h2 (fun i _ e => by cases e), h3⟩

theorem RangV.lt {w : World} {k : TypeId} {b r n : Nat} {F : Lit → Option Value} {left : Lit → Bool} {cnt : Nat} (h : RangV w k b r n F left cnt) : r < w.heap.size := by
  obtain ⟨D, h, -⟩ := h
  exact h.lt

theorem RangV.left_eq {w : World} {k : TypeId} {b r n : Nat} {F : Lit → Option Value} {left : Lit → Bool} {cnt : Nat} (h : RangV w k b r n F left cnt) : w.rangeLeft b r = cnt := by
  obtain ⟨D, h, -⟩ := h
  exact h.left_eq

theorem RangV.turned {w w' : World} {k : TypeId} {b r n : Nat} {F : Lit → Option Value} {left : Lit → Bool} {cnt : Nat} {S : Nat → Prop} (h : RangV w k b r n F left cnt) (t : Turned w w' S) (hb : ¬ S b) (hr : ¬ S r) : RangV w' k b r n F left cnt := by
  obtain ⟨D, h, hF⟩ := h
  have h1 := h.owns.lt
  have h2 := h.lt
  obtain ⟨es, clock, since, seen, c0, hb0, F0, hs, hD, hr0, rest⟩ := h
  exact ⟨D, ⟨es, clock, since, seen, c0, (t.block b h1 hb).trans hb0, F0, hs, hD, (t.block r h2 hr).trans hr0, rest⟩, hF⟩

theorem RangV.blocks {w : World} {k : TypeId} {b r n : Nat} {F : Lit → Option Value} {left : Lit → Bool} {cnt : Nat} (h : RangV w k b r n F left cnt) : ∀ (j : Nat) (c : Array Value) (t : TypeId) (z : Nat × Nat), w.heap[j]? = some (.cells c t z) → j ≠ b ∧ j ≠ r := by
  obtain ⟨D, ⟨es, clock, since, seen, c0, hb0, F0, hs, hD, hr0, rest⟩, hF⟩ := h
  intro j c t z hj
  exact ⟨fun e => (by rw [e, hb0] at hj; cases hj), fun e => (by rw [e, hr0] at hj; cases hj)⟩

theorem RangV.next {w : World} {k : TypeId} {b r n : Nat} {F : Lit → Option Value} {left : Lit → Bool} {cnt : Nat} (h : RangV w k b r n F left cnt) (K : Keyed Try.prog k) (ty : TypeId) :
    (cnt = 0 ∧ (∀ kl, left kl = false) ∧ (Instr.next (.pointer (some ⟨r, 0, none⟩)) false ty).run Try.prog w = .ok (.tuple #[.bool false]) w) ∨
    ∃ key v kl w' cnt', keyOf Try.prog k key = some kl ∧ left kl = true ∧ F kl = some v ∧ (Instr.next (.pointer (some ⟨r, 0, none⟩)) false ty).run Try.prog w = .ok (.tuple #[.bool true, key, v]) w' ∧
      RangV w' k b r n F (fun x => left x && !x.sameKey kl) cnt' ∧ cnt' < cnt ∧ Turned w w' (fun i => i = r) ∧ (Instr.entry (.pointer (some ⟨r, 0, none⟩))).run Try.prog w' = .ok (.tuple #[key, v]) w' := by
  obtain ⟨D, h, hF⟩ := h
  rcases h.next K ty with ⟨h0, hl, hrun⟩ | ⟨key, v, kl, y, w', cnt', hkey, hlk, hv, hat, hrun, hrg, hlt, hgr, hsz, hen⟩
  · exact .inl ⟨h0, hl, hrun⟩
  · refine .inr ⟨key, v, kl, w', cnt', hkey, hlk, ?_, hrun, ⟨D, hrg, hF⟩, hlt, Turned.grown (Turned.refl _ _) hgr (fun i _ e => by simp only [Option.some.injEq] at e; exact e.symm), hen⟩
    simp only [heldR, Option.some.injEq] at hv
    subst hv
    have h1 := hF kl (K.key hkey)
    have h2 := Maps.has_true_of_atKey hat
    rw [h1.1] at h2
    obtain ⟨v', hv'⟩ := Option.isSome_iff_exists.1 h2
    have h3 := h1.2 v
    rw [hat, hv'] at h3
    simp only [Option.getD_some, DataW.held.injEq] at h3
    rw [hv', h3]

theorem intKey_inv {key : Value} {kl : Lit} (h : keyOf Try.prog 3 key = some kl) : ∃ x : Int, key = .int .i64 x ∧ kl = .int .i64 x ∧ -9223372036854775808 ≤ x ∧ x ≤ 9223372036854775807 := by
  obtain ⟨x, h1, h2, h3⟩ := Maps.keyOf_int_inv (q := .i64) (by kernel_rfl) h
  refine ⟨x, h1, h2, ?_⟩
  have h4 : (decide ((-9223372036854775808 : Int) ≤ x) && decide (x ≤ (9223372036854775807 : Int))) = true := h3
  simpa using h4

/-! ### rows of trees -/
/-- A block holds m trees, g of each place; their own rows lie in blocks of S. -/
def RowOf (w : World) (H : Nat) (S : Nat → Prop) (m : Nat) (g : Nat → Tm) : Prop :=
  ∃ c : Array Value, w.heap[H]? = some (.cells c 24 (0, 0)) ∧ c.size = m * 3 ∧
    ∀ i, i < m → ∃ v0 v1 v2, c[i * 3]? = some v0 ∧ c[i * 3 + 1]? = some v1 ∧ c[i * 3 + 2]? = some v2 ∧ TmS w S (g i) (.agg #[v0, v1, v2])

theorem RowOf.turned {w w' : World} {H m : Nat} {S D : Nat → Prop} {g : Nat → Tm} (h : RowOf w H S m g) (t : Turned w w' D) (hH : ¬ D H) (hd : ∀ k, k < w.heap.size → S k → ¬ D k) : RowOf w' H S m g := by
  obtain ⟨c, h1, h2, h3⟩ := h
  refine ⟨c, (t.block H (lt_of_block h1) hH).trans h1, h2, fun i hi => ?_⟩
  obtain ⟨v0, v1, v2, a0, a1, a2, a3⟩ := h3 i hi
  exact ⟨v0, v1, v2, a0, a1, a2, TmS.turned t hd (fun _ _ h => h) _ a3⟩

theorem madeT_at (m j : Nat) (hj : j < m * 3) : (madeCells #[.int .i64 0, .int .i64 0, .slice none 0 0] (m * 3))[j]? = some ((#[.int .i64 0, .int .i64 0, .slice none 0 0] : Array Value)[j % 3]!) := by
  simp [madeCells, hj]

theorem RowOf.made {w : World} {H m : Nat} {S : Nat → Prop} (h : w.heap[H]? = some (.cells (madeCells #[.int .i64 0, .int .i64 0, .slice none 0 0] (m * 3)) 24 (0, 0))) : RowOf w H S m (fun _ => Tm.zero) := by
  refine ⟨_, h, size_madeCells _ _, fun i hi => ⟨_, _, _, madeT_at m _ (by omega), madeT_at m _ (by omega), madeT_at m _ (by omega), ?_⟩⟩
  rw [show i * 3 % 3 = 0 by omega, show (i * 3 + 1) % 3 = 1 by omega, show (i * 3 + 2) % 3 = 2 by omega]
  exact zeroS w S

theorem RowOf.put {w : World} {H m : Nat} {S : Nat → Prop} {g : Nat → Tm} {t : Tm} {a0 a1 a2 : Value} {i : Nat} (h : RowOf w H S m g) (hS : ¬ S H) (hi : i < m) (ht : TmS w S t (.agg #[a0, a1, a2])) :
    RowOf (set3 w H (i * 3) a0 a1 a2) H S m (fun j => if j = i then t else g j) := by
  obtain ⟨c, h1, h2, h3⟩ := h
  have hT := set3_turned w H (i * 3) a0 a1 a2
  have hd : ∀ k, k < w.heap.size → S k → ¬ k = H := fun k _ hk e => hS (e ▸ hk)
  refine ⟨_, set3_block h1 a0 a1 a2, by simp [h2], fun j hj => ?_⟩
  by_cases hji : j = i
  · subst hji
    simp only [if_pos]
    refine ⟨a0, a1, a2, ?_, ?_, ?_, TmS.turned hT hd (fun _ _ h => h) t ht⟩
    · rw [Array.getElem?_setIfInBounds_ne (by omega), Array.getElem?_setIfInBounds_ne (by omega), Array.getElem?_setIfInBounds_self_of_lt (by omega)]
    · rw [Array.getElem?_setIfInBounds_ne (by omega), Array.getElem?_setIfInBounds_self_of_lt (by simp; omega)]
    · rw [Array.getElem?_setIfInBounds_self_of_lt (by simp; omega)]
  · simp only [if_neg hji]
    obtain ⟨v0, v1, v2, b0, b1, b2, b3⟩ := h3 j hj
    refine ⟨v0, v1, v2, ?_, ?_, ?_, TmS.turned hT hd (fun _ _ h => h) _ b3⟩
    · rw [Array.getElem?_setIfInBounds_ne (by omega), Array.getElem?_setIfInBounds_ne (by omega), Array.getElem?_setIfInBounds_ne (by omega)]; exact b0
    · rw [Array.getElem?_setIfInBounds_ne (by omega), Array.getElem?_setIfInBounds_ne (by omega), Array.getElem?_setIfInBounds_ne (by omega)]; exact b1
    · rw [Array.getElem?_setIfInBounds_ne (by omega), Array.getElem?_setIfInBounds_ne (by omega), Array.getElem?_setIfInBounds_ne (by omega)]; exact b2

theorem RowOf.cells {w : World} {H m : Nat} {S : Nat → Prop} {g : Nat → Tm} (h : RowOf w H S m g) (i : Nat) (hi : i < m) : ∃ x0 x1 x2, w.cell? ⟨H, i * 3, none⟩ = some x0 ∧ w.cell? ⟨H, i * 3 + 1, none⟩ = some x1 ∧ w.cell? ⟨H, i * 3 + 2, none⟩ = some x2 ∧
    w.frozen? ⟨H, i * 3, none⟩ = false ∧ w.frozen? ⟨H, i * 3 + 1, none⟩ = false ∧ w.frozen? ⟨H, i * 3 + 2, none⟩ = false ∧ H < w.heap.size := by
  obtain ⟨c, h1, -, h3⟩ := h
  obtain ⟨v0, v1, v2, b0, b1, b2, -⟩ := h3 i hi
  refine ⟨v0, v1, v2, ?_, ?_, ?_, ?_, ?_, ?_, lt_of_block h1⟩
  · simp only [World.cell?, h1]; exact b0
  · simp only [World.cell?, h1]; exact b1
  · simp only [World.cell?, h1]; exact b2
  · simp [World.frozen?, h1]
  · simp [World.frozen?, h1]
  · simp [World.frozen?, h1]

theorem RowOf.congr {w : World} {H m : Nat} {S : Nat → Prop} {g g' : Nat → Tm} (h : RowOf w H S m g) (hg : ∀ j, j < m → g j = g' j) : RowOf w H S m g' := by
  obtain ⟨c, h1, h2, h3⟩ := h
  exact ⟨c, h1, h2, fun i hi => by rw [← hg i hi]; exact h3 i hi⟩

theorem intLit {x : Int} (h1 : -9223372036854775808 ≤ x) (h2 : x ≤ 9223372036854775807) : WideAt.IsKeyLit (.int .i64 x) := intKeyed.key (intKey ⟨h1, h2⟩)

theorem RowOf.rows {w : World} {H m : Nat} {S : Nat → Prop} {g : Nat → Tm} (h : RowOf w H S m g) : TmsIn w ((List.range m).map g) (some ⟨H, 0, none⟩) := by
  obtain ⟨c, h1, h2, h3⟩ := h
  refine tmsIn_mk (lt_of_block h1) fun i hi => ?_
  simp only [List.length_map, List.length_range] at hi
  obtain ⟨v0, v1, v2, b0, b1, b2, b3⟩ := h3 i hi
  refine ⟨v0, v1, v2, ?_, ?_, ?_, ?_⟩
  · simp only [World.cell?, h1, Nat.zero_add]; exact b0
  · simp only [World.cell?, h1, Nat.zero_add]; exact b1
  · simp only [World.cell?, h1, Nat.zero_add]; exact b2
  · simpa using TmS.toIn _ b3
end Go.Proofs.Ytljnmjehokijgaa

/- Match. -/
namespace Go.Proofs.Ytljnmjehokijgaa
open Go.RowKit

mutual
/-- Only the pattern's variables are put. -/
theorem Tm.mtch_dom : ∀ (p t : Tm) (s : Fnd) (x : Int), p.right = true → (p.mtch t s).1.f x ≠ none → s.f x ≠ none ∨ p.vin x
  | .node k n l, t, s, x, hr, h => by
    obtain ⟨h1, h2⟩ := Tm.right_kids hr
    simp only [Tm.mtch] at h
    by_cases hk : k = 1
    · rw [if_pos hk] at h
      simp only [Fnd.put] at h
      by_cases hx : x = n
      · right; simp [Tm.vin, hk, hx]
      · rw [if_neg hx] at h; exact .inl h
    · rw [if_neg hk] at h
      split at h
      · rcases Tm.mtchs_dom l t.kids s x h1 h with h3 | h3
        · exact .inl h3
        · right; simp only [Tm.vin]; rw [if_neg hk]; exact h3
      · exact .inl h
theorem Tm.mtchs_dom : ∀ (l m : List Tm) (s : Fnd) (x : Int), Tm.rights l = true → (Tm.mtchs l m s).1.f x ≠ none → s.f x ≠ none ∨ Tm.vins x l
  | [], _, s, x, _, h => .inl (by simpa [Tm.mtchs] using h)
  | _ :: _, [], s, x, _, h => .inl (by simpa [Tm.mtchs] using h)
  | a :: l, b :: m, s, x, hr, h => by
    simp only [Tm.rights, Bool.and_eq_true] at hr
    simp only [Tm.mtchs] at h
    split at h
    · rcases Tm.mtchs_dom l m _ x hr.2 h with h3 | h3
      · rcases Tm.mtch_dom a b s x hr.1 h3 with h4 | h4
        · exact .inl h4
        · exact .inr (.inl h4)
      · exact .inr (.inr h3)
    · rcases Tm.mtch_dom a b s x hr.1 h with h4 | h4
      · exact .inl h4
      · exact .inr (.inl h4)
end

mutual
/-- What is put is a part of the tree. -/
theorem Tm.mtch_parts (G : Tm → Prop) (hG : ∀ k n l, G (.node k n l) → ∀ t ∈ l, G t) : ∀ (p t : Tm) (s : Fnd), G t → (∀ x u, s.f x = some u → G u) → ∀ x u, (p.mtch t s).1.f x = some u → G u
  | .node k n l, t, s, ht, hs, x, u, h => by
    simp only [Tm.mtch] at h
    split at h
    · simp only [Fnd.put] at h
      split at h
      · simp only [Option.some.injEq] at h; rw [← h]; exact ht
      · exact hs x u h
    · split at h
      · exact Tm.mtchs_parts G hG l t.kids s (by obtain ⟨k', n', l'⟩ := t; exact hG k' n' l' ht) hs x u h
      · exact hs x u h
theorem Tm.mtchs_parts (G : Tm → Prop) (hG : ∀ k n l, G (.node k n l) → ∀ t ∈ l, G t) : ∀ (l m : List Tm) (s : Fnd), (∀ t ∈ m, G t) → (∀ x u, s.f x = some u → G u) → ∀ x u, (Tm.mtchs l m s).1.f x = some u → G u
  | [], _, s, _, hs, x, u, h => hs x u (by simpa [Tm.mtchs] using h)
  | _ :: _, [], s, _, hs, x, u, h => hs x u (by simpa [Tm.mtchs] using h)
  | a :: l, b :: m, s, hm, hs, x, u, h => by
    have h1 := Tm.mtch_parts G hG a b s (hm b (.head _)) hs
    simp only [Tm.mtchs] at h
    split at h
    · exact Tm.mtchs_parts G hG l m _ (fun t ht => hm t (.tail _ ht)) h1 x u h
    · exact h1 x u h
end

mutual
theorem Tm.walk_top : ∀ (t : Tm) (n : Int), t.right = true → n ≤ t.walk topStep n ∧ ∀ x, t.vin x → x ≤ t.walk topStep n
  | .node k m l, n, hr => by
    obtain ⟨h1, h2⟩ := Tm.right_kids hr
    simp only [Tm.walk]
    have h3 := Tm.walks_top l (topStep n (.node k m l)) h1
    have h4 : topStep n (.node k m l) = if k = 1 then max n m else n := rfl
    by_cases hk : k = 1
    · rw [if_pos hk] at h4
      refine ⟨by omega, fun x hx => ?_⟩
      simp only [Tm.vin, if_pos hk] at hx
      omega
    · rw [if_neg hk] at h4
      refine ⟨by omega, fun x hx => ?_⟩
      simp only [Tm.vin] at hx
      rw [if_neg hk] at hx
      exact h3.2 x hx
theorem Tm.walks_top : ∀ (l : List Tm) (n : Int), Tm.rights l = true → n ≤ Tm.walks topStep l n ∧ ∀ x, Tm.vins x l → x ≤ Tm.walks topStep l n
  | [], n, _ => ⟨Int.le_refl _, fun _ h => h.elim⟩
  | t :: l, n, hr => by
    simp only [Tm.rights, Bool.and_eq_true] at hr
    have h1 := Tm.walk_top t n hr.1
    have h2 := Tm.walks_top l (t.walk topStep n) hr.2
    simp only [Tm.walks]
    refine ⟨by omega, fun x hx => ?_⟩
    rcases hx with hx | hx
    · have := h1.2 x hx; omega
    · exact h2.2 x hx
end

/-- Nothing was found. -/
def Fnd.none_ : Fnd := ⟨fun _ => none, 0⟩

/-- What Match answers. -/
def Tm.matchT (p t : Tm) : List Tm × Bool × Int :=
  if p.isTree = false ∨ t.isTree = false then ([], false, 4) else if 4000 < topOf [p] then ([], false, 1) else
    if (p.mtch t Fnd.none_).2 = false then ([], false, 0) else ((List.range (topOf [p] + 1).toNat).map (fun (i : Nat) => ((p.mtch t Fnd.none_).1.f (i : Int)).getD Tm.zero), true, 0)

/-- A row of trees, whether, and an error are given. -/
def RowBe (X : List Tm × Bool × Int) (w : World) (e : Ending) (w' : World) : Prop := ∃ v, e = .returned (.tuple #[v, .bool X.2.1, .int .i64 X.2.2]) ∧ RowTm w' v X.1 ∧ Turned w w' (fun _ => False)

theorem rowBe_nil (w w' : World) (b : Bool) (er : Int) (t : Turned w w' (fun _ => False)) : RowBe ([], b, er) w (.returned (.tuple #[.slice none 0 0, .bool b, .int .i64 er])) w' := ⟨_, rfl, RowTm.nil w', t⟩

set_option maxRecDepth 100000 in
set_option maxHeartbeats 3200000 in
theorem sigMatch_any (p t : Tm) (vp vt : Value) (w : World) (ha : TmIn w p vp) (hb : TmIn w t vt) (hsm : p.small) :
    Calls Try.prog 35 #[vp, vt] w (RowBe (p.matchT t) w) := by
  obtain ⟨aa, ca, rfl, hla, -⟩ := ha.form
  obtain ⟨ab, cb, rfl, hlb, -⟩ := hb.form
  obtain ⟨W, hW, tW, hC⟩ := box2 w (.int .i64 p.kind) (.int .i64 p.num) (.slice aa p.kids.length ca) (.int .i64 t.kind) (.int .i64 t.num) (.slice ab t.kids.length cb) 24 24
  obtain ⟨a0, a1, a2, b0, b1, b2, lW⟩ := hC W (Turned.refl _ _)
  have Htp := Lib.hid (tree_any p _ W (TmIn.turned tW _ ha))
  have Htt := Lib.hid (fun V (hV : Turned W V (fun _ => False)) => tree_any t _ V (TmIn.turned (tW.trans hV (fun _ _ hf => hf)) _ hb))
  have hE1 : p.treeE = if p.isTree = true then 0 else 4 := rfl
  have hE2 : t.treeE = if t.isTree = true then 0 else 4 := rfl
  have Hgr := Lib.hid (fun V V' (hV : Turned W V (fun _ => False)) (hV' : V' = V.alloc (.cells #[.int .i64 p.kind, .int .i64 p.num, .slice aa p.kids.length ca] 24)) =>
    greatest_any [p] (.slice (some ⟨V.heap.size, 0, none⟩) 1 1) V' (rowTm_one ha (by rw [hV']; exact (tW.trans hV (fun _ _ hf => hf)).alloc _) (by rw [hV']; exact heap_alloc_new _ _) 1))
  have Hdef := Lib.hid (show p.matchT t = if p.isTree = false ∨ t.isTree = false then ([], false, 4) else if 4000 < topOf [p] then ([], false, 1) else
    if (p.mtch t Fnd.none_).2 = false then ([], false, 0) else ((List.range (topOf [p] + 1).toNat).map (fun (i : Nat) => ((p.mtch t Fnd.none_).1.f (i : Int)).getD Tm.zero), true, 0) from rfl)
  have Hm := Lib.hid (fun (V : World) (hV : Turned W V (fun _ => False)) (hp : p.isTree = true) => by
    have hM : Mch w V.heap.size Fnd.none_ (V.alloc (.map #[] 0)) := ⟨(tW.trans hV (fun _ _ hf => hf)).alloc _, ⟨_, MapV.made V 3, fun x => ⟨fun _ => rfl, fun u hu => by cases hu⟩⟩, (tW.trans hV (fun _ _ hf => hf)).size⟩
    exact matches_any w V.heap.size p t _ _ Fnd.none_ (V.alloc (.map #[] 0)) ha hb hsm hM (by have := ((Tm.isTree_iff p).1 hp).1; simp only [Fnd.none_]; omega))
  have Hdom := Lib.hid (fun (hp : p.isTree = true) (x : Int) (hx : (p.mtch t Fnd.none_).1.f x ≠ none) => show 0 ≤ x ∧ x ≤ topOf [p] by
    have hr := ((Tm.isTree_iff p).1 hp).2.2
    rcases Tm.mtch_dom p t _ x hr hx with h | h
    · exact absurd rfl h
    · refine ⟨(Tm.vin_top hp h).1, ?_⟩
      have := (Tm.walk_top p (-1) hr).2 x h
      simpa [topOf, Tm.walks] using this)
  have Hpart := Lib.hid (fun (ht : t.isTree = true) (x : Int) (u : Tm) (hu : (p.mtch t Fnd.none_).1.f x = some u) => show u.right = true ∧ u.size ≤ 1000000 by
    have hT := (Tm.isTree_iff t).1 ht
    exact Tm.mtch_parts (fun u => u.right = true ∧ u.size ≤ 1000000) (fun k n l h u hu => ⟨Tm.rights_mem (Tm.right_kids h.1).1 hu, by have := Tm.sizes_mem hu; have := h.2; simp only [Tm.size] at this; omega⟩) p t Fnd.none_ ⟨hT.2.2, by omega⟩ (fun _ _ h => by cases h) x u hu)
  have HC := Lib.hid hC
  have HW := Lib.hid hW
  have TW := Lib.hid tW
  have hmm : ∀ (w : World), (Instr.makeMap 105 none).run Try.prog w = .ok (.map (some w.heap.size)) (w.alloc (.map #[] 0)) := fun _ => rfl
  have htop : -1 ≤ topOf [p] ∨ p.isTree = false := by
    cases hp : p.isTree with
    | false => exact .inr rfl
    | true =>
      left
      have := (Tm.walk_top p (-1) ((Tm.isTree_iff p).1 hp).2.2).1
      simpa [topOf, Tm.walks] using this
  generalize p.matchT t = RX at *
  clear hW hC tW ha hb hla hlb hsm
  generalize p.kind = pk at *
  generalize p.num = pn at *
  generalize p.kids.length = pl at *
  generalize t.kind = tk at *
  generalize t.num = tn at *
  generalize t.kids.length = tl at *
  generalize p.treeE = pe at *
  generalize t.treeE = te at *
  go_enter Try.func35, Try.ntmps35
  go_upto_region 1 with fail
  rw [← HW.out]
  go_wp2_with fail
  refine Htp.out.mono ?_
  rintro e w1 ⟨rfl, t1⟩
  have T1 := Lib.hid t1
  clear a0 a1 a2 b0 b1 b2 lW
  obtain ⟨a0, a1, a2, b0, b1, b2, lW⟩ := HC.out w1 t1
  clear t1
  cases hp : p.isTree with
  | false =>
    rw [hp, if_neg (by simp)] at hE1
    subst hE1
    rw [if_pos (.inl hp)] at Hdef
    have Hfin := Lib.hid (rowBe_nil w w1 false 4 (TW.out.trans T1.out (fun _ _ hf => hf)))
    clear hp hE2
    go_wp2
    go_ret3
    rw [Hdef.out]
    exact Hfin.out
  | true =>
  rw [hp, if_pos rfl] at hE1
  subst hE1
  go_wp2_with fail
  refine (Htt.out w1 T1.out).mono ?_
  rintro e w2 ⟨rfl, t2⟩
  have T2 := Lib.hid (T1.out.trans t2 (fun _ _ hf => hf))
  clear a0 a1 a2 b0 b1 b2 lW t2
  obtain ⟨a0, a1, a2, b0, b1, b2, lW⟩ := HC.out w2 T2.out
  cases ht : t.isTree with
  | false =>
    rw [ht, if_neg (by simp)] at hE2
    subst hE2
    rw [if_pos (.inr ht)] at Hdef
    have Hfin := Lib.hid (rowBe_nil w w2 false 4 (TW.out.trans T2.out (fun _ _ hf => hf)))
    clear hp ht
    go_wp2
    go_ret3
    rw [Hdef.out]
    exact Hfin.out
  | true =>
  rw [ht, if_pos rfl] at hE2
  subst hE2
  rw [if_neg (by rw [hp, ht]; simp)] at Hdef
  have htop2 : -1 ≤ topOf [p] := by rcases htop with h | h; exact h; rw [hp] at h; cases h
  have Hm2 := Lib.hid (fun V hV => Hm.out V hV hp)
  have Hdom2 := Lib.hid (fun x hx => Hdom.out hp x hx)
  have Hpart2 := Lib.hid (fun x u hu => Hpart.out ht x u hu)
  clear htop hp ht Hm Hdom Hpart
  generalize topOf [p] = top at *
  generalize p.mtch t Fnd.none_ = MX at *
  obtain ⟨mf, mb⟩ := MX
  obtain ⟨V1, hV1⟩ : ∃ V1, V1 = w2.alloc (.cells #[.int .i64 pk, .int .i64 pn, .slice aa pl ca] 24) := ⟨_, rfl⟩
  have Hg := Lib.hid (Hgr.out w2 V1 T2.out hV1)
  have TV1 := Lib.hid (T2.out.trans (show Turned w2 V1 (fun _ => False) by rw [hV1]; exact (Turned.refl _ _).alloc _) (fun _ _ hf => hf))
  have HV1 := Lib.hid hV1
  clear hV1
  go_wp2_with fail
  rw [← HV1.out]
  refine Hg.out.mono ?_
  rintro e w3 ⟨rfl, t3⟩
  have T3 := Lib.hid (TV1.out.trans t3 (fun _ _ hf => hf))
  clear a0 a1 a2 b0 b1 b2 lW t3
  obtain ⟨a0, a1, a2, b0, b1, b2, lW⟩ := HC.out w3 T3.out
  by_cases hbig : 4000 < top
  · rw [if_pos hbig] at Hdef
    have Hfin := Lib.hid (rowBe_nil w w3 false 1 (TW.out.trans T3.out (fun _ _ hf => hf)))
    go_wp2
    go_ret3
    rw [Hdef.out]
    exact Hfin.out
  rw [if_neg hbig] at Hdef
  obtain ⟨V2, hV2⟩ : ∃ V2, V2 = w3.alloc (.map #[] 0) := ⟨_, rfl⟩
  have tV2 : Turned w3 V2 (fun _ => False) := by rw [hV2]; exact (Turned.refl _ _).alloc _
  have Hmc := Lib.hid (Hm2.out w3 T3.out)
  rw [← hV2] at Hmc
  have TV2 := Lib.hid (T3.out.trans tV2 (fun _ _ hf => hf))
  clear a0 a1 a2 b0 b1 b2 lW
  obtain ⟨a0, a1, a2, b0, b1, b2, lW⟩ := HC.out V2 TV2.out
  have HV2 := Lib.hid hV2
  clear hV2 tV2
  go_upto_region 7 with fail
  rw [← HV2.out]
  go_wp2_with fail
  refine Hmc.out.mono ?_
  rintro e w4 ⟨rfl, hM4, k4⟩
  have HM4 := Lib.hid hM4
  clear hM4 k4 a0 a1 a2 b0 b1 b2 lW
  cases mb
  · rw [if_pos rfl] at Hdef
    have Hfin := Lib.hid (rowBe_nil w w4 false 0 HM4.out.turned)
    go_wp2
    go_ret3
    rw [Hdef.out]
    exact Hfin.out
  rw [if_neg (by simp)] at Hdef
  obtain ⟨n, hn⟩ : ∃ n : Nat, top + 1 = n := ⟨(top + 1).toNat, by omega⟩
  rw [hn, Int.toNat_natCast] at Hdef
  have hwn : IntKind.i64.wrap (top + 1) = (n : Int) := by rw [hn]; exact IntWalk.i64_in _ (by omega)
  have hnle : n ≤ 1000000 := by omega
  have hmk := run_makeTerms n hnle w4
  generalize w3.heap.size = b at *
  obtain ⟨W5, hW5⟩ : ∃ W5, W5 = w4.alloc (.cells (madeCells #[.int .i64 0, .int .i64 0, .slice none 0 0] (n * 3)) 24) := ⟨_, rfl⟩
  have tW5 : Turned w4 W5 (fun _ => False) := by rw [hW5]; exact (Turned.refl _ _).alloc _
  have hM5 := HM4.out.step tW5
  obtain ⟨F, hF1, hF2⟩ := hM5.hf
  obtain ⟨W6, left, cnt, hrange, hrg, hleft, t6, hs6⟩ := hF1.range intKeyed (t := 105) (e := 24) (by kernel_rfl)
  have hs5 : W5.heap.size = w4.heap.size + 1 := by rw [hW5]; exact Array.size_push _
  have hrow0 : RowOf W6 w4.heap.size (fun g => w4.heap.size + 2 ≤ g) n (fun _ => Tm.zero) := (RowOf.made (by rw [hW5]; exact heap_alloc_new _ _)).turned t6 (fun hf => hf) (fun _ _ _ hf => hf)
  have tw6 : Turned w W6 (fun _ => False) := (hM5.turned).trans t6 (fun _ _ hf => hf)
  have hw4 : w.heap.size ≤ w4.heap.size := HM4.out.turned.size
  have HF2 := Lib.hid hF2
  have Hdomk := Lib.hid (fun (x : Int) (u : Tm) (hu : mf.f x = some u) => show ∃ k : Nat, x = (k : Int) ∧ k < n by
    have := Hdom2.out x (by rw [hu]; simp)
    exact ⟨x.toNat, by omega, by omega⟩)
  have hrow1 : RowOf W6 w4.heap.size (fun g => w4.heap.size + 2 ≤ g) n (fun j => if left (.int .i64 (j : Int)) then Tm.zero else (mf.f (j : Int)).getD Tm.zero) := by
    refine hrow0.congr fun j hj => ?_
    have h1 := hleft (.int .i64 (j : Int)) (intLit (by omega) (by omega))
    cases hf : mf.f (j : Int) with
    | none => simp
    | some u =>
      obtain ⟨v, hv, -⟩ := (hF2 j).2 u hf
      rw [hv] at h1
      rw [if_pos (by rw [h1]; rfl)]
  have HW5 := Lib.hid hW5
  have Hrow1 := Lib.hid hrow1
  have Hrg := Lib.hid hrg
  have Tw6 := Lib.hid tw6
  rw [hs5] at Hrg hrange
  clear hF1 hF2 hleft hrow0 hrow1 hM5 tW5 t6 hs6 hW5 hs5 hrg tw6 HM4 Hmc Hdom2
  go_upto_region 10 with fail
  rw [← HW5.out]
  go_wp2
  go_loopw [10] (fun _ wr => ∃ left cnt, RangV wr 3 b (w4.heap.size + 1) mf.n F left cnt ∧ RowOf wr w4.heap.size (fun g => w4.heap.size + 2 ≤ g) n (fun j => if left (.int .i64 (j : Int)) then Tm.zero else (mf.f (j : Int)).getD Tm.zero) ∧ Turned w wr (fun _ => False)) (fun _ wr => wr.rangeLeft b (w4.heap.size + 1))
  case atStart => exact ⟨left, cnt, Hrg.out, Hrow1.out, Tw6.out⟩
  case round =>
    obtain ⟨left, cnt, hrg, hrow, ht⟩ := hrel
    rcases hrg.next intKeyed 0 with ⟨h0, hl, hnx⟩ | ⟨key, v, kl, wn, cnt', hkey, hlk, hv, hnx, hrg', hlt, tn, hen⟩
    · have hrow2 := hrow.congr (g' := fun j => (mf.f (j : Int)).getD Tm.zero) (fun j _ => by simp only [hl]; rfl)
      have Hfin := Lib.hid (show RowBe ((List.range n).map (fun (i : Nat) => (mf.f (i : Int)).getD Tm.zero), true, 0) w (.returned (.tuple #[.slice (some ⟨w4.heap.size, 0, none⟩) n n, .bool true, .int .i64 0])) wr from by
        refine ⟨_, rfl, ⟨some ⟨w4.heap.size, 0, none⟩, n, by simp, ?_, hrow2.rows⟩, ht⟩
        simp only [List.length_map, List.length_range]; unfold maxLen; omega)
      clear hrg hrow hrow2 ht hl
      go_wp2
      go_ret3
      rw [Hdef.out]
      exact Hfin.out
    · obtain ⟨x, rfl, rfl, hx1, hx2⟩ := intKey_inv hkey
      obtain ⟨u, hu⟩ : ∃ u, mf.f x = some u := by
        cases hf : mf.f x with
        | none => rw [(HF2.out x).1 hf] at hv; cases hv
        | some u => exact ⟨u, rfl⟩
      obtain ⟨v', hv', hin⟩ := (HF2.out x).2 u hu
      rw [hv] at hv'
      cases hv'
      obtain ⟨k, rfl, hkn⟩ := Hdomk.out x u hu
      obtain ⟨hpr, hps⟩ := Hpart2.out _ u hu
      obtain ⟨au, cu, rfl, hlu, -⟩ := hin.form
      obtain ⟨hb1, hb2⟩ : w4.heap.size ≠ b ∧ w4.heap.size ≠ w4.heap.size + 1 := by obtain ⟨c, hc, -⟩ := hrow; exact hrg.blocks _ _ _ _ hc
      have hrl := hrg.left_eq
      have hb := hrg.lt
      have tn2 : Turned w wn (fun _ => False) := ht.trans tn (fun i hi e => by omega)
      have hrow2 := hrow.turned tn (by omega) (fun i hi h e => by omega)
      obtain ⟨U, hU, tU, hCU⟩ := box1 wn (.int .i64 u.kind) (.int .i64 u.num) (.slice au u.kids.length cu) 24
      obtain ⟨u0, u1, u2, lU⟩ := hCU U (Turned.refl _ _)
      have Hcall := Lib.hid (fun V (hV : Turned U V (fun _ => False)) => copied_any u _ V (hin.turned ((tn2.trans tU (fun _ _ hf => hf)).trans hV (fun _ _ hf => hf))) hpr hps)
      have Hrow2 := Lib.hid (hrow2.turned tU (fun hf => hf) (fun _ _ _ hf => hf))
      have Hrg2 := Lib.hid (hrg'.turned tU (fun hf => hf) (fun hf => hf))
      have hsU : w4.heap.size + 2 ≤ U.heap.size := by have := Hrg2.out.lt; omega
      have Ht := Lib.hid (tn2.trans tU (fun _ _ hf => hf))
      have HU := Lib.hid hU
      have Hu := Lib.hid hu
      have hki : (k : Int) < (n : Int) := by omega
      have Hlt := Lib.hid hlt
      have Hrl := Lib.hid hrl
      clear hrg hrow hrow2 hrg' ht tn2 tU hCU hU hu hlk hv hin hlu hkey hx1 hx2 tn hpr hps hlt hrl hb
      go_upto_region 13 with fail
      rw [← HU.out]
      go_wp2_with fail
      refine (Hcall.out _ (Turned.refl _ _)).mono ?_
      rintro e w7 ⟨v1, rfl, hv1, t2⟩
      obtain ⟨q1, cq1, rfl⟩ := hv1.form
      have hor2 := Hrow2.out.turned t2 (fun hf => hf) (fun _ _ _ hf => hf)
      obtain ⟨y0, y1, y2, m0, m1, m2, m3, m4, m5, m6⟩ := hor2.cells k hkn
      have HV1 := Lib.hid hv1
      have T2 := Lib.hid t2
      clear hv1 hor2
      have hs := set3_turned w7 w4.heap.size (k * 3) (.int .i64 u.kind) (.int .i64 u.num) (.slice q1 u.kids.length cq1)
      have hput := (Hrow2.out.turned T2.out (fun hf => hf) (fun _ _ _ hf => hf)).put (by omega) hkn (TmS.mono (fun j _ hj => by omega) _ HV1.out)
      have NP := Lib.hid (hput.congr (g' := fun j => if (left (.int .i64 (j : Int)) && !(Lit.int .i64 (j : Int)).sameKey (.int .i64 (k : Int))) then Tm.zero else (mf.f (j : Int)).getD Tm.zero) (fun j hj => by
        by_cases hjk : j = k
        · subst hjk
          simp only [if_pos, Lit.sameKey]
          simp [Hu.out]
        · have : ¬ (j : Int) = (k : Int) := by omega
          simp [hjk, Lit.sameKey, this]))
      have NR := Lib.hid ((Hrg2.out.turned T2.out (fun hf => hf) (fun hf => hf)).turned hs (fun e => hb1 e.symm) (fun e => hb2 e.symm))
      have NT := Lib.hid ((Ht.out.trans T2.out (fun _ _ hf => hf)).trans hs (fun i hi e => by omega))
      clear hs hput t2 u0 u1 u2 lU
      unfold set3 at NP NR NT
      go_wp2
      go_roundw
      case rel => exact ⟨_, cnt', NR.out, NP.out, NT.out⟩
      case measure => have h1 := NR.out.left_eq; have h2 := Hrl.out; have h3 := Hlt.out; omega
end Go.Proofs.Ytljnmjehokijgaa

/- Unify's nodes: what its functions do, in plain terms (with fuel: none, where it is used up). -/
namespace Go.Proofs.Ytljnmjehokijgaa
open Go.RowKit

/-- A node of the unifier: its kind, its number, its elements, what it became, its extent. -/
structure Nd where
  k : Int
  n : Int
  l : List Int
  b : Int
  e1 : Int
  e2 : Int

/-- The unifier: its nodes, the variables' nodes, how many were put there, how many pairs were looked at. -/
structure Un where
  nd : List Nd
  var : Int → Option Int
  c : Nat
  p : Int

def Un.none_ : Un := ⟨[], fun _ => none, 0, 0⟩
/-- One node more. -/
def Un.push (s : Un) (k n : Int) (l : List Int) : Un :=
  if k = 1 then ⟨s.nd ++ [⟨k, n, l, -1, 0, 0⟩], fun x => if x = n then some s.nd.length else s.var x, s.c + 1, s.p⟩ else ⟨s.nd ++ [⟨k, n, l, -1, 0, 0⟩], s.var, s.c, s.p⟩

/-- The node of a variable that is there. -/
def Un.has (s : Un) (k n : Int) : Option Int := if k = 1 then s.var n else none

mutual
def Tm.plant : Tm → Un → Un × Int
  | .node k n l, s => match s.has k n with
    | some i => (s, i)
    | none => ((Tm.plants l s).1.push k n (Tm.plants l s).2, (Tm.plants l s).1.nd.length)
def Tm.plants : List Tm → Un → Un × List Int
  | [], s => (s, [])
  | t :: l, s => ((Tm.plants l (t.plant s).1).1, (t.plant s).2 :: (Tm.plants l (t.plant s).1).2)
end

theorem Tm.plants_snoc : ∀ (l : List Tm) (t : Tm) (s : Un), Tm.plants (l ++ [t]) s = ((t.plant (Tm.plants l s).1).1, (Tm.plants l s).2 ++ [(t.plant (Tm.plants l s).1).2])
  | [], t, s => rfl
  | x :: l, t, s => by
    simp only [List.cons_append, Tm.plants]
    rw [Tm.plants_snoc l t]

theorem Tm.plants_length : ∀ (l : List Tm) (s : Un), (Tm.plants l s).2.length = l.length
  | [], s => rfl
  | t :: l, s => by simp only [Tm.plants, List.length_cons, Tm.plants_length l]

mutual
theorem Tm.plant_bound : ∀ (t : Tm) (s : Un), (t.plant s).1.nd.length ≤ s.nd.length + t.size ∧ (t.plant s).1.c ≤ s.c + t.size ∧ (t.plant s).1.p = s.p
  | .node k n l, s => by
    have h := Tm.plants_bound l s
    simp only [Tm.plant, Tm.size]
    cases s.has k n with
    | some i => exact ⟨by simp only; omega, by simp only; omega, rfl⟩
    | none =>
      simp only [Un.push]
      split
      all_goals
        simp only [List.length_append, List.length_cons, List.length_nil]
        refine ⟨by omega, by omega, h.2.2⟩
theorem Tm.plants_bound : ∀ (l : List Tm) (s : Un), (Tm.plants l s).1.nd.length ≤ s.nd.length + Tm.sizes l ∧ (Tm.plants l s).1.c ≤ s.c + Tm.sizes l ∧ (Tm.plants l s).1.p = s.p
  | [], s => by simp [Tm.plants, Tm.sizes]
  | t :: l, s => by
    have h1 := Tm.plant_bound t s
    have h2 := Tm.plants_bound l (t.plant s).1
    simp only [Tm.plants, Tm.sizes]
    refine ⟨by omega, by omega, ?_⟩
    rw [h2.2.2, h1.2.2]
end

/-- What a node became in the end. -/
def Un.fin (nd : List Nd) : Nat → Int → Option Int
  | 0, _ => none
  | f + 1, a => if a < 0 then none else match nd[a.toNat]? with
    | none => none
    | some x => if 0 ≤ x.b then Un.fin nd f x.b else some a

def Un.looks (g : List Bool → Int → Option (List Bool × Bool)) : List Int → List Bool → Option (List Bool × Bool)
  | [], m => some (m, false)
  | i :: l, m => match g m i with
    | none => none
    | some (m2, true) => some (m2, true)
    | some (m2, false) => Un.looks g l m2

/-- Does v occur within a node? -/
def Un.look (nd : List Nd) (v : Int) : Nat → List Bool → Int → Option (List Bool × Bool)
  | 0, _, _ => none
  | f + 1, m, a => if a < 0 then none else match m[a.toNat]?, nd[a.toNat]? with
    | some true, some _ => some (m, false)
    | some false, some x =>
      if a = v then some (m.set a.toNat true, true) else
      match (if 0 ≤ x.b then Un.look nd v f (m.set a.toNat true) x.b else some (m.set a.toNat true, false)) with
      | none => none
      | some (m2, true) => some (m2, true)
      | some (m2, false) => Un.looks (Un.look nd v f) x.l m2
    | _, _ => none

def Un.setB (nd : List Nd) (a b : Int) : List Nd := match nd[a.toNat]? with
  | none => nd
  | some x => nd.set a.toNat { x with b := b }

/-- A variable becomes a node, if it does not occur in it. -/
def Un.bind (F : Nat) (s : Un) (a b : Int) : Option (Un × Bool) := match Un.look s.nd a F (List.replicate s.nd.length false) b with
  | none => none
  | some (_, true) => some (s, false)
  | some (_, false) => some (⟨Un.setB s.nd a b, s.var, s.c, s.p⟩, true)

def Un.eqs (g : Un → Int → Int → Option (Un × Bool)) : List Int → List Int → Un → Option (Un × Bool)
  | a :: l, b :: m, s => match g s a b with
    | none => none
    | some (s2, false) => some (s2, false)
    | some (s2, true) => Un.eqs g l m s2
  | _, _, s => some (s, true)

def Un.one (s : Un) : Un := ⟨s.nd, s.var, s.c, s.p + 1⟩

/-- Can variables become what makes two nodes equal? -/
def Un.equate (F : Nat) : Nat → Un → Int → Int → Option (Un × Bool)
  | 0, _, _, _ => none
  | f + 1, s, a, b => if 20000 < s.p + 1 then some (s.one, false) else
    match Un.fin s.nd F a, Un.fin s.nd F b with
    | some a2, some b2 => match s.nd[a2.toNat]?, s.nd[b2.toNat]? with
      | some x, some y =>
        if a2 = b2 ∧ x.k = 1 then some (s.one, true) else
        if y.k = 1 ∧ (x.k ≠ 1 ∨ x.n < y.n) then Un.bind F s.one b2 a2 else
        if x.k = 1 then Un.bind F s.one a2 b2 else
        if x.n ≠ y.n ∨ x.l.length ≠ y.l.length then some (s.one, false) else Un.eqs (Un.equate F f) x.l y.l s.one
      | _, _ => none
    | _, _ => none

def Un.exts (g : Int → Option (Int × Int)) : List Int → Int × Int → Option (Int × Int)
  | [], a => some a
  | i :: l, a => match g i with
    | none => none
    | some e => Un.exts g l (a.1 + e.1, max a.2 (e.2 + 1))

/-- How many nodes stand under a node, and how deep they go. -/
def Un.ext (nd : List Nd) (F : Nat) : Nat → Int → Option (Int × Int)
  | 0, _ => none
  | f + 1, a => match Un.fin nd F a with
    | none => none
    | some a2 => match nd[a2.toNat]? with
      | none => none
      | some x => match Un.exts (Un.ext nd F f) x.l (1, 1) with
        | none => none
        | some e => some (min e.1 2001, e.2)

def Un.trees (g : Int → Option Tm) : List Int → Option (List Tm)
  | [] => some []
  | i :: l => match g i with
    | none => none
    | some t => match Un.trees g l with
      | none => none
      | some m => some (t :: m)

/-- The tree of a node. -/
def Un.tree (nd : List Nd) (F : Nat) : Nat → Int → Option Tm
  | 0, _ => none
  | f + 1, a => match Un.fin nd F a with
    | none => none
    | some a2 => match nd[a2.toNat]? with
      | none => none
      | some x => match Un.trees (Un.tree nd F f) x.l with
        | none => none
        | some l => some (.node x.k x.n l)

def extOk (e : Int × Int) : Bool := decide (e.1 ≤ 2000) && decide (e.2 ≤ 200)

/-- Are all variables' trees small enough? -/
def Un.allOk (s : Un) (F : Nat) : List Int → Option Bool
  | [] => some true
  | n :: l => match s.var n with
    | none => Un.allOk s F l
    | some i => match Un.ext s.nd F F i, Un.allOk s F l with
      | some e, some b => some (extOk e && b)
      | _, _ => none

/-- What the variables became. -/
def Un.became (s : Un) (F : Nat) : List Int → Option (List Tm)
  | [] => some []
  | n :: l => match (match s.var n with | none => some (Tm.node 1 n []) | some i => Un.tree s.nd F F i), Un.became s F l with
    | some t, some m => some (t :: m)
    | _, _ => none

def upTo (n : Int) : List Int := (List.range n.toNat).map fun (i : Nat) => (i : Int)

def Un.solve (s : Un) (F : Nat) (top : Int) : Option (List Tm × Bool × Int) := match Un.allOk s F (upTo (top + 1)) with
  | none => none
  | some false => some ([], false, 2)
  | some true => match Un.became s F (upTo (top + 1)) with
    | none => none
    | some l => some (l, true, 0)

/-- What Unify answers. -/
def Tm.unifyT (F : Nat) (a b : Tm) : Option (List Tm × Bool × Int) :=
  if a.isTree = false ∨ b.isTree = false then some ([], false, 4) else if 4000 < topOf [a, b] then some ([], false, 1) else
    match Un.equate F F (b.plant (a.plant Un.none_).1).1 (a.plant Un.none_).2 (b.plant (a.plant Un.none_).1).2 with
    | none => none
    | some (s, eq) => if 20000 < s.p then some ([], false, 2) else if eq = false then some ([], false, 0) else Un.solve s F (topOf [a, b])

theorem unify_one : (Tm.node 2 2 [.node 1 0 [], .node 2 1 [.node 1 0 []]]).unifyT 20 (.node 2 2 [.node 2 1 [.node 1 1 []], .node 1 2 []]) = some ([.node 2 1 [.node 1 1 []], .node 1 1 [], .node 2 1 [.node 2 1 [.node 1 1 []]]], true, 0) := by rfl
theorem unify_two : (Tm.node 1 0 []).unifyT 20 (.node 2 1 [.node 1 0 []]) = some ([], false, 0) := by rfl
end Go.Proofs.Ytljnmjehokijgaa

/- Unify's nodes in memory. -/
namespace Go.Proofs.Ytljnmjehokijgaa
open Go.RowKit

/-- All cells stay but for a unifier's own. -/
def KeepP (w w' : World) : Prop := w.heap.size ≤ w'.heap.size ∧ ∀ (b : Nat) (c : Array Value) (t : TypeId) (z : Nat × Nat), t ≠ 113 → t ≠ 93 → w.heap[b]? = some (.cells c t z) → w'.heap[b]? = some (.cells c t z)
theorem KeepP.refl (w : World) : KeepP w w := ⟨Nat.le_refl _, fun _ _ _ _ _ _ h => h⟩
theorem KeepP.trans {a b c : World} (h : KeepP a b) (k : KeepP b c) : KeepP a c := ⟨Nat.le_trans h.1 k.1, fun i x t z h1 h2 hx => k.2 i x t z h1 h2 (h.2 i x t z h1 h2 hx)⟩
theorem KeepP.of {a b : World} (h : Turned a b (fun _ => False)) : KeepP a b := ⟨h.size, fun _ _ _ _ _ _ hx => turn_keep h hx⟩
theorem KeepP.ints {a b : World} (h : KeepP a b) : KeepsB 3 a b := ⟨h.1, fun k c hk => h.2 k c _ _ (by decide) (by decide) hk⟩
theorem KeepP.ownI {a b : World} (h : KeepP a b) {B : Nat} {v : Value} {l : List Int} (ho : OwnI a B v l) : OwnI b B v l := by
  refine ⟨ho.1, ?_⟩
  rcases ho.2 with hz | ⟨g, cap, cur, rfl, hb, hg, rest⟩
  · exact .inl hz
  · exact .inr ⟨g, cap, cur, rfl, hb, h.2 _ _ _ _ (by decide) (by decide) hg, rest⟩

/-- The cells of a node. -/
def ndc (p : Nd × Value) : List Value := [.int .i64 p.1.k, .int .i64 p.1.n, p.2, .int .i64 p.1.b, .int .i64 p.1.e1, .int .i64 p.1.e2]

theorem RowB.turned {w w' : World} {v : Value} {l : List Int} {D : Nat → Prop} (h : RowB w v l) (t : Turned w w' D) (hn : ∀ g, v.ownBlock = some g → ¬ D g) : RowB w' v l := by
  obtain ⟨a, cap, hv, h1, h2, h3, h4⟩ := h
  refine ⟨a, cap, hv, h1, h2, h3, fun x hx => ?_⟩
  obtain ⟨g, c, rfl, hg, hc⟩ := h4 x hx
  exact ⟨g, c, rfl, (t.block g (lt_of_block hg) (hn g (by rw [hv, hx]; rfl))).trans hg, hc⟩

theorem RowB.tag {w : World} {v : Value} {l : List Int} (h : RowB w v l) {g : Nat} (hg : v.ownBlock = some g) : ∃ c, w.heap[g]? = some (.cells c 3 (0, 0)) := by
  obtain ⟨a, cap, rfl, h1, h2, h3, h4⟩ := h
  cases a with
  | none => simp [Value.ownBlock] at hg
  | some x =>
    obtain ⟨g', c, rfl, hg', hc⟩ := h4 x rfl
    simp only [Value.ownBlock, Option.some.injEq] at hg
    rw [← hg]
    exact ⟨c, hg'⟩

theorem RowB.lt {w : World} {v : Value} {l : List Int} (h : RowB w v l) {g : Nat} (hg : v.ownBlock = some g) : g < w.heap.size := by
  obtain ⟨a, cap, rfl, h1, h2, h3, h4⟩ := h
  cases a with
  | none => simp [Value.ownBlock] at hg
  | some x =>
    obtain ⟨g', c, rfl, hg', hc⟩ := h4 x rfl
    simp only [Value.ownBlock, Option.some.injEq] at hg
    rw [← hg]
    exact lt_of_block hg'

/-- A row of nodes of the call's own; the nodes' own rows lie in blocks of S. -/
def OwnN (w : World) (B : Nat) (S : Nat → Prop) (v : Value) (nd : List Nd) : Prop :=
  ∃ vs : List Value, vs.length = nd.length ∧ (∀ (i : Nat) (u : Value) (x : Nd), vs[i]? = some u → nd[i]? = some x → RowB w u x.l ∧ ∀ g, u.ownBlock = some g → S g) ∧ w.ownsRow B 113 6 v nd.length ((nd.zip vs).flatMap ndc)

theorem OwnN.form {w : World} {B : Nat} {S : Nat → Prop} {v : Value} {nd : List Nd} (h : OwnN w B S v nd) : ∃ a cap, v = .slice a nd.length cap := by
  obtain ⟨vs, -, -, h⟩ := h
  rcases h.2 with ⟨hv, h0⟩ | ⟨g, cap, cur, hv, _⟩
  · exact ⟨none, 0, by rw [hv, h0]⟩
  · exact ⟨_, cap, hv⟩

theorem OwnN.turned {w w' : World} {B : Nat} {S S' : Nat → Prop} {v : Value} {nd : List Nd} {D : Nat → Prop} (h : OwnN w B S v nd) (t : Turned w w' D) (hn : ∀ g, v.ownBlock = some g → ¬ D g) (hd : ∀ g, S g → (∃ c, w.heap[g]? = some (.cells c 3 (0, 0))) → ¬ D g) (hs : ∀ g, g < w.heap.size → S g → S' g) : OwnN w' B S' v nd := by
  obtain ⟨vs, h1, h2, h3⟩ := h
  refine ⟨vs, h1, fun i u x hu hx => ?_, ownsRow_turned h3 t hn⟩
  obtain ⟨h4, h5⟩ := h2 i u x hu hx
  exact ⟨h4.turned t (fun g hg => hd g (h5 g hg) (h4.tag hg)), fun g hg => hs g (h4.lt hg) (h5 g hg)⟩

theorem OwnN.tag {w : World} {B : Nat} {S : Nat → Prop} {v : Value} {nd : List Nd} (h : OwnN w B S v nd) {g : Nat} (hg : v.ownBlock = some g) : B ≤ g ∧ ∃ c, w.heap[g]? = some (.cells c 113 (0, 0)) := by
  obtain ⟨vs, -, -, h⟩ := h
  exact ownsRow_tag h hg

theorem OwnN.nil (w : World) (B : Nat) (S : Nat → Prop) : OwnN w B S (.slice none 0 0) [] := ⟨[], rfl, fun i u x hu => by simp at hu, by trivial, .inl ⟨rfl, rfl⟩⟩

theorem Try.infoPl : (Try.prog.info? 113).map (fun i => (i.zero, i.size, i.bytes)) = some (some (.agg #[.int .i64 0, .int .i64 0, .slice none 0 0, .int .i64 0, .int .i64 0, .int .i64 0]), 6, 64) := by kernel_rfl

/-- The unifier in memory, its row of nodes its own. -/
structure UnP (w0 : World) (bu bm : Nat) (S : Nat → Prop) (s : Un) (w : World) : Prop where
  turned : Turned w0 w (fun _ => False)
  hu : ∃ v, w.heap[bu]? = some (.cells #[v, .map (some bm), .int .i64 s.p] 93 (0, 0)) ∧ OwnN w w0.heap.size S v s.nd
  hm : ∃ F, MapV w 3 bm s.c F ∧ ∀ x : Int, F (.int .i64 x) = (s.var x).map (Value.int .i64)
  lo : w0.heap.size ≤ bu
  lo2 : w0.heap.size ≤ bm

theorem UnP.ne {w0 : World} {bu bm : Nat} {S : Nat → Prop} {s : Un} {w : World} (h : UnP w0 bu bm S s w) : bu ≠ bm := fun e => by
  obtain ⟨v, h1, -⟩ := h.hu
  obtain ⟨F, h3, -⟩ := h.hm
  obtain ⟨es, c, hb⟩ := h3.block
  rw [e, hb] at h1
  cases h1

/-- It stays where none of its blocks turn. -/
theorem UnP.turn {w0 : World} {bu bm : Nat} {S S' D : Nat → Prop} {s : Un} {w w' : World} (h : UnP w0 bu bm S s w) (t : Turned w w' D) (hD : ∀ g, g < w.heap.size → D g → w0.heap.size ≤ g ∧ ∃ c T, T ≠ 113 ∧ T ≠ 93 ∧ w.heap[g]? = some (.cells c T (0, 0))) (hd : ∀ g, S g → (∃ c, w.heap[g]? = some (.cells c 3 (0, 0))) → ¬ D g) (hs : ∀ g, g < w.heap.size → S g → S' g) : UnP w0 bu bm S' s w' := by
  obtain ⟨v, h1, h2⟩ := h.hu
  obtain ⟨F, h3, h4⟩ := h.hm
  refine ⟨h.turned.trans t (fun i hi e => ?_), ⟨v, (t.block bu (lt_of_block h1) (fun e => ?_)).trans h1, h2.turned t (fun g hg e => ?_) hd hs⟩, ⟨F, h3.turned t (fun e => ?_), h4⟩, h.lo, h.lo2⟩
  · have := (hD i (Nat.lt_of_lt_of_le hi h.turned.size) e).1
    omega
  · obtain ⟨-, c, T, -, hT, hc⟩ := hD bu (lt_of_block h1) e
    rw [h1] at hc
    simp only [Option.some.injEq, Obj.cells.injEq] at hc
    exact hT hc.2.1.symm
  · obtain ⟨-, c', hc'⟩ := h2.tag hg
    obtain ⟨-, c, T, hT, -, hc⟩ := hD g (lt_of_block hc') e
    rw [hc'] at hc
    simp only [Option.some.injEq, Obj.cells.injEq] at hc
    exact hT hc.2.1.symm
  · obtain ⟨es, cc, hb⟩ := h3.block
    obtain ⟨-, c, T, -, -, hc⟩ := hD bm (lt_of_block hb) e
    rw [hb] at hc
    cases hc

theorem UnP.step {w0 : World} {bu bm : Nat} {S : Nat → Prop} {s : Un} {w w' : World} (h : UnP w0 bu bm S s w) (t : Turned w w' (fun _ => False)) : UnP w0 bu bm S s w' :=
  h.turn t (fun _ _ hf => hf.elim) (fun _ _ _ hf => hf) (fun _ _ hs => hs)
theorem UnP.mono {w0 : World} {bu bm : Nat} {S S' : Nat → Prop} {s : Un} {w : World} (h : UnP w0 bu bm S s w) (hs : ∀ g, g < w.heap.size → S g → S' g) : UnP w0 bu bm S' s w :=
  h.turn (Turned.refl w (fun _ => False)) (fun _ _ hf => hf.elim) (fun _ _ _ hf => hf) hs

theorem zip_snoc {α β : Type} : ∀ (l : List α) (m : List β) (a : α) (b : β), l.length = m.length → (l ++ [a]).zip (m ++ [b]) = l.zip m ++ [(a, b)]
  | [], [], _, _, _ => rfl
  | x :: l, y :: m, a, b, h => by simp only [List.cons_append, List.zip_cons_cons, zip_snoc l m a b (by simpa using h)]
  | [], _ :: _, _, _, h => by simp at h
  | _ :: _, [], _, _, h => by simp at h

/-- One node more is put behind the row. -/
theorem run_append_node (w : World) (ty : TypeId) (w0 : World) (bu bm : Nat) (S : Nat → Prop) (s : Un) (hP : UnP w0 bu bm S s w) (v : Value) (hbu : w.heap[bu]? = some (.cells #[v, .map (some bm), .int .i64 s.p] 93 (0, 0))) (g : Nat) (k n : Int) (y : Value) (l : List Int) (hy : RowB w y l) (hyS : ∀ g, y.ownBlock = some g → S g)
    (hg : w.heap[g]? = some (.cells #[.int .i64 k, .int .i64 n, y, .int .i64 (-1), .int .i64 0, .int .i64 0] 113 (0, 0))) (hlen : s.nd.length ≤ 1000000) :
    ∃ q' c' w', (Builtin.append_ #[91, 91] ty #[v, .slice (some ⟨g, 0, none⟩) 1 1]).run Try.prog w = .ok (.slice q' (s.nd.length + 1) c') w' ∧ w'.heap[bu]? = some (.cells #[v, .map (some bm), .int .i64 s.p] 93 (0, 0)) ∧
      UnP w0 bu bm S ⟨s.nd ++ [⟨k, n, l, -1, 0, 0⟩], s.var, s.c, s.p⟩ (w'.setCell ⟨bu, 0, none⟩ (.slice q' (s.nd.length + 1) c')) ∧ KeepP w (w'.setCell ⟨bu, 0, none⟩ (.slice q' (s.nd.length + 1) c')) ∧ w.heap.size ≤ w'.heap.size := by
  obtain ⟨i0, hi0, hz0, hz1, hz2⟩ := info_parts Try.infoPl
  obtain ⟨v1, hb1, hO⟩ := hP.hu
  rw [hbu] at hb1
  simp only [Option.some.injEq, Obj.cells.injEq, Array.mk.injEq, List.cons.injEq, and_true] at hb1
  subst hb1
  obtain ⟨F, hF1, hF2⟩ := hP.hm
  obtain ⟨q, cq, hq⟩ : ∃ a cap, y = .slice a l.length cap := by obtain ⟨a, cap, h1, -⟩ := hy; exact ⟨a, cap, h1⟩
  have hO2 := hO
  obtain ⟨vs, hl, hc, hr⟩ := hO2
  have hBs : w0.heap.size ≤ w.heap.size := hP.turned.size
  obtain ⟨v', w', hrun, ho', hgr, hnil⟩ := run_append_own (P := Try.prog) w w0.heap.size 91 ty 113 i0 _ 6 64 Try.underlying91 hi0 hz0 hz1 hz2 rfl (by omega) v s.nd.length _ hr ⟨g, 0, none⟩ 1 1 _ rfl (World.news_of_block hg) (by rw [hq]; simp [Value.oneCell'])
    (by unfold maxLen; omega) (by omega) hBs
  obtain ⟨q', c', rfl⟩ : ∃ q' c', v' = .slice q' (s.nd.length + 1) c' := by
    rcases ho'.2 with ⟨hv, h0⟩ | ⟨g, cap, cur, hv, _⟩
    · omega
    · exact ⟨_, cap, hv⟩
  have hT : Turned w w' (fun k => v.ownBlock = some k) := Turned.grown (Turned.refl _ _) hgr (fun k _ e => e)
  have hkeep : ∀ (k : Nat) (c : Array Value) (t : TypeId) (z : Nat × Nat), t ≠ 113 → w.heap[k]? = some (.cells c t z) → w'.heap[k]? = some (.cells c t z) := fun k c t z ht hk =>
    (hT.block k (lt_of_block hk) (fun e => by
      obtain ⟨-, cc, hcc⟩ := hO.tag e
      rw [hk] at hcc
      simp only [Option.some.injEq, Obj.cells.injEq] at hcc
      exact ht hcc.2.1)).trans hk
  have ko := hkeep bu _ _ _ (by decide) hbu
  have ts : Turned w' (w'.setCell ⟨bu, 0, none⟩ (.slice q' (s.nd.length + 1) c')) (fun k => k = bu) := Turned.setCell (D := fun k => k = bu) (Turned.refl _ _) (p := ⟨bu, 0, none⟩) (fun _ => rfl) _
  have hkeep2 : KeepP w (w'.setCell ⟨bu, 0, none⟩ (.slice q' (s.nd.length + 1) c')) := ⟨Nat.le_trans hT.size ts.size, fun k c t z h1 h2 hk =>
    (ts.block k (lt_of_block (hkeep k c t z h1 hk)) (fun e => by
      rw [e, hbu] at hk
      simp only [Option.some.injEq, Obj.cells.injEq] at hk
      exact h2 hk.2.1.symm)).trans (hkeep k c t z h1 hk)⟩
  have hlo := hP.lo
  have hlo2 := hP.lo2
  have hLl : (s.nd ++ [(⟨k, n, l, -1, 0, 0⟩ : Nd)]).length = s.nd.length + 1 := by simp
  have hown : w'.ownsRow w0.heap.size 113 6 (.slice q' (s.nd.length + 1) c') (s.nd ++ [(⟨k, n, l, -1, 0, 0⟩ : Nd)]).length (((s.nd ++ [(⟨k, n, l, -1, 0, 0⟩ : Nd)]).zip (vs ++ [y])).flatMap ndc) := by
    rw [hLl, zip_snoc _ _ _ _ hl.symm, List.flatMap_append]
    simpa [ndc] using ho'
  have hbm : ∀ j, v.ownBlock = some j → j ≠ bm := fun j hj e => by
    obtain ⟨-, cc, hcc⟩ := hO.tag hj
    obtain ⟨es, c, hb⟩ := hF1.block
    rw [e, hb] at hcc
    cases hcc
  refine ⟨q', c', w', hrun, ko, ⟨?_, ⟨(.slice q' (s.nd.length + 1) c'), ?_, vs ++ [y], by simp [hl], fun i u x' hu hx' => ?_, ownsRow_turned hown ts (fun k hk e => ?_)⟩, ⟨F, ?_, hF2⟩, hlo, hlo2⟩, hkeep2, hT.size⟩
  · exact (hP.turned.trans hT (fun i hi e => by have := (hO.tag e).1; omega)).trans ts (fun i hi e => by omega)
  · rw [setCell_block ko (i := 0)]
    rfl
  · rcases Nat.lt_or_ge i vs.length with hi | hi
    · rw [List.getElem?_append_left hi] at hu
      rw [List.getElem?_append_left (by omega)] at hx'
      exact ⟨(hc i u x' hu hx').1.keeps hkeep2.ints, (hc i u x' hu hx').2⟩
    · rw [List.getElem?_append_right hi] at hu
      rw [List.getElem?_append_right (by omega), ← hl] at hx'
      rcases Nat.eq_zero_or_pos (i - vs.length) with h0 | h0
      · rw [h0] at hu hx'
        simp only [List.getElem?_cons_zero, Option.some.injEq] at hu hx'
        subst hu; subst hx'
        exact ⟨hy.keeps hkeep2.ints, hyS⟩
      · rw [List.getElem?_eq_none (by simp; omega)] at hu
        cases hu
  · obtain ⟨-, c, hc2⟩ := ownsRow_tag hown hk
    rw [e, ko] at hc2
    simp at hc2
  · exact (hF1.turned hT (fun e => hbm _ e rfl)).turned ts (fun e => hP.ne e.symm)

/-- The same at a step of a region that draws. -/
theorem step_append_node {ops : Array Oper} {o : Oper} {a : Act} {K : Act → World → Prop} {Q : Exit → Act → World → Prop} {E : Prop} (w : World) (hgd : o.guard = none) (sl x : Operand)
    (ho : o.op = .call { callee := .builtin .append, args := #[sl, x], argTypes := #[91, 91] }) (w0 : World) (bu bm : Nat) (S : Nat → Prop) (s : Un) (hP : UnP w0 bu bm S s w) (v : Value) (hbu : w.heap[bu]? = some (.cells #[v, .map (some bm), .int .i64 s.p] 93 (0, 0)))
    (hs : a.eval sl = v) (g : Nat) (k n : Int) (y : Value) (l : List Int) (hy : RowB w y l) (hyS : ∀ g, y.ownBlock = some g → S g) (hx : a.eval x = .slice (some ⟨g, 0, none⟩) 1 1)
    (hg : w.heap[g]? = some (.cells #[.int .i64 k, .int .i64 n, y, .int .i64 (-1), .int .i64 0, .int .i64 0] 113 (0, 0))) (hlen : s.nd.length ≤ 1000000)
    (h : ∀ (q' : Option Addr) (c' : Nat) (w' : World), w'.heap[bu]? = some (.cells #[v, .map (some bm), .int .i64 s.p] 93 (0, 0)) → UnP w0 bu bm S ⟨s.nd ++ [⟨k, n, l, -1, 0, 0⟩], s.var, s.c, s.p⟩ (w'.setCell ⟨bu, 0, none⟩ (.slice q' (s.nd.length + 1) c')) →
      KeepP w (w'.setCell ⟨bu, 0, none⟩ (.slice q' (s.nd.length + 1) c')) → w.heap.size ≤ w'.heap.size → K (a.put o.dst (.slice q' (s.nd.length + 1) c')) w') :
    if Region.wanted o (yielded ops a.tmps) = true then Oper.wp Try.prog o a w K Q else E := by
  have hw : Region.wanted o (yielded ops a.tmps) = true := by simp [Region.wanted, hgd]
  rw [if_pos hw]
  obtain ⟨q', c', w', hr, h1, h2, h3, h4⟩ := run_append_node w o.type w0 bu bm S s hP v hbu g k n y l hy hyS hg hlen
  unfold Oper.wp execOp
  simp only [ho, resolve, invoke, builtin, Sem.run_bind, Sem.run_pure, Result.andThen_ok, List.map_toArray, List.map_cons, List.map_nil, hs, hx, hr]
  exact h q' c' w' h1 h2 h3 h4

/-- One variable more is put into the map. -/
theorem UnP.put {w0 : World} {bu bm : Nat} {S : Nat → Prop} {s : Un} {w : World} (h : UnP w0 bu bm S s w) {n : Int} (hn : -9223372036854775808 ≤ n ∧ n ≤ 9223372036854775807) (hs : s.c ≤ 1000000) (i : Int) :
    ∃ w', (Instr.mapUpdate 88 (.map (some bm)) (.int .i64 n) (.int .i64 i)).run Try.prog w = .ok () w' ∧ UnP w0 bu bm S ⟨s.nd, fun x => if x = n then some i else s.var x, s.c + 1, s.p⟩ w' ∧ KeepsC w w' := by
  obtain ⟨v, h1, h2⟩ := h.hu
  obtain ⟨F, h3, h4⟩ := h.hm
  obtain ⟨w', hput, hM2, t2⟩ := h3.put (v := .int .i64 i) (t := 88) (e := 3) intKeyed (by kernel_rfl) (by unfold maxLen; omega) (intKey hn)
  have hl := h.lo2
  have hk : KeepsC w w' := ⟨t2.size, fun k c t z hk => by
    refine (t2.block k (lt_of_block hk) (fun e => ?_)).trans hk
    obtain ⟨es, cc, hb⟩ := h3.block
    rw [e, hb] at hk
    cases hk⟩
  refine ⟨w', hput, ⟨h.turned.trans t2 (fun i hi e => by omega), ⟨v, hk.2 _ _ _ _ h1, h2.turned t2 (fun g hg e => ?_) (fun g hg hc e => ?_) (fun _ _ hs => hs)⟩, ⟨_, hM2, fun x => ?_⟩, h.lo, h.lo2⟩, hk⟩
  · obtain ⟨-, c, hc⟩ := h2.tag hg
    obtain ⟨es, cc, hb⟩ := h3.block
    rw [e, hb] at hc
    cases hc
  · obtain ⟨c, hc⟩ := hc
    obtain ⟨es, cc, hb⟩ := h3.block
    rw [e, hb] at hc
    cases hc
  · simp only [putF, Lit.sameKey, true_and, decide_eq_true_eq]
    by_cases hx : x = n
    · rw [if_pos hx, if_pos hx]; rfl
    · rw [if_neg hx, if_neg hx]; exact h4 x

/-- What is looked up. -/
theorem UnP.look {w0 : World} {bu bm : Nat} {S : Nat → Prop} {s : Un} {w : World} (h : UnP w0 bu bm S s w) {n : Int} (hn : -9223372036854775808 ≤ n ∧ n ≤ 9223372036854775807) :
    (Instr.lookup 88 (.map (some bm)) (.int .i64 n) true).run Try.prog w = .ok (.tuple #[.int .i64 ((s.var n).getD 0), .bool (s.var n).isSome]) w := by
  obtain ⟨F, h1, h2⟩ := h.hm
  have hl := h1.look_ok (t := 88) (e := 3) intKeyed (by kernel_rfl) (zero_int w) (intKey hn)
  rw [h2 n] at hl
  rw [hl]
  cases s.var n <;> rfl
end Go.Proofs.Ytljnmjehokijgaa

/- plant: a tree's nodes are added. -/
namespace Go.Proofs.Ytljnmjehokijgaa
open Go.RowKit

/-- One number more, at an own row whose block alone turns. -/
theorem append_int2 {ops : Array Oper} {rest : List Oper} {o : Oper} {a : Act} {Q : Exit → Act → World → Prop} (w : World) (hgd : o.guard = none) (s x : Operand)
    (ho : o.op = .call { callee := .builtin .append, args := #[s, x], argTypes := #[37, 37] }) (B : Nat) (v : Value) (l : List Int) (hs : a.eval s = v) (hown : OwnI w B v l) (g0 : Nat) (y : Int)
    (hx : a.eval x = .slice (some ⟨g0, 0, none⟩) 1 1) (hg : w.heap[g0]? = some (.cells #[.int .i64 y] 3 (0, 0))) (hlen : l.length ≤ 1000000) (hB : B ≤ w.heap.size) (H : Nat) (hH : w.heap.size = H)
    (h : ∀ (g cap : Nat) (w' : World), OwnI w' B (.slice (some ⟨g, 0, none⟩) (l.length + 1) cap) (l ++ [y]) → Turned w w' (fun k => v.ownBlock = some k) → (v.ownBlock = some g ∨ g = H) → wpList Try.prog ops Q rest (a.put o.dst (.slice (some ⟨g, 0, none⟩) (l.length + 1) cap)) w') : wpList Try.prog ops Q (o :: rest) a w := by
  obtain ⟨i0, hi0, hz0, hz1, hz2⟩ := info_parts Try.infoInt
  refine wpList_append_lies w hgd s x _ ho B 3 i0 (.int .i64 0) 1 8 Try.underlying37 hi0 hz0 hz1 hz2 rfl (by omega) v l.length _ hs hown ⟨g0, 0, none⟩ 1 1 [.int .i64 y] hx rfl (World.news_of_block hg) (by simp [Value.oneCell'])
    (by omega) (by unfold maxLen; omega) (by omega) hB H hH ?_
  intro g cap w' h1 h2 h3 h4
  refine h g cap w' ?_ (Turned.grown (Turned.refl _ _) h2 (fun k _ e => e)) h3
  unfold OwnI
  rw [List.length_append, List.map_append]
  exact h1

theorem UnP.int {w0 : World} {bu bm : Nat} {S : Nat → Prop} {s : Un} {w w' : World} (h : UnP w0 bu bm S s w) {B : Nat} {v : Value} {l : List Int} (ho : OwnI w B v l) (hB : w0.heap.size ≤ B) (t : Turned w w' (fun k => v.ownBlock = some k)) (hS : ∀ g, S g → v.ownBlock ≠ some g) : UnP w0 bu bm S s w' :=
  h.turn t (fun g _ hg => by
    obtain ⟨h1, c, hc⟩ := ho.intB hg
    exact ⟨by omega, c, _, by decide, by decide, hc⟩) (fun g hg _ e => hS g hg e) (fun _ _ hs => hs)

/-- The rows that a call's own row is not among. -/
abbrev But (S : Nat → Prop) (B : Nat) (v : Value) (g : Nat) : Prop := (S g ∨ B ≤ g) ∧ v.ownBlock ≠ some g

theorem KeepP.own {W w w' : World} {B : Nat} {v : Value} {l : List Int} (h : KeepP W w) (ho : OwnI w B v l) (hB : W.heap.size ≤ B) (t : Turned w w' (fun k => v.ownBlock = some k)) : KeepP W w' :=
  ⟨Nat.le_trans h.1 t.size, fun k c ty z h1 h2 hk => by
    have h3 := h.2 k c ty z h1 h2 hk
    refine (t.block k (lt_of_block h3) (fun e => ?_)).trans h3
    have h4 := (ho.intB e).1
    have h5 := lt_of_block hk
    omega⟩

/-- One round of plant's loop: an element's nodes are planted, its number is put behind the row. -/
theorem plant_round {w0 w U w1 : World} {bu bm : Nat} {S : Nat → Prop} {s1 : Un} {u : Value} {l : List Int} {i : Int} {c : Array Value} (ho : OwnI U w.heap.size u l) (hU : w.heap.size ≤ U.heap.size) (hw : w0.heap.size ≤ w.heap.size)
    (hP1 : UnP w0 bu bm (fun g => But S w.heap.size u g ∨ U.heap.size ≤ g) s1 w1) (k1 : KeepP U w1) (kU : KeepP w U) (hb : U.heap[w.heap.size]? = some (.cells c 24 (0, 0))) :
    OwnI (w1.alloc (.cells #[.int .i64 i] 3)) w.heap.size u l ∧ ∀ (g5 c5 : Nat) (w5 : World), OwnI w5 w.heap.size (.slice (some ⟨g5, 0, none⟩) (l.length + 1) c5) (l ++ [i]) → Turned (w1.alloc (.cells #[.int .i64 i] 3)) w5 (fun k => u.ownBlock = some k) → (u.ownBlock = some g5 ∨ g5 = w1.heap.size + 1) →
      UnP w0 bu bm (But S w.heap.size (.slice (some ⟨g5, 0, none⟩) (l.length + 1) c5)) s1 w5 ∧ KeepP w w5 ∧ w5.heap[w.heap.size]? = some (.cells c 24 (0, 0)) := by
  have tX : Turned w1 (w1.alloc (.cells #[.int .i64 i] 3)) (fun _ => False) := (Turned.refl _ _).alloc _
  have kX := k1.trans (KeepP.of tX)
  have hoX := kX.ownI ho
  have hsz : (w1.alloc (.cells #[.int .i64 i] 3)).heap.size = w1.heap.size + 1 := by simp
  refine ⟨hoX, fun g5 c5 w5 ho5 ht5 hg5 => ⟨?_, (kU.trans kX).own hoX (Nat.le_refl _) ht5, ?_⟩⟩
  · have h1 : UnP w0 bu bm (fun g => But S w.heap.size u g ∧ g < w1.heap.size + 1) s1 (w1.alloc (.cells #[.int .i64 i] 3)) := (hP1.step tX).mono (fun g hg hS => by
      refine ⟨?_, by omega⟩
      rcases hS with hS | hS
      · exact hS
      · exact ⟨.inr (by omega), fun e => by have := lt_of_block (ho.intB e).2.choose_spec; omega⟩)
    refine (h1.int hoX hw ht5 (fun g hg => hg.1.2)).mono (fun g _ hg => ⟨hg.1.1, ?_⟩)
    simp only [Value.ownBlock, ne_eq, Option.some.injEq]
    intro e
    rcases hg5 with h2 | h2
    · rw [e] at h2; exact hg.1.2 h2
    · have := hg.2; omega
  · have h1 := kX.2 _ _ _ _ (by decide) (by decide) hb
    refine (ht5.block _ (lt_of_block h1) (fun e => ?_)).trans h1
    obtain ⟨-, cc, hcc⟩ := hoX.intB e
    rw [h1] at hcc
    simp at hcc

set_option maxRecDepth 100000 in
set_option maxHeartbeats 3200000 in
theorem plant_any (w0 : World) (bu bm : Nat) : ∀ (ta : Tm) (va : Value) (S : Nat → Prop) (s : Un) (w : World), TmIn w0 ta va → ta.small → UnP w0 bu bm S s w → s.nd.length + ta.size ≤ 100000 → s.c + ta.size ≤ 100000 →
    Calls Try.prog 66 #[.pointer (some ⟨bu, 0, none⟩), va] w fun e w' => e = .returned (.int .i64 (ta.plant s).2) ∧ UnP w0 bu bm (fun g => S g ∨ w.heap.size ≤ g) (ta.plant s).1 w' ∧ KeepP w w' := by
  intro ta
  refine Tm.ind (P := fun ta => ∀ (va : Value) (S : Nat → Prop) (s : Un) (w : World), TmIn w0 ta va → ta.small → UnP w0 bu bm S s w → s.nd.length + ta.size ≤ 100000 → s.c + ta.size ≤ 100000 →
    Calls Try.prog 66 #[.pointer (some ⟨bu, 0, none⟩), va] w fun e w' => e = .returned (.int .i64 (ta.plant s).2) ∧ UnP w0 bu bm (fun g => S g ∨ w.heap.size ≤ g) (ta.plant s).1 w' ∧ KeepP w w') ?_ ta
  clear ta
  intro ka na la ih va S s w ha hsm hP hl1 hl2
  obtain ⟨aa, ca, rfl, hla, ra⟩ := ha
  have hla2 := hla
  unfold maxLen at hla2
  obtain ⟨W, hW, tW, hC⟩ := box1 w (.int .i64 ka) (.int .i64 na) (.slice aa la.length ca) 24
  have hPW := hP.step tW
  have tt : Turned W W.drew (fun _ => False) := (Turned.refl W _).drew
  have hlook := (hPW.step tt).look hsm.1
  have kb : W.heap[w.heap.size]? = some (.cells #[.int .i64 ka, .int .i64 na, .slice aa la.length ca] 24 (0, 0)) := by rw [hW]; exact heap_alloc_new _ _
  obtain ⟨c0, c1, c2, -, -, -, lW⟩ := box3 kb
  obtain ⟨v, hbu, -⟩ := hPW.hu
  have q0 : W.cell? ⟨bu, 1, none⟩ = some (.map (some bm)) := by simp [World.cell?, hbu]
  have q1 := lt_of_block hbu
  have HW := Lib.hid hW
  have KW := Lib.hid (KeepP.of tW)
  have HPW := Lib.hid hPW
  by_cases hmet : ka = 1 ∧ (s.var na).isSome = true
  · obtain ⟨hk, hm⟩ := hmet
    subst hk
    obtain ⟨i, hi⟩ := Option.isSome_iff_exists.1 hm
    have hv : (Tm.node 1 na la).plant s = (s, i) := by simp [Tm.plant, Un.has, hi]
    have Hv := Lib.hid hv
    rw [hi] at hlook
    simp only [Option.getD_some, Option.isSome_some] at hlook
    clear hW tW hC ih ra hP hPW kb hbu hv hm hi hsm hl1 hl2
    go_enter Try.func66, Try.ntmps66
    go_upto_region 1 with fail
    rw [← HW.out]
    go_upto_region 1 with fail
    go_region
    go_wp2
    go_ret
    rw [Hv.out]
    exact ⟨rfl, (HPW.out.step ((Turned.refl W _).drew)).mono (fun _ _ h => Or.inl h), KW.out.trans (KeepP.of ((Turned.refl W _).drew))⟩
  have hv : (Tm.node ka na la).plant s = ((Tm.plants la s).1.push ka na (Tm.plants la s).2, ((Tm.plants la s).1.nd.length : Int)) := by
    have : s.has ka na = none := by
      unfold Un.has
      by_cases hk : ka = 1
      · rw [if_pos hk]
        cases hx : s.var na with
        | none => rfl
        | some i => exact absurd ⟨hk, by rw [hx]; rfl⟩ hmet
      · rw [if_neg hk]
    simp only [Tm.plant, this]
  have Hv := Lib.hid hv
  have hpick : (ka == 1) = false ∨ ((ka == 1) = true ∧ (s.var na).isSome = false) := by
    by_cases hk : ka = 1
    · right
      refine ⟨by simpa using hk, ?_⟩
      cases hx : (s.var na).isSome with
      | false => rfl
      | true => exact absurd ⟨hk, hx⟩ hmet
    · left; simpa using hk
  have hss : s.nd.length + Tm.sizes la + 1 ≤ 100000 ∧ s.c + Tm.sizes la + 1 ≤ 100000 := by simp only [Tm.size] at hl1 hl2; omega
  have hlen : la.length ≤ 1000000 := by have := Tm.sizes_len la; omega
  have Ih := Lib.hid ih
  have Ra := Lib.hid ra
  have Hsm := Lib.hid hsm
  have KB := Lib.hid kb
  have HPd := Lib.hid (HPW.out.step tt)
  have Hw0 := Lib.hid hP.turned.size
  clear hW tW hC ih ra hP hPW kb hbu hv hsm hl1 hl2 hmet tt
  generalize (s.var na).isSome = b at *
  generalize (s.var na).getD 0 = z at *
  go_enter Try.func66, Try.ntmps66
  go_upto_region 1 with fail
  rw [← HW.out]
  go_region
  rcases hpick with e1 | ⟨e1, rfl⟩
  all_goals
    go_wp2
    clear c0 c1 c2 lW q0 q1 hlook
    go_loopw [31, 7] (fun i u wr => ∃ k : Nat, k ≤ la.length ∧ i = .int .i64 k ∧ OwnI wr w.heap.size u (Tm.plants (la.take k) s).2 ∧ UnP w0 bu bm (But S w.heap.size u) (Tm.plants (la.take k) s).1 wr ∧ KeepP w wr ∧ wr.heap[w.heap.size]? = some (.cells #[.int .i64 ka, .int .i64 na, .slice aa la.length ca] 24 (0, 0))) (fun i _ _ => la.length - (intOf i).toNat)
    case atStart => exact ⟨0, Nat.zero_le _, rfl, OwnI.nil _ _, HPd.out.mono (fun _ _ h => ⟨.inl h, by simp [Value.ownBlock]⟩), KW.out.trans (KeepP.of ((Turned.refl W _).drew)), KB.out⟩
    case round =>
      obtain ⟨k, hk, rfl, hor, hPr, hkr, hbr⟩ := hrel
      by_cases hlt : k < la.length
      · have hki : (k : Int) < (la.length : Int) := by omega
        have h0r := hPr.turned
        obtain ⟨ga, oa, sa, sc, rfl, lga, xa0, xa1, xa2, xat⟩ := tmsIn_at2 Ra.out k hlt
        have lga' : ga < wr.heap.size := Nat.lt_of_lt_of_le lga h0r.size
        have p0 := (h0r.cell (p := ⟨ga, oa + k * 3, none⟩) lga (fun hf => hf)).trans xa0
        have p1 := (h0r.cell (p := ⟨ga, oa + k * 3 + 1, none⟩) lga (fun hf => hf)).trans xa1
        have p2 := (h0r.cell (p := ⟨ga, oa + k * 3 + 2, none⟩) lga (fun hf => hf)).trans xa2
        obtain ⟨U, hU, tU, hCU⟩ := box1 wr (.int .i64 la[k].kind) (.int .i64 la[k].num) (.slice sa la[k].kids.length sc) 24
        obtain ⟨u0', u1', u2', lU⟩ := hCU U (Turned.refl _ _)
        have hsn : Tm.plants (la.take (k + 1)) s = ((la[k].plant (Tm.plants (la.take k) s).1).1, (Tm.plants (la.take k) s).2 ++ [(la[k].plant (Tm.plants (la.take k) s).1).2]) := by
          rw [List.take_succ_eq_append_getElem hlt, Tm.plants_snoc]
        have hb := Tm.plants_bound (la.take k) s
        have hsz : Tm.sizes (la.take k) + la[k].size ≤ Tm.sizes la := by
          have h3 := Tm.sizes_app (la.take (k + 1)) (la.drop (k + 1))
          rw [List.take_append_drop, List.take_succ_eq_append_getElem hlt, Tm.sizes_app] at h3
          simp only [Tm.sizes] at h3
          omega
        have hcall := Ih.out la[k] (List.getElem_mem hlt) (.agg #[.int .i64 la[k].kind, .int .i64 la[k].num, .slice sa la[k].kids.length sc]) _ _ U xat (Tm.smalls_mem Hsm.out.2 (List.getElem_mem hlt)) (hPr.step tU) (by omega) (by omega)
        have hround := fun (w1 : World) (h1 : UnP w0 bu bm (fun g => But S w.heap.size u7 g ∨ U.heap.size ≤ g) (la[k].plant (Tm.plants (la.take k) s).1).1 w1) (h2 : KeepP U w1) => plant_round (bu := bu) (bm := bm) (S := S) (s1 := (la[k].plant (Tm.plants (la.take k) s).1).1) (i := (la[k].plant (Tm.plants (la.take k) s).1).2) (w1 := w1) (hor.step tU) (by have := hkr.1; have := tU.size; omega) Hw0.out h1 h2 (hkr.trans (KeepP.of tU)) (turn_keep tU hbr)
        have hll : (Tm.plants (la.take k) s).2.length ≤ 1000000 := by rw [Tm.plants_length, List.length_take]; omega
        have Hcall := Lib.hid hcall
        have Hround := Lib.hid hround
        have HU := Lib.hid hU
        have Hsn := Lib.hid hsn
        have hwU : w.heap.size ≤ U.heap.size := by have := hkr.1; have := tU.size; omega
        clear xa0 xa1 xa2 xat lga hsn hcall hround hCU tU hU hor hPr hkr hbr h0r hb hsz
        generalize la[k].plant (Tm.plants (la.take k) s).1 = X at *
        obtain ⟨xs, xi⟩ := X
        generalize Tm.plants (la.take k) s = Y at *
        obtain ⟨ys, yl⟩ := Y
        simp only at hll
        generalize la[k].kind = xk at *
        generalize la[k].num = xn at *
        generalize la[k].kids.length = xm at *
        go_upto_region 8 with fail
        rw [← HU.out]
        go_wp2_with fail
        refine Hcall.out.mono ?_
        rintro e w1 ⟨rfl, hP1, k1⟩
        obtain ⟨hA, hR⟩ := Hround.out w1 hP1 k1
        have HA := Lib.hid hA
        have HR := Lib.hid hR
        have hB1 : w.heap.size ≤ (w1.alloc (.cells #[.int .i64 xi] 3)).heap.size := by have := k1.1; simp; omega
        obtain ⟨av, cv, hav⟩ := hA.form
        clear hA hR hP1 k1 p0 p1 p2 u0' u1' u2' lU
        subst hav
        go_wp2_with (at_builtin; refine append_int2 _ (by rfl) _ _ (by rfl) w.heap.size _ yl (by rfl) HA.out w1.heap.size xi (by rfl) (heap_alloc_new _ _) hll hB1 (w1.heap.size + 1) (by simp) ?_; intro g5 c5 w5 ho5 ht5 hg5; have R5 := Lib.hid (HR.out g5 c5 w5 ho5 ht5 hg5); have O5 := Lib.hid ho5; clear ho5 ht5 hg5)
        go_roundw
        case rel => exact ⟨k + 1, by omega, by go_num, by rw [Hsn.out]; simpa using O5.out, by rw [Hsn.out]; exact R5.out.1, R5.out.2.1, R5.out.2.2⟩
        case measure => simp [intOf]; omega
      · obtain rfl : k = la.length := by omega
        rw [List.take_of_length_le (Nat.le_refl _)] at hor hPr
        obtain ⟨v1, hb1, hO1⟩ := hPr.hu
        obtain ⟨av, cv, rfl⟩ := hO1.form
        obtain ⟨au, cu, rfl⟩ := hor.form
        have q0 : wr.cell? ⟨bu, 0, none⟩ = some (.slice av (Tm.plants la s).1.nd.length cv) := by simp [World.cell?, hb1]
        have q1 := lt_of_block hb1
        obtain ⟨b0, b1, b2, -, -, -, lb⟩ := box3 hbr
        have hbd := Tm.plants_bound la s
        have hPS : UnP w0 bu bm (fun g => S g ∨ w.heap.size ≤ g) (Tm.plants la s).1 wr := hPr.mono (fun g _ h => h.1)
        have hyS : ∀ g, (Value.slice au (Tm.plants la s).2.length cu).ownBlock = some g → S g ∨ w.heap.size ≤ g := fun g hg => .inr (hor.intB hg).1
        have hrow := hor.rowB
        have hsz : (Tm.plants la s).1.nd.length ≤ 1000000 ∧ (Tm.plants la s).1.c ≤ 1000000 := by omega
        have HPS := Lib.hid hPS
        have HyS := Lib.hid hyS
        have Hrow := Lib.hid hrow
        have Hb1 := Lib.hid hb1
        have Hkr := Lib.hid hkr
        have Hbr := Lib.hid hbr
        clear hPr hor hb1 hO1 hbr hkr hPS hyS hrow hbd
        generalize Tm.plants la s = Y at *
        obtain ⟨y, yl⟩ := Y
        simp only at hsz
        obtain ⟨hz1, hz2⟩ := hsz
        go_upto_region 11 with fail
        go_region_law (first
          | (refine step_append_node _ (by rfl) _ _ (by rfl) w0 bu bm (fun g => S g ∨ w.heap.size ≤ g) y (HPS.out.step (by repeat (first | assumption | exact Turned.refl _ _ | apply Turned.alloc | apply Turned.drew))) (.slice av y.nd.length cv) (turn_keep (a := wr) (by repeat (first | assumption | exact Turned.refl _ _ | apply Turned.alloc | apply Turned.drew)) Hb1.out) (by rfl) wr.heap.size ka na (.slice au yl.length cu) yl (Hrow.out.turned (w := wr) (D := fun _ => False) (by repeat (first | assumption | exact Turned.refl _ _ | apply Turned.alloc | apply Turned.drew)) (fun _ _ hf => hf)) HyS.out (by rfl) (by exact heap_alloc_new _ _) hz1 ?_; intro q5 c5 w5 k5 hP5 hK5 hs5; have m0 : w5.cell? ⟨bu, 0, none⟩ = some (.slice av y.nd.length cv) := (by simp [World.cell?, k5]); have m1 : w5.frozen? ⟨bu, 0, none⟩ = false := (by simp [World.frozen?, k5]); have m2 := lt_of_block k5; have HP5 := Lib.hid hP5; have HK5 := Lib.hid (KeepP.trans (a := wr) (KeepP.of (by repeat (first | assumption | exact Turned.refl _ _ | apply Turned.alloc | apply Turned.drew))) hK5); clear k5 hP5 hK5 hs5))
        all_goals
          have hP5 := HP5.out
          have hK5 := HK5.out
          generalize w5.setCell ⟨bu, 0, none⟩ (.slice q5 (y.nd.length + 1) c5) = V at *
          have hbV := hK5.2 _ _ _ _ (by decide) (by decide) Hbr.out
          have HP5 := Lib.hid hP5
          have HK5 := Lib.hid (Hkr.out.trans hK5)
          clear m0 m1 m2 q0 q1 b0 b1 b2 lb hP5 hK5
          obtain ⟨b0, b1, b2, -, -, -, lb⟩ := box3 hbV
          clear hbV
          first
          | (have hk1 : ka ≠ 1 := (by simpa using e1)
             have Hfin := Lib.hid (show UnP w0 bu bm (fun g => S g ∨ w.heap.size ≤ g) (y.push ka na yl) V by unfold Un.push; rw [if_neg hk1]; exact HP5.out)
             clear hk1
             go_wp2
             go_ret
             rw [Hv.out]
             exact ⟨rfl, Hfin.out, HK5.out⟩)
          | (have hk1 : ka = 1 := (by simpa using e1)
             obtain ⟨W2, hput, hP6, k6⟩ := (HP5.out.step ((Turned.refl V _).drew)).put Hsm.out.1 hz2 (y.nd.length : Int)
             obtain ⟨v2, hb2, -⟩ := HP5.out.hu
             have d1 : V.cell? ⟨bu, 1, none⟩ = some (.map (some bm)) := by simp [World.cell?, hb2]
             have d2 := lt_of_block hb2
             have Hfin := Lib.hid (show UnP w0 bu bm (fun g => S g ∨ w.heap.size ≤ g) (y.push ka na yl) W2 by unfold Un.push; rw [if_pos hk1]; exact hP6)
             have K6 := Lib.hid (HK5.out.trans ⟨k6.1, fun b c t z _ _ hb => k6.2 b c t z hb⟩)
             clear hk1 hP6 k6 hb2
             go_upto_region 13 with fail
             go_region_law (fail)
             all_goals
               go_wp2
               go_ret
               rw [Hv.out]
               exact ⟨rfl, Hfin.out, K6.out⟩)
end Go.Proofs.Ytljnmjehokijgaa

/- The unifier's nodes in one block; end. -/
namespace Go.Proofs.Ytljnmjehokijgaa
open Go.RowKit

/-- A block holds nodes. -/
def RowN (w : World) (g : Nat) (nd : List Nd) : Prop :=
  ∃ c : Array Value, w.heap[g]? = some (.cells c 113 (0, 0)) ∧ ∀ (i : Nat) (x : Nd), nd[i]? = some x → ∃ v, c[i * 6]? = some (.int .i64 x.k) ∧ c[i * 6 + 1]? = some (.int .i64 x.n) ∧ c[i * 6 + 2]? = some v ∧ c[i * 6 + 3]? = some (.int .i64 x.b) ∧
    c[i * 6 + 4]? = some (.int .i64 x.e1) ∧ c[i * 6 + 5]? = some (.int .i64 x.e2) ∧ RowB w v x.l

/-- The unifier in memory, when all is planted. -/
structure UnB (w0 : World) (bu bm g cap : Nat) (s : Un) (w : World) : Prop where
  turned : Turned w0 w (fun _ => False)
  hu : w.heap[bu]? = some (.cells #[.slice (some ⟨g, 0, none⟩) s.nd.length cap, .map (some bm), .int .i64 s.p] 93 (0, 0))
  hn : RowN w g s.nd
  hm : ∃ F, MapV w 3 bm s.c F ∧ ∀ x : Int, F (.int .i64 x) = (s.var x).map (Value.int .i64)
  lo : w0.heap.size ≤ bu
  lo2 : w0.heap.size ≤ g
  lo3 : w0.heap.size ≤ bm
  hl : s.nd.length ≤ 1000000

theorem RowN.turned {w w' : World} {g : Nat} {nd : List Nd} {D : Nat → Prop} (h : RowN w g nd) (t : Turned w w' D) (hg : ¬ D g) (k : KeepsB 3 w w') : RowN w' g nd := by
  obtain ⟨c, h1, h2⟩ := h
  refine ⟨c, (t.block g (lt_of_block h1) hg).trans h1, fun i x hx => ?_⟩
  obtain ⟨v, a0, a1, a2, a3, a4, a5, hr⟩ := h2 i x hx
  exact ⟨v, a0, a1, a2, a3, a4, a5, hr.keeps k⟩

theorem UnB.step {w0 : World} {bu bm g cap : Nat} {s : Un} {w w' : World} (h : UnB w0 bu bm g cap s w) (t : Turned w w' (fun _ => False)) : UnB w0 bu bm g cap s w' := by
  obtain ⟨F, h3, h4⟩ := h.hm
  exact ⟨h.turned.trans t (fun _ _ hf => hf), turn_keep t h.hu, h.hn.turned t (fun hf => hf) (KeepsB.of t), ⟨F, h3.turned t (fun hf => hf), h4⟩, h.lo, h.lo2, h.lo3, h.hl⟩

theorem UnB.ne {w0 : World} {bu bm g cap : Nat} {s : Un} {w : World} (h : UnB w0 bu bm g cap s w) : bu ≠ g ∧ bu ≠ bm ∧ g ≠ bm := by
  obtain ⟨c, h1, -⟩ := h.hn
  have h2 := h.hu
  obtain ⟨F, h3, -⟩ := h.hm
  obtain ⟨es, cc, hb⟩ := h3.block
  refine ⟨fun e => ?_, fun e => ?_, fun e => ?_⟩
  · rw [e, h1] at h2; simp at h2
  · rw [e, hb] at h2; cases h2
  · rw [e, hb] at h1; cases h1

theorem zip_get {α β : Type} : ∀ (l : List α) (m : List β) (i : Nat) (a : α), l.length = m.length → l[i]? = some a → ∃ b, m[i]? = some b ∧ (l.zip m)[i]? = some (a, b)
  | x :: l, y :: m, 0, a, _, h => by
    simp only [List.getElem?_cons_zero, Option.some.injEq] at h
    subst h
    exact ⟨y, rfl, rfl⟩
  | x :: l, y :: m, i + 1, a, hl, h => by
    simp only [List.getElem?_cons_succ] at h
    obtain ⟨b, h1, h2⟩ := zip_get l m i a (by simpa using hl) h
    exact ⟨b, by simpa using h1, by simpa using h2⟩
  | [], _, _, _, _, h => by simp at h
  | _ :: _, [], _, _, hl, _ => by simp at hl

/-- What was planted lies in one block. -/
theorem UnP.block {w0 : World} {bu bm : Nat} {S : Nat → Prop} {s : Un} {w : World} (h : UnP w0 bu bm S s w) (hne : s.nd ≠ []) (hl : s.nd.length ≤ 1000000) : ∃ g cap, UnB w0 bu bm g cap s w := by
  obtain ⟨v, h1, hO⟩ := h.hu
  obtain ⟨vs, h2, h3, h4⟩ := hO
  rcases h4.2 with ⟨hv, h0⟩ | ⟨g, cap, cur, rfl, hb, hg, hle, hcap, hsz, hx⟩
  · exact absurd (List.length_eq_zero_iff.1 h0) hne
  · refine ⟨g, cap, h.turned, h1, ⟨cur, hg, fun i x hi => ?_⟩, h.hm, h.lo, hb, h.lo2, hl⟩
    obtain ⟨u, hu, hz⟩ := zip_get s.nd vs i x h2.symm hi
    have hil := (List.getElem?_eq_some_iff.1 hi).1
    have hat : ∀ (j : Nat) (y : Value), (ndc (x, u))[j]? = some y → cur[i * 6 + j]? = some y := fun j y hj => by
      have h5 := flatMap_at ndc 6 (fun _ => rfl) _ i (x, u) hz j y hj
      rw [← hx] at h5
      have h6 : j < 6 := (List.getElem?_eq_some_iff.1 hj).1
      rw [List.getElem?_take_of_lt (by omega)] at h5
      simpa using h5
    exact ⟨u, hat 0 _ rfl, hat 1 _ rfl, hat 2 _ rfl, hat 3 _ rfl, hat 4 _ rfl, hat 5 _ rfl, (h3 i u x hu hi).1⟩

/-- The cells of a node. -/
theorem UnB.cells {w0 : World} {bu bm g cap : Nat} {s : Un} {w : World} (h : UnB w0 bu bm g cap s w) {i : Nat} {x : Nd} (hi : s.nd[i]? = some x) : ∃ q c, w.cell? ⟨g, i * 6, none⟩ = some (.int .i64 x.k) ∧ w.cell? ⟨g, i * 6 + 1, none⟩ = some (.int .i64 x.n) ∧ w.cell? ⟨g, i * 6 + 2, none⟩ = some (.slice q x.l.length c) ∧
    w.cell? ⟨g, i * 6 + 3, none⟩ = some (.int .i64 x.b) ∧ w.cell? ⟨g, i * 6 + 4, none⟩ = some (.int .i64 x.e1) ∧ w.cell? ⟨g, i * 6 + 5, none⟩ = some (.int .i64 x.e2) ∧ RowB w (.slice q x.l.length c) x.l := by
  obtain ⟨cs, h1, h2⟩ := h.hn
  obtain ⟨v, a0, a1, a2, a3, a4, a5, hr⟩ := h2 i x hi
  obtain ⟨q, c, rfl⟩ : ∃ q c, v = .slice q x.l.length c := by obtain ⟨a, cap, h1, -⟩ := hr; exact ⟨a, cap, h1⟩
  refine ⟨q, c, ?_, ?_, ?_, ?_, ?_, ?_, hr⟩ <;> (simp only [World.cell?, h1]; assumption)

theorem UnB.at0 {w0 : World} {bu bm g cap : Nat} {s : Un} {w : World} (h : UnB w0 bu bm g cap s w) : w.cell? ⟨bu, 0, none⟩ = some (.slice (some ⟨g, 0, none⟩) s.nd.length cap) ∧ w.cell? ⟨bu, 1, none⟩ = some (.map (some bm)) ∧ w.cell? ⟨bu, 2, none⟩ = some (.int .i64 s.p) ∧ bu < w.heap.size ∧ g < w.heap.size ∧
    (∀ j, w.frozen? ⟨bu, j, none⟩ = false) ∧ (∀ j, w.frozen? ⟨g, j, none⟩ = false) := by
  obtain ⟨c, hg, -⟩ := h.hn
  have hu := h.hu
  refine ⟨?_, ?_, ?_, lt_of_block hu, lt_of_block hg, fun j => ?_, fun j => ?_⟩ <;> simp [World.cell?, World.frozen?, hu, hg]

/-- How many steps a node goes. -/
def Un.steps (nd : List Nd) : Nat → Int → Nat
  | 0, _ => 0
  | f + 1, a => match nd[a.toNat]? with
    | none => 0
    | some x => if 0 ≤ x.b then Un.steps nd f x.b + 1 else 0

theorem Un.fin_at {nd : List Nd} {f : Nat} {a r : Int} (h : Un.fin nd f a = some r) : ∃ (f' i : Nat) (x : Nd), f = f' + 1 ∧ a = i ∧ nd[i]? = some x ∧ (0 ≤ x.b → Un.fin nd f' x.b = some r) ∧ (x.b < 0 → r = a) := by
  cases f with
  | zero => cases h
  | succ f =>
    simp only [Un.fin] at h
    by_cases h0 : a < 0
    · rw [if_pos h0] at h; cases h
    · rw [if_neg h0] at h
      cases hx : nd[a.toNat]? with
      | none => rw [hx] at h; cases h
      | some x =>
        rw [hx] at h
        simp only at h
        refine ⟨f, a.toNat, x, rfl, by omega, hx, fun hb => ?_, fun hb => ?_⟩
        · rwa [if_pos hb] at h
        · rw [if_neg (by omega)] at h
          simpa using h.symm

theorem Un.steps_eq {nd : List Nd} : ∀ (f : Nat) (a r : Int), Un.fin nd f a = some r → ∀ F, f ≤ F → Un.steps nd F a = Un.steps nd f a
  | f, a, r, h, F, hF => by
    obtain ⟨f', i, x, rfl, rfl, hx, h1, -⟩ := Un.fin_at h
    obtain ⟨F', rfl⟩ : ∃ F', F = F' + 1 := ⟨F - 1, by omega⟩
    simp only [Un.steps, Int.toNat_natCast, hx]
    by_cases hb : 0 ≤ x.b
    · rw [if_pos hb, if_pos hb, Un.steps_eq f' x.b r (h1 hb) F' (by omega)]
    · rw [if_neg hb, if_neg hb]

theorem Un.steps_lt {nd : List Nd} {f : Nat} {i : Nat} {r : Int} {x : Nd} (h : Un.fin nd f i = some r) (hx : nd[i]? = some x) (hb : 0 ≤ x.b) {F : Nat} (hF : f ≤ F) : Un.steps nd F x.b < Un.steps nd F i := by
  have hs := Un.steps_eq f _ r h F hF
  obtain ⟨f', j, y, rfl, hj, hy, h1, -⟩ := Un.fin_at h
  have : i = j := by omega
  subst this
  rw [hx] at hy
  cases hy
  rw [hs, Un.steps_eq f' x.b r (h1 hb) F (by omega)]
  simp only [Un.steps, Int.toNat_natCast, hx, if_pos hb]
  omega

theorem Un.fin_lt {nd : List Nd} : ∀ (f : Nat) (a r : Int), Un.fin nd f a = some r → ∃ (i : Nat) (x : Nd), r = i ∧ nd[i]? = some x ∧ x.b < 0
  | f, a, r, h => by
    obtain ⟨f', i, x, rfl, rfl, hx, h1, h2⟩ := Un.fin_at h
    by_cases hb : 0 ≤ x.b
    · exact Un.fin_lt f' x.b r (h1 hb)
    · exact ⟨i, x, h2 (by omega), hx, by omega⟩

set_option maxRecDepth 100000 in
set_option maxHeartbeats 1600000 in
theorem end_any (w0 : World) (bu bm g cap : Nat) (s : Un) (w : World) (hU : UnB w0 bu bm g cap s w) (F : Nat) (a r : Int) (h : Un.fin s.nd F a = some r) :
    Calls Try.prog 84 #[.pointer (some ⟨bu, 0, none⟩), .int .i64 a] w fun e w' => e = .returned (.int .i64 r) ∧ w' = w := by
  obtain ⟨q0, -, -, q1, q2, -, -⟩ := hU.at0
  have HU := Lib.hid hU
  have Hf := Lib.hid h
  have hl := hU.hl
  clear hU h
  go_enter Try.func84, Try.ntmps84
  go_wp2
  go_loopw [1] (fun i wr => ∃ (f : Nat) (k : Nat), f ≤ F ∧ i = .int .i64 k ∧ Un.fin s.nd f k = some r ∧ wr = w) (fun i _ => Un.steps s.nd F (intOf i))
  case atStart =>
    obtain ⟨f', i, x, -, rfl, -⟩ := Un.fin_at Hf.out
    exact ⟨F, i, Nat.le_refl _, rfl, Hf.out, rfl⟩
  case round =>
    obtain ⟨f, k, hfF, rfl, hf, rfl⟩ := hrel
    obtain ⟨f', i, x, rfl, hik, hx, h1, h2⟩ := Un.fin_at hf
    have : k = i := by omega
    subst this
    obtain ⟨q, c, -, -, -, x3, -, -, -⟩ := HU.out.cells hx
    have hkl : (k : Int) < (s.nd.length : Int) := by have := (List.getElem?_eq_some_iff.1 hx).1; omega
    have Hm := Lib.hid (fun hb => Un.steps_lt hf hx hb hfF)
    have H1 := Lib.hid h1
    have H2 := Lib.hid h2
    clear hf hx h1 h2 hik
    generalize x.b = xb at *
    by_cases hb : 0 ≤ xb
    · obtain ⟨k2, rfl⟩ : ∃ k2 : Nat, xb = k2 := ⟨xb.toNat, by omega⟩
      have Hn := Lib.hid (H1.out hb)
      have Hm2 := Lib.hid (Hm.out hb)
      clear H1 Hm H2
      go_wp2
      go_roundw
      case rel => exact ⟨f', k2, by omega, rfl, Hn.out, by first | rfl | trivial⟩
      case measure => exact Hm2.out
    · have Hr := Lib.hid (H2.out (by omega))
      clear H1 H2 Hm
      go_wp2
      go_ret
      rw [Hr.out]
      exact ⟨rfl, rfl⟩
end Go.Proofs.Ytljnmjehokijgaa

/- within: does a variable occur within a node? -/
namespace Go.Proofs.Ytljnmjehokijgaa
open Go.RowKit

set_option maxRecDepth 100000 in
set_option maxHeartbeats 1600000 in
/-- slices.IndexFunc over a function value that keeps a state. -/
theorem indexFunc_any (fn : FuncId) (caps : Array Value) (I : List Bool → World → Prop) (gq : List Bool → Int → Option (List Bool × Bool)) (va : Value) (l : List Int) (hll : l.length ≤ 1000000)
    (hrun : ∀ (x : Value) (w : World), (callFunc fn (#[x] ++ caps)).run Try.prog w = .ok (.enter fn (#[x] ++ caps)) w) (hrow : ∀ m w, I m w → RowB w va l)
    (hcall : ∀ m a m2 b w, gq m a = some (m2, b) → I m w → Calls Try.prog fn (#[.int .i64 a] ++ caps) w fun e w' => e = .returned (.bool b) ∧ I m2 w')
    (m m2 : List Bool) (b : Bool) (w : World) (h : Un.looks gq l m = some (m2, b)) (hI : I m w) :
    Calls Try.prog 101 #[va, .func (.func fn) #[] caps] w fun e w' => (∃ n : Int, e = .returned (.int .i64 n) ∧ decide (0 ≤ n) = b) ∧ I m2 w' := by
  obtain ⟨q, c, rfl⟩ : ∃ q c, va = .slice q l.length c := by obtain ⟨a, cap, h1, -⟩ := hrow m w hI; exact ⟨a, cap, h1⟩
  have Hrow := Lib.hid hrow
  have Hcall := Lib.hid hcall
  have HI := Lib.hid hI
  have Hq := Lib.hid h
  clear hrow hcall hI h
  go_enter Try.func101, Try.ntmps101
  go_wp2
  go_loopw [8] (fun i wr => ∃ (k : Nat) (mk : List Bool), k ≤ l.length ∧ i = .int .i64 k ∧ Un.looks gq (l.drop k) mk = some (m2, b) ∧ I mk wr) (fun i _ => l.length - (intOf i).toNat)
  case atStart => exact ⟨0, m, Nat.zero_le _, rfl, Hq.out, HI.out⟩
  case round =>
    obtain ⟨k, mk, hk, rfl, hq, hi⟩ := hrel
    by_cases hlt : k < l.length
    · have hki : (k : Int) < (l.length : Int) := by omega
      obtain ⟨ga, oa, rfl, lga, xa⟩ := (Hrow.out _ _ hi).row.at k hlt
      rw [List.drop_eq_getElem_cons hlt] at hq
      simp only [Un.looks] at hq
      cases hg : gq mk l[k] with
      | none => rw [hg] at hq; cases hq
      | some X =>
        obtain ⟨mx, bx⟩ := X
        rw [hg] at hq
        have Hc := Lib.hid (Hcall.out mk l[k] mx bx wr hg hi)
        have hr := hrun (.int .i64 l[k])
        have Hqq := Lib.hid hq
        clear hg hi hq
        generalize l[k] = y at *
        go_wp2_with fail
        refine Hc.out.mono ?_
        rintro e w1 ⟨rfl, h1⟩
        have H1 := Lib.hid h1
        clear h1 xa lga hr
        cases bx
        · have hq2 := Hqq.out
          simp only at hq2
          have Hq2 := Lib.hid hq2
          clear hq2 Hqq
          go_wp2
          go_roundw
          case rel => exact ⟨k + 1, mx, by omega, by go_num, Hq2.out, H1.out⟩
          case measure => simp [intOf]; omega
        · have hq2 := Hqq.out
          simp only [Option.some.injEq, Prod.mk.injEq] at hq2
          obtain ⟨rfl, rfl⟩ := hq2
          clear Hqq
          have Hfin := Lib.hid (show (∃ n : Int, Ending.returned (.int .i64 (k : Int)) = .returned (.int .i64 n) ∧ decide (0 ≤ n) = true) ∧ I mx w1 from ⟨⟨k, rfl, by simp⟩, H1.out⟩)
          go_wp2
          go_ret
          exact Hfin.out
    · obtain rfl : k = l.length := by omega
      rw [List.drop_of_length_le (Nat.le_refl _)] at hq
      simp only [Un.looks, Option.some.injEq, Prod.mk.injEq] at hq
      obtain ⟨rfl, rfl⟩ := hq
      have Hfin := Lib.hid (show (∃ n : Int, Ending.returned (.int .i64 (-1)) = .returned (.int .i64 n) ∧ decide (0 ≤ n) = false) ∧ I mk wr from ⟨⟨-1, rfl, by decide⟩, hi⟩)
      clear hi
      go_wp2
      go_ret
      exact Hfin.out

set_option maxRecDepth 100000 in
set_option maxHeartbeats 1600000 in
theorem containsFunc_any (fn : FuncId) (caps : Array Value) (I : List Bool → World → Prop) (gq : List Bool → Int → Option (List Bool × Bool)) (va : Value) (l : List Int) (hll : l.length ≤ 1000000)
    (hrun : ∀ (x : Value) (w : World), (callFunc fn (#[x] ++ caps)).run Try.prog w = .ok (.enter fn (#[x] ++ caps)) w) (hrow : ∀ m w, I m w → RowB w va l)
    (hcall : ∀ m a m2 b w, gq m a = some (m2, b) → I m w → Calls Try.prog fn (#[.int .i64 a] ++ caps) w fun e w' => e = .returned (.bool b) ∧ I m2 w')
    (m m2 : List Bool) (b : Bool) (w : World) (h : Un.looks gq l m = some (m2, b)) (hI : I m w) :
    Calls Try.prog 94 #[va, .func (.func fn) #[] caps] w fun e w' => e = .returned (.bool b) ∧ I m2 w' := by
  have Hc := Lib.hid (indexFunc_any fn caps I gq va l hll hrun hrow hcall m m2 b w h hI)
  clear hrow hcall h hI hrun
  go_enter Try.func94, Try.ntmps94
  go_wp2_with fail
  refine Hc.out.mono ?_
  rintro e w1 ⟨⟨n, rfl, hn⟩, h1⟩
  have H1 := Lib.hid h1
  clear h1
  cases b
  · have h2 : ¬ 0 ≤ n := of_decide_eq_false hn
    go_wp2
    go_ret
    exact ⟨by first | rfl | (rw [hn]), H1.out⟩
  · have h2 : 0 ≤ n := of_decide_eq_true hn
    go_wp2
    go_ret
    exact ⟨by first | rfl | (rw [hn]), H1.out⟩
end Go.Proofs.Ytljnmjehokijgaa

/- within's own function, and within. -/
namespace Go.Proofs.Ytljnmjehokijgaa
open Go.RowKit

theorem Un.look_at {nd : List Nd} {v : Int} {f : Nat} {m m2 : List Bool} {a : Int} {b : Bool} (h : Un.look nd v (f + 1) m a = some (m2, b)) : ∃ (i : Nat) (x : Nd), a = i ∧ nd[i]? = some x ∧
    ((m[i]? = some true ∧ m2 = m ∧ b = false) ∨ (m[i]? = some false ∧ ((a = v ∧ m2 = m.set i true ∧ b = true) ∨ (a ≠ v ∧ ∃ m3 b3, (if 0 ≤ x.b then Un.look nd v f (m.set i true) x.b else some (m.set i true, false)) = some (m3, b3) ∧
      ((b3 = true ∧ m2 = m3 ∧ b = true) ∨ (b3 = false ∧ Un.looks (Un.look nd v f) x.l m3 = some (m2, b))))))) := by
  simp only [Un.look] at h
  by_cases h0 : a < 0
  · rw [if_pos h0] at h; cases h
  rw [if_neg h0] at h
  cases hx : nd[a.toNat]? with
  | none => rw [hx] at h; cases hm : m[a.toNat]? <;> rw [hm] at h <;> (try cases h) <;> (rename_i z; cases z <;> cases h)
  | some x =>
    refine ⟨a.toNat, x, by omega, hx, ?_⟩
    rw [hx] at h
    cases hm : m[a.toNat]? with
    | none => rw [hm] at h; cases h
    | some z =>
      rw [hm] at h
      cases z with
      | true =>
        left
        simp only [Option.some.injEq, Prod.mk.injEq] at h
        exact ⟨rfl, h.1.symm, h.2.symm⟩
      | false =>
        right
        refine ⟨rfl, ?_⟩
        simp only at h
        by_cases hv : a = v
        · rw [if_pos hv] at h
          simp only [Option.some.injEq, Prod.mk.injEq] at h
          exact .inl ⟨hv, h.1.symm, h.2.symm⟩
        · rw [if_neg hv] at h
          refine .inr ⟨hv, ?_⟩
          cases hq : (if 0 ≤ x.b then Un.look nd v f (m.set a.toNat true) x.b else some (m.set a.toNat true, false)) with
          | none => rw [hq] at h; cases h
          | some X =>
            obtain ⟨m3, b3⟩ := X
            rw [hq] at h
            refine ⟨m3, b3, rfl, ?_⟩
            cases b3 with
            | true =>
              simp only [Option.some.injEq, Prod.mk.injEq] at h
              exact .inl ⟨rfl, h.1.symm, h.2.symm⟩
            | false => exact .inr ⟨rfl, h⟩

/-- What within's function looks at. -/
structure Lk (w0 : World) (bu bm g cap : Nat) (s : Un) (bt bub bv bk hm : Nat) (v : Int) (m : List Bool) (w : World) : Prop where
  ub : UnB w0 bu bm g cap s w
  h1 : w.heap[bt]? = some (.cells #[.slice (some ⟨hm, 0, none⟩) s.nd.length s.nd.length] 126 (0, 0))
  h2 : ∃ c, w.heap[hm]? = some (.cells c 4 (0, 0)) ∧ ∀ (i : Nat) (b : Bool), m[i]? = some b → c[i]? = some (.bool b)
  h3 : w.heap[bub]? = some (.cells #[.pointer (some ⟨bu, 0, none⟩)] 111 (0, 0))
  h4 : w.heap[bv]? = some (.cells #[.int .i64 v] 3 (0, 0))
  h5 : w.heap[bk]? = some (.cells #[.func (.func 93) #[] #[.pointer (some ⟨bt, 0, none⟩), .pointer (some ⟨bub, 0, none⟩), .pointer (some ⟨bv, 0, none⟩), .pointer (some ⟨bk, 0, none⟩)]] 107 (0, 0))
  lo : w0.heap.size ≤ hm

theorem Lk.step {w0 : World} {bu bm g cap : Nat} {s : Un} {bt bub bv bk hm : Nat} {v : Int} {m : List Bool} {w w' : World} (h : Lk w0 bu bm g cap s bt bub bv bk hm v m w) (t : Turned w w' (fun _ => False)) : Lk w0 bu bm g cap s bt bub bv bk hm v m w' := by
  obtain ⟨c, h2, h3⟩ := h.h2
  exact ⟨h.ub.step t, turn_keep t h.h1, ⟨c, turn_keep t h2, h3⟩, turn_keep t h.h3, turn_keep t h.h4, turn_keep t h.h5, h.lo⟩

theorem Lk.set {w0 : World} {bu bm g cap : Nat} {s : Un} {bt bub bv bk hm : Nat} {v : Int} {m : List Bool} {w : World} (h : Lk w0 bu bm g cap s bt bub bv bk hm v m w) {i : Nat} (hi : i < m.length) :
    Lk w0 bu bm g cap s bt bub bv bk hm v (m.set i true) (w.setCell ⟨hm, i, none⟩ (.bool true)) ∧ Turned w (w.setCell ⟨hm, i, none⟩ (.bool true)) (fun k => k = hm) := by
  obtain ⟨c, h2, h3⟩ := h.h2
  have ts : Turned w (w.setCell ⟨hm, i, none⟩ (.bool true)) (fun k => k = hm) := Turned.setCell (D := fun k => k = hm) (Turned.refl _ _) (p := ⟨hm, i, none⟩) (fun _ => rfl) _
  have keep : ∀ (k : Nat) (cc : Array Value) (t : TypeId), t ≠ 4 → w.heap[k]? = some (.cells cc t (0, 0)) → (w.setCell ⟨hm, i, none⟩ (.bool true)).heap[k]? = some (.cells cc t (0, 0)) := fun k cc t ht hk =>
    (ts.block k (lt_of_block hk) (fun e => by rw [e, h2] at hk; simp only [Option.some.injEq, Obj.cells.injEq] at hk; exact ht hk.2.1.symm)).trans hk
  have hlo := h.lo
  obtain ⟨n1, n2, n3⟩ := h.ub.ne
  obtain ⟨F, f1, f2⟩ := h.ub.hm
  obtain ⟨es, cc, hb⟩ := f1.block
  have hbm : hm ≠ bm := fun e => by rw [e, hb] at h2; cases h2
  have hgm : g ≠ hm := fun e => by
    obtain ⟨cg, hg, -⟩ := h.ub.hn
    rw [e, h2] at hg
    simp at hg
  refine ⟨⟨⟨h.ub.turned.trans ts (fun k hk e => by omega), keep _ _ _ (by decide) h.ub.hu, h.ub.hn.turned ts hgm ⟨ts.size, fun k cc hk => keep k cc _ (by decide) hk⟩, ⟨F, f1.turned ts (fun e => hbm e.symm), f2⟩, h.ub.lo, h.ub.lo2, h.ub.lo3, h.ub.hl⟩, keep _ _ _ (by decide) h.h1, ⟨_, setCell_block h2 (.bool true), fun j b hj => ?_⟩, keep _ _ _ (by decide) h.h3, keep _ _ _ (by decide) h.h4, keep _ _ _ (by decide) h.h5, h.lo⟩, ts⟩
  have hic : i < c.size := by
    have := h3 i _ (List.getElem?_eq_getElem hi)
    exact (Array.getElem?_eq_some_iff.1 this).1
  by_cases e : j = i
  · subst e
    rw [List.getElem?_set_self hi] at hj
    rw [Array.getElem?_setIfInBounds_self_of_lt hic]
    simp only [Option.some.injEq] at hj
    rw [← hj]
  · rw [List.getElem?_set_ne (fun x => e x.symm)] at hj
    rw [Array.getElem?_setIfInBounds_ne (fun x => e x.symm)]
    exact h3 j b hj

theorem Lk.cells {w0 : World} {bu bm g cap : Nat} {s : Un} {bt bub bv bk hm : Nat} {v : Int} {m : List Bool} {w : World} (h : Lk w0 bu bm g cap s bt bub bv bk hm v m w) :
    w.cell? ⟨bt, 0, none⟩ = some (.slice (some ⟨hm, 0, none⟩) s.nd.length s.nd.length) ∧ bt < w.heap.size ∧ hm < w.heap.size ∧ w.cell? ⟨bub, 0, none⟩ = some (.pointer (some ⟨bu, 0, none⟩)) ∧ bub < w.heap.size ∧ w.cell? ⟨bv, 0, none⟩ = some (.int .i64 v) ∧ bv < w.heap.size ∧
    w.cell? ⟨bk, 0, none⟩ = some (.func (.func 93) #[] #[.pointer (some ⟨bt, 0, none⟩), .pointer (some ⟨bub, 0, none⟩), .pointer (some ⟨bv, 0, none⟩), .pointer (some ⟨bk, 0, none⟩)]) ∧ bk < w.heap.size ∧
    (∀ (i : Nat) (b : Bool), m[i]? = some b → w.cell? ⟨hm, i, none⟩ = some (.bool b)) ∧ (∀ j, w.frozen? ⟨hm, j, none⟩ = false) := by
  obtain ⟨c, h2, h3⟩ := h.h2
  refine ⟨?_, lt_of_block h.h1, lt_of_block h2, ?_, lt_of_block h.h3, ?_, lt_of_block h.h4, ?_, lt_of_block h.h5, fun i b hi => ?_, fun j => ?_⟩
  · simp [World.cell?, h.h1]
  · simp [World.cell?, h.h3]
  · simp [World.cell?, h.h4]
  · simp [World.cell?, h.h5]
  · simp only [World.cell?, h2]; exact h3 i b hi
  · simp [World.frozen?, h2]

theorem run_within1 (bt bub bv bk : Nat) (x : Value) (w : World) : (callFunc 93 (#[x] ++ #[.pointer (some ⟨bt, 0, none⟩), .pointer (some ⟨bub, 0, none⟩), .pointer (some ⟨bv, 0, none⟩), .pointer (some ⟨bk, 0, none⟩)])).run Try.prog w = .ok (.enter 93 (#[x] ++ #[.pointer (some ⟨bt, 0, none⟩), .pointer (some ⟨bub, 0, none⟩), .pointer (some ⟨bv, 0, none⟩), .pointer (some ⟨bk, 0, none⟩)])) w := by kernel_rfl

/-- A box of a node. -/
theorem box6 {w : World} {Z : Nat} {a b c d e f : Value} {t : TypeId} (h : w.heap[Z]? = some (.cells #[a, b, c, d, e, f] t (0, 0))) :
    w.cell? ⟨Z, 0, none⟩ = some a ∧ w.cell? ⟨Z, 1, none⟩ = some b ∧ w.cell? ⟨Z, 2, none⟩ = some c ∧ w.cell? ⟨Z, 3, none⟩ = some d ∧ Z < w.heap.size := by
  refine ⟨?_, ?_, ?_, ?_, lt_of_block h⟩ <;> simp [World.cell?, h]

set_option maxRecDepth 100000 in
set_option maxHeartbeats 3200000 in
theorem within1_any (w0 : World) (bu bm g cap : Nat) (s : Un) (bt bub bv bk hm : Nat) (v : Int) : ∀ (f : Nat) (m m2 : List Bool) (a : Int) (b : Bool) (w : World), Un.look s.nd v f m a = some (m2, b) → Lk w0 bu bm g cap s bt bub bv bk hm v m w → (∀ x ∈ s.nd, x.l.length ≤ 1000000) →
    Calls Try.prog 93 #[.int .i64 a, .pointer (some ⟨bt, 0, none⟩), .pointer (some ⟨bub, 0, none⟩), .pointer (some ⟨bv, 0, none⟩), .pointer (some ⟨bk, 0, none⟩)] w
      fun e w' => e = .returned (.bool b) ∧ Lk w0 bu bm g cap s bt bub bv bk hm v m2 w' ∧ Turned w w' (fun k => k = hm) := by
  intro f
  induction f with
  | zero => intro m m2 a b w h; cases h
  | succ f ih =>
  intro m m2 a b w h hL hlen
  obtain ⟨i, x, rfl, hx, hcase⟩ := Un.look_at h
  have hkl : (i : Int) < (s.nd.length : Int) := by have := (List.getElem?_eq_some_iff.1 hx).1; omega
  obtain ⟨c0, c1, c2, c3, c4, c5, c6, c7, c8, c9, c10⟩ := hL.cells
  rcases hcase with ⟨hm1, rfl, rfl⟩ | ⟨hm1, hcase⟩
  · have d0 := c9 i true hm1
    have HL := Lib.hid hL
    clear hL h ih hx hm1 c9 c10 hlen
    go_enter Try.func93, Try.ntmps93
    go_wp2
    go_ret
    exact ⟨rfl, HL.out, Turned.refl _ _⟩
  have d0 := c9 i false hm1
  have d1 := c10 i
  obtain ⟨s1, s2⟩ := hL.set (i := i) (List.getElem?_eq_some_iff.1 hm1).1
  have hxl := hlen x (List.mem_of_getElem? hx)
  have Ih := Lib.hid ih
  have Hlen := Lib.hid hlen
  have Hcase := Lib.hid hcase
  have S1 := Lib.hid s1
  have S2 := Lib.hid s2
  clear hL h ih hm1 c9 c10 hlen hcase s1 s2
  go_enter Try.func93, Try.ntmps93
  go_upto_region 4 with fail
  clear c0 c1 c2 c3 c4 c5 c6 c7 c8 d0 d1
  have s1 := S1.out
  have s2 := S2.out
  generalize w.setCell ⟨hm, i, none⟩ (.bool true) = V at *
  obtain ⟨c0, c1, c2, c3, c4, c5, c6, c7, c8, -, -⟩ := s1.cells
  obtain ⟨q0, -, -, q1, q2, -, -⟩ := s1.ub.at0
  obtain ⟨q, c, x0, x1, x2, x3, x4, x5, hr⟩ := s1.ub.cells hx
  obtain ⟨U, hU⟩ : ∃ U, U = V.alloc (.cells #[.int .i64 x.k, .int .i64 x.n, .slice q x.l.length c, .int .i64 x.b, .int .i64 x.e1, .int .i64 x.e2] 113) := ⟨_, rfl⟩
  have tU : Turned V U (fun _ => False) := by rw [hU]; exact (Turned.refl _ _).alloc _
  have kU : U.heap[V.heap.size]? = some (.cells #[.int .i64 x.k, .int .i64 x.n, .slice q x.l.length c, .int .i64 x.b, .int .i64 x.e1, .int .i64 x.e2] 113 (0, 0)) := by rw [hU]; exact heap_alloc_new _ _
  have hUl : ∀ Z, Turned U Z (fun k => k = hm) → Z.heap[V.heap.size]? = some (.cells #[.int .i64 x.k, .int .i64 x.n, .slice q x.l.length c, .int .i64 x.b, .int .i64 x.e1, .int .i64 x.e2] 113 (0, 0)) := fun Z hZ => (hZ.block _ (lt_of_block kU) (by omega)).trans kU
  have HUl := Lib.hid hUl
  have SU := Lib.hid (s1.step tU)
  have TU := Lib.hid (s2.trans (tU.mono (E := fun k => k = hm) (fun _ _ hf => hf.elim)) (fun _ _ h => h))
  have HU := Lib.hid hU
  have Hx := Lib.hid hx
  have HX2 := Lib.hid ((tU.cell (p := ⟨g, i * 6 + 2, none⟩) q2 (fun hf => hf)).trans x2)
  clear S1 S2 s1 s2 tU hU hx hr hUl
  go_upto_region 5 with fail
  rw [← HU.out]
  clear c0 c1 c2 c3 c4 c5 c6 c7 c8 q0 q1 q2 x0 x1 x2 x3 x4 x5
  obtain ⟨c0, c1, c2, c3, c4, c5, c6, c7, c8, -, -⟩ := SU.out.cells
  obtain ⟨b0, b1, b2, b3, b4⟩ := box6 kU
  clear kU
  rcases Hcase.out with ⟨hv, rfl, rfl⟩ | ⟨hv, m3, b3', hq, hrest⟩
  · have e1 : ((i : Int) == v) = true := by simpa using hv
    clear Hcase
    go_wp2
    go_ret
    exact ⟨rfl, SU.out, TU.out⟩
  have e1 : ((i : Int) == v) = false := by simpa using hv
  have hrunq := run_within1 bt bub bv bk
  -- the elements, behind what the variable became
  have htail : b3' = false → ∀ Z, Lk w0 bu bm g cap s bt bub bv bk hm v m3 Z → Turned U Z (fun k => k = hm) → Calls Try.prog 94 #[.slice q x.l.length c, .func (.func 93) #[] #[.pointer (some ⟨bt, 0, none⟩), .pointer (some ⟨bub, 0, none⟩), .pointer (some ⟨bv, 0, none⟩), .pointer (some ⟨bk, 0, none⟩)]] Z
      fun e w' => e = .returned (.bool b) ∧ Lk w0 bu bm g cap s bt bub bv bk hm v m2 w' ∧ Turned U w' (fun k => k = hm) := by
    intro hb Z hZ tZ
    rcases hrest with ⟨h1, -⟩ | ⟨-, h1⟩
    · rw [hb] at h1; cases h1
    · have hrow : ∀ (m' : List Bool) (w' : World), (Lk w0 bu bm g cap s bt bub bv bk hm v m' w' ∧ Turned U w' (fun k => k = hm)) → RowB w' (.slice q x.l.length c) x.l := by
        rintro m' w' ⟨h2, h3⟩
        obtain ⟨q', c', y0, y1, y2, y3, y4, y5, hr'⟩ := h2.ub.cells Hx.out
        obtain ⟨q2', c2', z0, z1, z2, z3, z4, z5, hr2⟩ := SU.out.ub.cells Hx.out
        obtain ⟨cg, hg, -⟩ := SU.out.ub.hn
        have hgm : ¬ g = hm := fun e => by
          obtain ⟨c', hc', -⟩ := SU.out.h2
          rw [e, hc'] at hg
          simp at hg
        have h4 := (h3.cell (p := ⟨g, i * 6 + 2, none⟩) (lt_of_block hg) hgm).trans z2
        rw [y2] at h4
        simp only [Option.some.injEq, Value.slice.injEq, true_and] at h4
        obtain ⟨rfl, rfl⟩ := h4
        have h5 : U.cell? ⟨g, i * 6 + 2, none⟩ = some (.slice q x.l.length c) := by
          exact HX2.out
        rw [z2] at h5
        simp only [Option.some.injEq, Value.slice.injEq, true_and] at h5
        obtain ⟨rfl, rfl⟩ := h5
        exact hr'
      refine (containsFunc_any _ _ (fun m' w' => Lk w0 bu bm g cap s bt bub bv bk hm v m' w' ∧ Turned U w' (fun k => k = hm)) (Un.look s.nd v f) _ x.l hxl hrunq hrow ?_ m3 m2 b Z h1 ⟨hZ, tZ⟩)
      rintro m' a' m2' b' w' hl ⟨h2, h3⟩
      refine (Ih.out m' m2' a' b' w' hl h2 Hlen.out).mono ?_
      rintro e w'' ⟨rfl, h4, h5⟩
      exact ⟨rfl, h4, h3.trans h5 (fun _ _ h => h)⟩
  have Htail := Lib.hid htail
  clear htail Hcase hv
  by_cases hb : 0 ≤ x.b
  · rw [if_pos hb] at hq
    have Hc := Lib.hid (Ih.out _ _ _ _ U hq SU.out Hlen.out)
    clear hq Ih
    go_wp2_with fail
    refine Hc.out.mono ?_
    rintro e w1 ⟨rfl, h1, h2⟩
    obtain ⟨c0, c1, c2, c3, c4, c5, c6, c7, c8, -, -⟩ := h1.cells
    obtain ⟨b0, b1, b2, b3, b4⟩ := box6 (HUl.out w1 h2)
    have H1 := Lib.hid h1
    have H2 := Lib.hid h2
    have Ht := Lib.hid (fun h => Htail.out h w1 h1 h2)
    clear h1 h2 Htail
    cases b3'
    · have Ht2 := Lib.hid (Ht.out rfl)
      clear Ht
      go_wp2_with fail
      refine Ht2.out.mono ?_
      rintro e w2 ⟨rfl, h1, h2⟩
      have H3 := Lib.hid h1
      have H4 := Lib.hid (TU.out.trans h2 (fun _ _ h => h))
      clear h1 h2
      go_wp2
      go_ret
      exact ⟨rfl, H3.out, H4.out⟩
    · obtain ⟨-, rfl, rfl⟩ : true = true ∧ m2 = m3 ∧ b = true := by
        rcases hrest with h | ⟨h, -⟩
        · exact h
        · cases h
      clear Ht
      have H4 := Lib.hid (TU.out.trans H2.out (fun _ _ h => h))
      go_wp2
      go_ret
      exact ⟨rfl, H1.out, H4.out⟩
  · rw [if_neg hb] at hq
    simp only [Option.some.injEq, Prod.mk.injEq] at hq
    obtain ⟨rfl, rfl⟩ := hq
    have Ht := Lib.hid (Htail.out rfl U SU.out (Turned.refl _ _))
    clear Htail
    go_wp2_with fail
    refine Ht.out.mono ?_
    rintro e w1 ⟨rfl, h1, h2⟩
    have H1 := Lib.hid h1
    have H2 := Lib.hid (TU.out.trans h2 (fun _ _ h => h))
    clear h1 h2
    go_wp2
    go_ret
    exact ⟨rfl, H1.out, H2.out⟩
end Go.Proofs.Ytljnmjehokijgaa

/- within. -/
namespace Go.Proofs.Ytljnmjehokijgaa
open Go.RowKit

theorem Try.infoBool : (Try.prog.info? 4).map (fun i => (i.zero, i.size, i.bytes)) = some (some (.bool false), 1, 1) := by kernel_rfl

theorem run_makeBools (n : Nat) (hn : n ≤ 1000000) (w : World) : (Instr.makeSlice 126 (.int .i64 (n : Int)) (.int .i64 (n : Int))).run Try.prog w = .ok (.slice (some ⟨w.heap.size, 0, none⟩) n n) (w.alloc (.cells (madeCells #[.bool false] n) 4)) := by
  obtain ⟨i0, hi0, hz0, hz1, hz2⟩ := info_parts Try.infoBool
  have h := run_make (P := Try.prog) w 126 4 i0 _ Try.underlying126 hi0 hz0 .i64 .i64 (n : Int) (n : Int) (by omega) (Int.le_refl _) (by rw [hz2]; omega) (by omega)
  simpa [hz1, Value.cells] using h

theorem madeB_at (n j : Nat) (hj : j < n) : (madeCells #[.bool false] n)[j]? = some (.bool false) := by
  simp [madeCells, hj, Nat.mod_one]

set_option maxRecDepth 100000 in
set_option maxHeartbeats 3200000 in
theorem within_any (w0 : World) (bu bm g cap : Nat) (s : Un) (w : World) (hU : UnB w0 bu bm g cap s w) (hlen : ∀ x ∈ s.nd, x.l.length ≤ 1000000) (F : Nat) (v a : Int) (m2 : List Bool) (b : Bool) (h : Un.look s.nd v F (List.replicate s.nd.length false) a = some (m2, b)) :
    Calls Try.prog 85 #[.pointer (some ⟨bu, 0, none⟩), .int .i64 v, .int .i64 a] w fun e w' => e = .returned (.bool b) ∧ Turned w w' (fun _ => False) := by
  obtain ⟨W, hW⟩ : ∃ W, W = (w.alloc (.cells #[.pointer (some ⟨bu, 0, none⟩)] 111)).alloc (.cells #[.int .i64 v] 3) := ⟨_, rfl⟩
  have tW : Turned w W (fun _ => False) := by rw [hW]; exact ((Turned.refl _ _).alloc _).alloc _
  have hWs : W.heap.size = w.heap.size + 2 := by rw [hW]; simp
  have hUW := hU.step tW
  obtain ⟨q0, -, -, q1, q2, -, -⟩ := hUW.at0
  have k0 : W.heap[w.heap.size]? = some (.cells #[.pointer (some ⟨bu, 0, none⟩)] 111 (0, 0)) := by rw [hW]; exact alloc_keep (heap_alloc_new _ _)
  have k1 : W.heap[w.heap.size + 1]? = some (.cells #[.int .i64 v] 3 (0, 0)) := by rw [hW]; exact alloc_at (by simp)
  have p0 : W.cell? ⟨w.heap.size, 0, none⟩ = some (.pointer (some ⟨bu, 0, none⟩)) := by simp [World.cell?, k0]
  have p1 := lt_of_block k0
  have hmk := run_makeBools s.nd.length hU.hl W
  have hmf : ∀ (fn : Fn) (first cap : Array Value) (w : World), (Instr.makeFunc fn first cap).run Try.prog w = .ok (.func fn first cap) w := fun _ _ _ _ => rfl
  have hl := hU.hl
  have hall : ∀ V, V = ((W.alloc (.cells (madeCells #[.bool false] s.nd.length) 4)).alloc (.cells #[.slice (some ⟨w.heap.size + 2, 0, none⟩) s.nd.length s.nd.length] 126)).alloc
      (.cells #[.func (.func 93) #[] #[.pointer (some ⟨w.heap.size + 2 + 1, 0, none⟩), .pointer (some ⟨w.heap.size, 0, none⟩), .pointer (some ⟨w.heap.size + 1, 0, none⟩), .pointer (some ⟨w.heap.size + 2 + 1 + 1, 0, none⟩)]] 107) →
      Lk w0 bu bm g cap s (w.heap.size + 2 + 1) w.heap.size (w.heap.size + 1) (w.heap.size + 2 + 1 + 1) (w.heap.size + 2) v (List.replicate s.nd.length false) V ∧ Turned w V (fun _ => False) := fun V hV => by
    obtain ⟨a2, a3, a4, tV, -⟩ := alloc3 hV
    rw [hWs] at a2 a3 a4
    refine ⟨⟨hUW.step tV, a3, ⟨_, a2, fun i b hi => ?_⟩, turn_keep tV k0, turn_keep tV k1, a4, by have := hU.turned.size; omega⟩, tW.trans tV (fun _ _ hf => hf)⟩
    obtain ⟨h1, h2⟩ := List.getElem?_eq_some_iff.1 hi
    rw [List.length_replicate] at h1
    simp only [List.getElem_replicate] at h2
    subst h2
    exact madeB_at _ _ h1
  have Hcall := Lib.hid (fun V hV => within1_any w0 bu bm g cap s (w.heap.size + 2 + 1) w.heap.size (w.heap.size + 1) (w.heap.size + 2 + 1 + 1) (w.heap.size + 2) v F _ m2 a b V h (hall V hV).1 hlen)
  have Hall := Lib.hid hall
  have HW := Lib.hid hW
  have hrunq := run_within1 (w.heap.size + 2 + 1) w.heap.size (w.heap.size + 1) (w.heap.size + 2 + 1 + 1) (.int .i64 a)
  clear hall hW tW k0 k1 hU hUW hlen h
  go_enter Try.func85, Try.ntmps85
  go_upto_region 1 with fail
  rw [← HW.out]
  go_upto_region 4 with fail
  obtain ⟨V, hV⟩ : ∃ V, V = ((W.alloc (.cells (madeCells #[.bool false] s.nd.length) 4)).alloc (.cells #[.slice (some ⟨w.heap.size + 2, 0, none⟩) s.nd.length s.nd.length] 126)).alloc
      (.cells #[.func (.func 93) #[] #[.pointer (some ⟨w.heap.size + 2 + 1, 0, none⟩), .pointer (some ⟨w.heap.size, 0, none⟩), .pointer (some ⟨w.heap.size + 1, 0, none⟩), .pointer (some ⟨w.heap.size + 2 + 1 + 1, 0, none⟩)]] 107) := ⟨_, rfl⟩
  rw [← hV]
  obtain ⟨hL, tV⟩ := Hall.out V hV
  have Hc := Lib.hid (Hcall.out V hV)
  obtain ⟨-, -, -, -, -, -, -, c7, c8, -, -⟩ := hL.cells
  have TV := Lib.hid tV
  clear hL tV hV Hall Hcall q0 q1 q2 p0 p1 hmk hmf
  go_wp2_with fail
  refine Hc.out.mono ?_
  rintro e w1 ⟨rfl, -, t1⟩
  have T1 := Lib.hid (TV.out.trans t1 (fun i hi e => by omega))
  clear t1
  go_wp2
  go_ret
  exact ⟨rfl, T1.out⟩
end Go.Proofs.Ytljnmjehokijgaa
