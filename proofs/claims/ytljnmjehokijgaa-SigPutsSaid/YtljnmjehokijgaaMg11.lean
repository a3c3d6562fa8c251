/- Parts of the proof, one behind the other. -/
import Derived.Laws.CopyRow
import Derived.Test.YtljnmjehokijgaaMg10

/- slices.Repeat of one number. -/
namespace Go.Proofs.Ytljnmjehokijgaa
open Go.RowKit

theorem run_makeInts (n : Nat) (hn : n ≤ 1000000) (w : World) : (Instr.makeSlice 37 (.int .i64 (n : Int)) (.int .i64 (n : Int))).run Try.prog w = .ok (.slice (some ⟨w.heap.size, 0, none⟩) n n) (w.alloc (.cells (Array.replicate n (Value.int .i64 0)) 3)) := by
  obtain ⟨i0, hi0, hz0, hz1, hz2⟩ := info_parts Try.infoInt
  have h := run_make (P := Try.prog) w 37 3 i0 _ Try.underlying37 hi0 hz0 .i64 .i64 (n : Int) (n : Int) (by omega) (Int.le_refl _) (by rw [hz2]; omega) (by omega)
  have h2 : madeCells (Value.cells (.int .i64 0)) n = Array.replicate n (Value.int .i64 0) := by
    apply Array.ext
    · simp [madeCells, Value.cells]
    · intro i h1 h2
      simp [madeCells, Value.cells, Nat.mod_one]
  simpa [hz1, h2] using h

/-- A row, filled so far. -/
def repRow (x : Int) (n k : Nat) : List Value := List.replicate k (.int .i64 x) ++ List.replicate (n - k) (.int .i64 0)

theorem repRow_next (x : Int) (n k c : Nat) (hc : k + c ≤ n) : (repRow x n k).take k ++ List.replicate c (.int .i64 x) ++ (repRow x n k).drop (k + c) = repRow x n (k + c) := by
  unfold repRow
  rw [List.take_left' (by simp)]
  rw [List.drop_append]
  simp only [List.length_replicate]
  rw [List.drop_of_length_le (by simp), List.nil_append, List.drop_replicate, List.replicate_append_replicate]
  congr 2
  omega

theorem run_rep (x : Int) (n k : Nat) (ty : TypeId) (w : World) (H : Nat) (a : Addr) (sLen sCap c : Nat) (hg : w.heap[H]? = some (.cells (repRow x n k).toArray 3 (0, 0))) (hk : k ≤ n) (hc : c = Nat.min sLen (n - k))
    (hs : ∀ j, j < c → w.cell? (a.add j) = some (.int .i64 x)) :
    (Builtin.copy_ #[37, 37] ty #[.slice (some ⟨H, k, none⟩) (n - k) (n - k), .slice (some a) sLen sCap]).run Try.prog w = .ok (goInt c) (w.setRow H (repRow x n (k + c)).toArray) := by
  obtain ⟨i0, hi0, hz0, hz1, hz2⟩ := info_parts Try.infoInt
  have hcn : k + c ≤ n := by have : c ≤ n - k := (by rw [hc]; exact Nat.min_le_right _ _); omega
  have h := run_copy_row (P := Try.prog) w 37 37 ty 3 H k (n - k) (n - k) a sLen sCap _ 3 (List.replicate c (.int .i64 x)) Try.underlying37 (by rw [hi0]; simp [hz1]) hg (by simpa using hc)
    (fun j v hj => by
      rw [List.getElem?_replicate] at hj
      split at hj
      · next hjc => cases hj; exact hs j hjc
      · cases hj) (by simp [repRow]; omega) (fun v hv => by rw [List.eq_of_mem_replicate hv]; rfl)
  simp only [List.length_replicate] at h
  rw [repRow_next x n k c hcn] at h
  exact h

/-- A row of n times one number is given. -/
def RepP (w : World) (x : Int) (n : Nat) (e : Ending) (w' : World) : Prop := ∃ H, e = .returned (.slice (some ⟨H, 0, none⟩) n n) ∧ w'.heap[H]? = some (.cells (List.replicate n (Value.int .i64 x)).toArray 3 (0, 0)) ∧ w.heap.size ≤ H ∧ Turned w w' (fun _ => False)

theorem turned_setRow (w : World) (H : Nat) (cs : Array Value) : Turned w (w.setRow H cs) (fun k => k = H) :=
  ⟨rfl, rfl, rfl, by simp, fun k _ hn => setRow_other w H k cs hn⟩

theorem repRow_at (x : Int) (n k j : Nat) (hj : j < k) : (repRow x n k).toArray[j]? = some (.int .i64 x) := by
  unfold repRow
  simp only [List.getElem?_toArray]
  rw [List.getElem?_append_left (by simpa using hj)]
  simp [hj]

theorem repRow_full (x : Int) (n : Nat) : (repRow x n n).toArray = (List.replicate n (Value.int .i64 x)).toArray := by
  unfold repRow
  simp

set_option maxRecDepth 100000 in
set_option maxHeartbeats 1600000 in
theorem repeat_one (x : Int) (n : Nat) (hn : n ≤ 1000000) (b cap : Nat) (w : World) (hx : w.cell? ⟨b, 0, none⟩ = some (.int .i64 x)) (hb : b < w.heap.size) :
    Calls Try.prog 74 #[.slice (some ⟨b, 0, none⟩) 1 cap, .int .i64 n] w (RepP w x n) := by
  have hmk := run_makeInts n hn w
  have Hm := Lib.hid (mul_one' n (by omega) w)
  have hw1 : IntKind.u64.wrap (n : Int) = n := u64_small n (by omega)
  have hw2 : IntKind.i64.wrap (n : Int) = n := IntWalk.i64_in _ (by omega)
  have hg : (n : Int) ≤ 9223372036854775807 := by omega
  have hn0 : ¬ (n : Int) < 0 := by omega
  obtain ⟨W, hW⟩ : ∃ W, W = w.alloc (.cells (Array.replicate n (Value.int .i64 0)) 3) := ⟨_, rfl⟩
  have hk0 : W.heap[w.heap.size]? = some (.cells (repRow x n 0).toArray 3 (0, 0)) := by rw [hW]; simpa [repRow] using heap_alloc_new _ _
  have tW : Turned w W (fun _ => False) := by rw [hW]; exact (Turned.refl _ _).alloc _
  have hxW := (tW.cell (p := ⟨b, 0, none⟩) hb (fun hf => hf)).trans hx
  obtain ⟨c, hc⟩ : ∃ c, c = Nat.min 1 (n - 0) := ⟨_, rfl⟩
  have hc1 : c ≤ 1 := by rw [hc]; exact Nat.min_le_left _ _
  have hcp := fun ty => run_rep x n 0 ty W w.heap.size ⟨b, 0, none⟩ 1 cap c hk0 (Nat.zero_le _) hc (fun j hj => by obtain rfl : j = 0 := (by omega); exact hxW)
  simp only [goInt, Nat.sub_zero] at hcp
  have HW := Lib.hid hW
  have TW := Lib.hid tW
  have Hk0 := Lib.hid hk0
  clear hx hxW hk0 tW hW
  go_enter Try.func74, Try.ntmps74
  go_wp2_with fail
  refine Hm.out.mono ?_
  rintro e w1 ⟨rfl, rfl⟩
  go_upto_region 7 with fail
  rw [← HW.out]
  have Hc1 := Lib.hid hc1
  have Hcm := Lib.hid hc
  have Hk1 := Lib.hid (setRow_heap W w.heap.size _ (repRow x n (0 + c)).toArray _ _ Hk0.out)
  have T1 := Lib.hid (TW.out.trans (turned_setRow W w.heap.size (repRow x n (0 + c)).toArray) (fun i hi e => by omega))
  clear hc1 hc
  go_wp2
  go_loopw [8] (fun i wr => ∃ k : Nat, k ≤ n ∧ (0 < n → 0 < k) ∧ i = .int .i64 k ∧ wr.heap[w.heap.size]? = some (.cells (repRow x n k).toArray 3 (0, 0)) ∧ Turned w wr (fun _ => False)) (fun i _ => n - (intOf i).toNat)
  case atStart => exact ⟨c, by have := Hcm.out; rw [this]; exact Nat.min_le_right _ _, fun h => by have := Hcm.out; rw [this]; simp only [Nat.min_def]; split <;> omega, by simp, by have := Hk1.out; simpa using this, by simpa using T1.out⟩
  case round =>
    obtain ⟨k, hk, hk1, rfl, hrow, ht⟩ := hrel
    by_cases hlt : k < n
    · have hki : (k : Int) < (n : Int) := by omega
      have hki2 : (k : Int) ≤ (n : Int) := by omega
      obtain ⟨c2, hc2⟩ : ∃ c2, c2 = Nat.min k (n - k) := ⟨_, rfl⟩
      have hc3 : c2 ≤ n - k := by rw [hc2]; exact Nat.min_le_right _ _
      have hc4 : c2 ≤ k := by rw [hc2]; exact Nat.min_le_left _ _
      have hc5 : 0 < c2 := by have := hk1 (by omega); rw [hc2]; simp only [Nat.min_def]; split <;> omega
      have hcp2 := fun ty => run_rep x n k ty wr.drew w.heap.size ⟨w.heap.size, 0, none⟩ k n c2 hrow hk hc2 (fun j hj => by
        have h1 : (⟨w.heap.size, 0, none⟩ : Addr).add j = ⟨w.heap.size, j, none⟩ := by unfold Addr.add; split <;> simp_all
        rw [h1]
        show wr.cell? _ = _
        simp only [World.cell?, hrow]
        exact repRow_at x n k j (by omega))
      simp only [goInt] at hcp2
      have hsum : IntKind.i64.wrap ((k : Int) + (c2 : Int)) = ((k + c2 : Nat) : Int) := by rw [IntWalk.i64_in _ (by omega)]; omega
      have Hrow2 := Lib.hid (setRow_heap wr.drew w.heap.size _ (repRow x n (k + c2)).toArray _ _ hrow)
      have T2 := Lib.hid ((ht.drew).trans (turned_setRow wr.drew w.heap.size (repRow x n (k + c2)).toArray) (fun i hi e => by omega))
      have Hc3 := Lib.hid hc3
      have Hc5 := Lib.hid hc5
      clear hrow ht hc2 hc3 hc4 hc5 hk1 hcp
      go_upto_region 9 with fail
      go_region
      all_goals
        go_wp2
        go_roundw
        case rel => exact ⟨k + c2, by have := Hc3.out; omega, fun _ => by have := Hc5.out; omega, by go_num, Hrow2.out, T2.out⟩
        case measure => have h1 := Hc3.out; have h2 := Hc5.out; simp [intOf]; omega
    · obtain rfl : k = n := by omega
      have Hfin := Lib.hid (show RepP w x k (.returned (.slice (some ⟨w.heap.size, 0, none⟩) k k)) wr from ⟨_, rfl, by rw [← repRow_full]; exact hrow, Nat.le_refl _, ht⟩)
      clear hrow ht hk1
      go_wp2
      go_ret
      exact Hfin.out
end Go.Proofs.Ytljnmjehokijgaa

/- Infer's function value. -/
namespace Go.Proofs.Ytljnmjehokijgaa
open Go.RowKit
open Go.Maps (Keyed)

/-- The sorts that were found for variables. -/
structure Srt where
  f : Int → Option Int
  n : Nat

def Srt.none_ : Srt := ⟨fun _ => none, 0⟩
def Srt.put (s : Srt) (x k : Int) : Srt := ⟨fun y => if y = x then some k else s.f y, s.n + 1⟩
/-- A variable is admitted where it has no other sort. -/
def inferF (s : Srt) (x k : Int) : Srt × Bool := (s.put x k, match s.f x with | none => true | some u => decide (u = k))

mutual
theorem Tm.fitsT_dom (ops : List OpD) : ∀ (t : Tm) (k : Int) (s : Srt) (x : Int), (t.fitsT inferF ops k s).1.f x ≠ none → s.f x ≠ none ∨ t.vin x
  | .node kd n l, k, s, x, h => by
    simp only [Tm.fitsT] at h
    by_cases hk : kd = 1
    · rw [if_pos hk] at h
      simp only [inferF, Srt.put] at h
      by_cases hx : x = n
      · right; simp [Tm.vin, hk, hx]
      · rw [if_neg hx] at h; exact .inl h
    · rw [if_neg hk] at h
      split at h
      · exact .inl h
      · split at h
        · exact .inl h
        · rename_i o _ _
          rcases Tm.fitsTs_dom ops l o.args s x h with h3 | h3
          · exact .inl h3
          · right; simp only [Tm.vin]; rw [if_neg hk]; exact h3
theorem Tm.fitsTs_dom (ops : List OpD) : ∀ (l : List Tm) (ar : List Int) (s : Srt) (x : Int), (Tm.fitsTs inferF ops l ar s).1.f x ≠ none → s.f x ≠ none ∨ Tm.vins x l
  | [], _, s, x, h => .inl (by simpa [Tm.fitsTs] using h)
  | _ :: _, [], s, x, h => .inl (by simpa [Tm.fitsTs] using h)
  | t :: l, a :: ar, s, x, h => by
    simp only [Tm.fitsTs] at h
    split at h
    · rcases Tm.fitsTs_dom ops l ar _ x h with h3 | h3
      · rcases Tm.fitsT_dom ops t a s x h3 with h4 | h4
        · exact .inl h4
        · exact .inr (.inl h4)
      · exact .inr (.inr h3)
    · rcases Tm.fitsT_dom ops t a s x h with h4 | h4
      · exact .inl h4
      · exact .inr (.inl h4)
end

/-- The map of sorts in memory, and the box that the function value holds. -/
structure Inf (w1 : World) (b bx : Nat) (s : Srt) (w : World) : Prop where
  turned : Turned w1 w (fun i => i = b)
  box : w1.heap[bx]? = some (.cells #[.map (some b)] 88 (0, 0))
  was : ∃ es c, w1.heap[b]? = some (.map es c)
  hf : ∃ F, MapV w 3 b s.n F ∧ ∀ x : Int, F (.int .i64 x) = (s.f x).map (Value.int .i64)

theorem Inf.boxed {w1 : World} {b bx : Nat} {s : Srt} {w : World} (h : Inf w1 b bx s w) : w.heap[bx]? = some (.cells #[.map (some b)] 88 (0, 0)) := by
  obtain ⟨es, c, hb⟩ := h.was
  have h1 := h.box
  exact (h.turned.block _ (lt_of_block h1) (fun e => by rw [e, hb] at h1; cases h1)).trans h1

theorem Inf.step {w1 : World} {b bx : Nat} {s : Srt} {w w' : World} (h : Inf w1 b bx s w) (t : Turned w w' (fun _ => False)) : Inf w1 b bx s w' := by
  obtain ⟨F, h1, h2⟩ := h.hf
  exact ⟨h.turned.trans t (fun _ _ hf => hf.elim), h.box, h.was, ⟨F, h1.turned t (fun hf => hf), h2⟩⟩

theorem run_infer1 (x y : Value) (bv : Nat) (w : World) : (callFunc 73 (#[x, y] ++ #[.pointer (some ⟨bv, 0, none⟩)])).run Try.prog w = .ok (.enter 73 (#[x, y] ++ #[.pointer (some ⟨bv, 0, none⟩)])) w := by kernel_rfl

set_option maxRecDepth 100000 in
set_option maxHeartbeats 1600000 in
theorem infer1_any (w1 : World) (b bx : Nat) (s : Srt) (x k : Int) (w : World) (hI : Inf w1 b bx s w) (hx : 0 ≤ x ∧ x ≤ 1000000) (hs : s.n ≤ 1000000) :
    Calls Try.prog 73 #[.int .i64 x, .int .i64 k, .pointer (some ⟨bx, 0, none⟩)] w fun e w' => e = .returned (.bool (inferF s x k).2) ∧ Inf w1 b bx (inferF s x k).1 w' ∧ KeepsC w w' := by
  obtain ⟨F, h1, h2⟩ := hI.hf
  have hbx := hI.boxed
  have q0 : w.cell? ⟨bx, 0, none⟩ = some (.map (some b)) := by simp [World.cell?, hbx]
  have q1 := lt_of_block hbx
  have hlk := h1.look_ok (t := 88) (e := 3) intKeyed (by kernel_rfl) (zero_int w) (intKey (n := x) (by omega))
  obtain ⟨w2, hput, hM2, t2⟩ := h1.put (v := .int .i64 k) (t := 88) (e := 3) intKeyed (by kernel_rfl) (by unfold maxLen; omega) (intKey (n := x) (by omega))
  have Hfin := Lib.hid (show Inf w1 b bx (inferF s x k).1 w2 ∧ KeepsC w w2 from by
    refine ⟨⟨hI.turned.trans t2 (fun _ _ h => h), hI.box, hI.was, ⟨_, hM2, fun y => ?_⟩⟩, t2.size, fun j c t z hk => ?_⟩
    · simp only [putF, Lit.sameKey, true_and, decide_eq_true_eq, inferF, Srt.put]
      by_cases hy : y = x
      · rw [if_pos hy, if_pos hy]; rfl
      · rw [if_neg hy, if_neg hy]; exact h2 y
    · refine (t2.block j (lt_of_block hk) (fun e => ?_)).trans hk
      obtain ⟨es, cc, hb⟩ := h1.block
      rw [e, hb] at hk
      cases hk)
  have hq2 : (inferF s x k).2 = match s.f x with | none => true | some u => decide (u = k) := rfl
  have r0 : w2.heap[bx]? = some (.cells #[.map (some b)] 88 (0, 0)) := (Hfin.out.1).boxed
  rw [h2 x] at hlk
  clear hM2 t2 h1 h2 hI hbx
  generalize (inferF s x k).2 = r at *
  generalize (inferF s x k).1 = s' at *
  cases hf : s.f x with
  | none =>
    rw [hf] at hlk hq2
    have Hq := Lib.hid hq2
    simp only [Option.map_none, Option.getD_none, Option.isSome_none] at hlk
    clear hq2 hf r0
    go_enter Try.func73, Try.ntmps73
    go_wp2
    go_ret
    rw [Hq.out]
    exact ⟨rfl, Hfin.out⟩
  | some u =>
    rw [hf] at hlk hq2
    have Hq := Lib.hid hq2
    simp only [Option.map_some, Option.getD_some, Option.isSome_some] at hlk
    clear hq2 hf r0
    by_cases hu : u = k
    · subst hu
      go_enter Try.func73, Try.ntmps73
      go_wp2
      go_ret
      rw [Hq.out]
      simp only [decide_true]
      exact ⟨rfl, Hfin.out⟩
    · have e1 : (u == k) = false := by simpa using hu
      have Hu := Lib.hid hu
      clear hu
      go_enter Try.func73, Try.ntmps73
      go_wp2
      go_ret
      rw [Hq.out]
      show _ = Ending.returned (.bool (decide (u = k))) ∧ _
      rw [decide_eq_false Hu.out]
      exact ⟨rfl, Hfin.out⟩

theorem admits_infer (w0 w1 : World) (h01 : Turned w0 w1 (fun _ => False)) (b bx : Nat) (hb : w0.heap.size ≤ b) :
    Admits w0 73 #[.pointer (some ⟨bx, 0, none⟩)] inferF (fun s w => Inf w1 b bx s w) (fun s n => s.n + n ≤ 1000000) (fun x => 0 ≤ x ∧ x ≤ 1000000) where
  run := fun x y w => run_infer1 x y bx w
  old := fun _ _ h => h01.trans h.turned (fun i hi e => by omega)
  step := fun _ _ _ h t => h.step t
  less := fun _ _ _ h1 h2 => by omega
  next := fun s x k n h => by simp only [inferF, Srt.put]; omega
  call := fun s n x k w hq hx hw => infer1_any w1 b bx s x k w hw hx (by omega)
end Go.Proofs.Ytljnmjehokijgaa

/- Infer. -/
namespace Go.Proofs.Ytljnmjehokijgaa
open Go.RowKit
open Go.Maps (Keyed)

/-- What Infer answers. -/
def inferT (ce : Int) (ss : List (List UInt8)) (ops : List OpD) (l : List Tm) (sorts : List Int) : List Int × Int :=
  if ce ≠ 0 then ([], ce) else if l.length ≠ sorts.length ∨ sorts.all (belowB ss.length) = false then ([], 1) else
  if l.all Tm.isTree = false ∨ 4000 ≤ topOf l then ([], 4) else
    if (Tm.fitsTs inferF ops l sorts Srt.none_).2 = false then ([], 4) else
      ((List.range (topOf l + 1).toNat).map (fun (i : Nat) => ((Tm.fitsTs inferF ops l sorts Srt.none_).1.f (i : Int)).getD (-1)), 0)

/-- A row of numbers and an error are given. -/
def IntsBe (X : List Int × Int) (w : World) (e : Ending) (w' : World) : Prop := ∃ v, e = .returned (.tuple #[v, .int .i64 X.2]) ∧ RowI w' v X.1 ∧ Turned w w' (fun _ => False)

theorem intsBe_nil (w w' : World) (er : Int) (t : Turned w w' (fun _ => False)) : IntsBe ([], er) w (.returned (.tuple #[.slice none 0 0, .int .i64 er])) w' :=
  ⟨_, rfl, ⟨none, 0, rfl, by unfold maxLen; simp, fun h => absurd rfl h⟩, t⟩

/-- A row of numbers that is written anywhere. -/
def RowG (w : World) (H m : Nat) (g : Nat → Int) : Prop := ∃ c : Array Value, w.heap[H]? = some (.cells c 3 (0, 0)) ∧ c.size = m ∧ ∀ i, i < m → c[i]? = some (.int .i64 (g i))

theorem RowG.turned {w w' : World} {H m : Nat} {D : Nat → Prop} {g : Nat → Int} (h : RowG w H m g) (t : Turned w w' D) (hH : ¬ D H) : RowG w' H m g := by
  obtain ⟨c, h1, h2, h3⟩ := h
  exact ⟨c, (t.block H (lt_of_block h1) hH).trans h1, h2, h3⟩

theorem RowG.congr {w : World} {H m : Nat} {g g' : Nat → Int} (h : RowG w H m g) (hg : ∀ j, j < m → g j = g' j) : RowG w H m g' := by
  obtain ⟨c, h1, h2, h3⟩ := h
  exact ⟨c, h1, h2, fun i hi => by rw [← hg i hi]; exact h3 i hi⟩

theorem RowG.put {w : World} {H m : Nat} {g : Nat → Int} (h : RowG w H m g) (i : Nat) (x : Int) (hi : i < m) : RowG (w.setCell ⟨H, i, none⟩ (.int .i64 x)) H m (fun j => if j = i then x else g j) := by
  obtain ⟨c, h1, h2, h3⟩ := h
  refine ⟨_, setCell_block h1 _, by simp [h2], fun j hj => ?_⟩
  by_cases hji : j = i
  · subst hji
    simp only [if_pos]
    rw [Array.getElem?_setIfInBounds_self_of_lt (by omega)]
  · simp only [if_neg hji]
    rw [Array.getElem?_setIfInBounds_ne (by omega)]
    exact h3 j hj

theorem RowG.cells {w : World} {H m : Nat} {g : Nat → Int} (h : RowG w H m g) (i : Nat) (hi : i < m) : w.cell? ⟨H, i, none⟩ = some (.int .i64 (g i)) ∧ w.frozen? ⟨H, i, none⟩ = false ∧ H < w.heap.size := by
  obtain ⟨c, h1, h2, h3⟩ := h
  refine ⟨?_, ?_, lt_of_block h1⟩
  · simp only [World.cell?, h1]; exact h3 i hi
  · simp [World.frozen?, h1]

theorem RowG.rows {w : World} {H m cap : Nat} {g : Nat → Int} (h : RowG w H m g) (hm : m ≤ maxLen) : RowI w (.slice (some ⟨H, 0, none⟩) m cap) ((List.range m).map g) := by
  obtain ⟨c, h1, h2, h3⟩ := h
  refine ⟨_, cap, by simp, by simpa using hm, fun _ => ⟨H, 0, rfl, lt_of_block h1, fun j x hj => ?_⟩⟩
  have hjm : j < m := by
    have := (List.getElem?_eq_some_iff.1 hj).1
    simpa using this
  simp only [List.getElem?_map, List.getElem?_range hjm, Option.map_some, Option.some.injEq] at hj
  simp only [World.cell?, h1, Nat.zero_add]
  rw [h3 j hjm, hj]
  rfl

theorem Tm.sizes_take_drop (l : List Tm) (k : Nat) (hk : k < l.length) : Tm.sizes (l.drop k) = (l[k]).size + Tm.sizes (l.drop (k + 1)) := by
  rw [List.drop_eq_getElem_cons hk]
  simp [Tm.sizes]

theorem allTree_rights {la : List Tm} (h : la.all Tm.isTree = true) : Tm.rights la = true := by
  rw [Tm.rights_all, List.all_eq_true]
  exact fun t ht => ((Tm.isTree_iff t).1 (List.all_eq_true.1 h t ht)).2.2

theorem Tm.vins_some {x : Int} : ∀ {l : List Tm}, Tm.vins x l → ∃ t ∈ l, t.vin x
  | [], h => h.elim
  | t :: l, h => by
    rcases h with h | h
    · exact ⟨t, .head _, h⟩
    · obtain ⟨u, hu, hx⟩ := Tm.vins_some h
      exact ⟨u, .tail _ hu, hx⟩

theorem RowG.replicate {w : World} {H n : Nat} {x : Int} (h : w.heap[H]? = some (.cells (List.replicate n (Value.int .i64 x)).toArray 3 (0, 0))) : RowG w H n (fun _ => x) :=
  ⟨_, h, by simp, fun i hi => by simp [hi]⟩

set_option maxRecDepth 100000 in
set_option maxHeartbeats 3200000 in
theorem sigInfer_any (ss : List (List UInt8)) (ops : List OpD) (ce : Int) (hCheck : ∀ (V : World) (vS : Value), SigIn V ss ops vS → Calls Try.prog 34 #[vS] V fun e w' => e = .returned (.int .i64 ce) ∧ Turned V w' (fun _ => False))
    (la : List Tm) (sorts : List Int) (vS va vI : Value) (w : World) (hS : SigIn w ss ops vS) (ha : RowTm w va la) (hI : RowI w vI sorts) (hsz : Tm.sizes la ≤ 1000000) :
    Calls Try.prog 31 #[vS, va, vI] w (IntsBe (inferT ce ss ops la sorts) w) := by
  have hS2 := hS
  obtain ⟨as_, cs_, bs_, cb_, rfl, -⟩ := hS2
  have hI2 := hI
  obtain ⟨ai, ci, rfl, hil, -⟩ := hI2
  have ha2 := ha
  obtain ⟨aa, ca, rfl, hla, ra⟩ := ha2
  obtain ⟨W, hW⟩ : ∃ W, W = w.alloc (.cells #[.slice as_ ss.length cs_, .slice bs_ ops.length cb_] 60) := ⟨_, rfl⟩
  have tW : Turned w W (fun _ => False) := by rw [hW]; exact (Turned.refl _ _).alloc _
  have k0 : W.heap[w.heap.size]? = some (.cells #[.slice as_ ss.length cs_, .slice bs_ ops.length cb_] 60 (0, 0)) := by rw [hW]; exact heap_alloc_new _ _
  have hB : ∀ V, Turned W V (fun _ => False) → V.cell? ⟨w.heap.size, 0, none⟩ = some (.slice as_ ss.length cs_) ∧ V.cell? ⟨w.heap.size, 1, none⟩ = some (.slice bs_ ops.length cb_) ∧ w.heap.size < V.heap.size := fun V hV => by
    obtain ⟨a, b, -, -, c⟩ := boxE (turn_keep hV k0)
    exact ⟨a, b, c⟩
  have Hchk := Lib.hid (hCheck W _ (hS.turned tW))
  have Hbel := Lib.hid (fun V (hV : Turned W V (fun _ => False)) => areBelow_any sorts ss.length _ V (hI.turned (tW.trans hV (fun _ _ hf => hf))))
  have Htree := Lib.hid (fun V (hV : Turned W V (fun _ => False)) => areTrees_any la _ V (ha.turned (tW.trans hV (fun _ _ hf => hf))))
  have Hgr := Lib.hid (fun V (hV : Turned w V (fun _ => False)) => greatest_any la _ V (ha.turned hV))
  have Hdef := Lib.hid (show inferT ce ss ops la sorts = if ce ≠ 0 then ([], ce) else if la.length ≠ sorts.length ∨ sorts.all (belowB ss.length) = false then ([], 1) else
    if la.all Tm.isTree = false ∨ 4000 ≤ topOf la then ([], 4) else
    if (Tm.fitsTs inferF ops la sorts Srt.none_).2 = false then ([], 4) else
      ((List.range (topOf la + 1).toNat).map (fun (i : Nat) => ((Tm.fitsTs inferF ops la sorts Srt.none_).1.f (i : Int)).getD (-1)), 0) from rfl)
  have hmm : ∀ (w : World), (Instr.makeMap 88 none).run Try.prog w = .ok (.map (some w.heap.size)) (w.alloc (.map #[] 0)) := fun _ => rfl
  have hmf : ∀ (fn : Fn) (first cap : Array Value) (w : World), (Instr.makeFunc fn first cap).run Try.prog w = .ok (.func fn first cap) w := fun _ _ _ _ => rfl
  have HB := Lib.hid hB
  have HW := Lib.hid hW
  have TW := Lib.hid tW
  have Ra := Lib.hid ra
  have Hs := Lib.hid hS
  have Hi := Lib.hid hI
  have Hsz := Lib.hid hsz
  unfold maxLen at hla hil
  generalize inferT ce ss ops la sorts = SX at *
  clear hB hW k0 tW ha hS hI ra hsz hCheck
  obtain ⟨a0, a1, a2⟩ := HB.out W (Turned.refl _ _)
  go_enter Try.func31, Try.ntmps31
  go_upto_region 1 with fail
  rw [← HW.out]
  go_wp2_with fail
  refine Hchk.out.mono ?_
  rintro e w1 ⟨rfl, t1⟩
  have T1 := Lib.hid t1
  clear a0 a1 a2
  obtain ⟨a0, a1, a2⟩ := HB.out w1 t1
  clear t1
  by_cases hce : ce = 0
  rotate_left 1
  · rw [if_pos hce] at Hdef
    have e1 : (ce == 0) = false := by simpa using hce
    have e2 : (ce != 0) = true := by simpa using hce
    clear hce
    have Hfin := Lib.hid (intsBe_nil w w1 ce (TW.out.trans T1.out (fun _ _ hf => hf)))
    go_wp2
    go_ret2
    rw [Hdef.out]
    exact Hfin.out
  subst hce
  rw [if_neg (by simp)] at Hdef
  by_cases hll : la.length = sorts.length
  rotate_left 1
  · rw [if_pos (.inl hll)] at Hdef
    have hll2 : ¬ (la.length : Int) = (sorts.length : Int) := by omega
    have e1 : ((la.length : Int) == (sorts.length : Int)) = false := by simpa using hll2
    have e2 : ((la.length : Int) != (sorts.length : Int)) = true := by simpa using hll2
    have Hfin := Lib.hid (intsBe_nil w w1 1 (TW.out.trans T1.out (fun _ _ hf => hf)))
    clear hll hll2
    go_wp2
    go_ret2
    rw [Hdef.out]
    exact Hfin.out
  have hll2 : (la.length : Int) = (sorts.length : Int) := by omega
  have e1 : ((la.length : Int) == (sorts.length : Int)) = true := by simpa using hll2
  have e2 : ((la.length : Int) != (sorts.length : Int)) = false := by simpa using hll2
  have Hll := Lib.hid hll
  clear hll hll2
  cases hvb : sorts.all (belowB ss.length) with
  | false =>
    rw [if_pos (.inr hvb)] at Hdef
    rw [hvb] at Hbel
    have Hfin := Lib.hid (intsBe_nil w w1 1 (TW.out.trans T1.out (fun _ _ hf => hf)))
    clear hvb
    go_wp2_with fail
    refine (Hbel.out w1 T1.out).mono ?_
    rintro e w2 ⟨rfl, rfl⟩
    go_wp2
    go_ret2
    rw [Hdef.out]
    exact Hfin.out
  | true =>
  rw [if_neg (by rw [hvb]; simp [Hll.out])] at Hdef
  rw [hvb] at Hbel
  clear hvb
  go_wp2_with fail
  refine (Hbel.out w1 T1.out).mono ?_
  rintro e w2 ⟨rfl, rfl⟩
  cases htr : la.all Tm.isTree with
  | false =>
    rw [if_pos (.inl htr)] at Hdef
    rw [htr] at Htree
    clear htr
    go_wp2_with fail
    refine (Htree.out w1 T1.out).mono ?_
    rintro e w3 ⟨rfl, t3⟩
    have Hfin := Lib.hid (intsBe_nil w w3 4 ((TW.out.trans T1.out (fun _ _ hf => hf)).trans t3 (fun _ _ hf => hf)))
    clear t3
    go_wp2
    go_ret2
    rw [Hdef.out]
    exact Hfin.out
  | true =>
  have Htr := Lib.hid htr
  rw [htr] at Htree
  clear htr
  go_wp2_with fail
  refine (Htree.out w1 T1.out).mono ?_
  rintro e w3 ⟨rfl, t3⟩
  have T3 := Lib.hid (TW.out.trans (T1.out.trans t3 (fun _ _ hf => hf)) (fun _ _ hf => hf))
  have T3W := Lib.hid (T1.out.trans t3 (fun _ _ hf => hf))
  clear t3
  go_wp2_with fail
  refine (Hgr.out w3 T3.out).mono ?_
  rintro e w4 ⟨rfl, t4⟩
  have T4 := Lib.hid (T3.out.trans t4 (fun _ _ hf => hf))
  have T4W := Lib.hid (T3W.out.trans t4 (fun _ _ hf => hf))
  clear t4
  by_cases hbig : 4000 ≤ topOf la
  · rw [if_pos (.inr hbig)] at Hdef
    have Hfin := Lib.hid (intsBe_nil w w4 4 T4.out)
    go_wp2
    go_ret2
    rw [Hdef.out]
    exact Hfin.out
  rw [if_neg (by rw [Htr.out]; simp; omega)] at Hdef
  have htop := (Tm.walks_top la (-1) (allTree_rights Htr.out))
  have Hvars := Lib.hid (fun x (hx : Tm.vins x la) => htop.2 x hx)
  have htop1 : -1 ≤ topOf la := htop.1
  clear htop
  have hfin4 : ∀ V, Turned w V (fun _ => False) → IntsBe ([], 4) w (.returned (.tuple #[.slice none 0 0, .int .i64 4])) V := fun V hV => intsBe_nil w V 4 hV
  have Hfin4 := Lib.hid hfin4
  obtain ⟨b, hb⟩ : ∃ b, b = w4.heap.size := ⟨_, rfl⟩
  obtain ⟨V, hV⟩ : ∃ V, V = (w4.alloc (.map #[] 0)).alloc (.cells #[.map (some w4.heap.size)] 88) := ⟨_, rfl⟩
  have tV : Turned w4 V (fun _ => False) := by rw [hV]; exact ((Turned.refl _ _).alloc _).alloc _
  have kb : V.heap[b]? = some (.map #[] 0) := by rw [hV, hb]; exact alloc_keep (heap_alloc_new _ _)
  have kx : V.heap[b + 1]? = some (.cells #[.map (some b)] 88 (0, 0)) := by rw [hV, hb]; exact alloc_at (by simp)
  have hI0 : Inf V b (b + 1) Srt.none_ V := ⟨Turned.refl _ _, kx, ⟨_, _, kb⟩, ⟨_, by rw [hV, hb]; exact (MapV.made w4 3).turned ((Turned.refl _ (fun _ => False)).alloc _) (fun hf => hf), fun x => rfl⟩⟩
  have T4V := Lib.hid (T4.out.trans tV (fun _ _ hf => hf))
  have TWV := Lib.hid (T4W.out.trans tV (fun _ _ hf => hf))
  have hbw : w.heap.size + 1 ≤ b := by have := T4W.out.size; have h2 := HW.out; rw [hb]; rw [h2] at this; simpa using this
  have HL := Lib.hid (admits_infer w V T4V.out b (b + 1) (by omega))
  have Hvk := Lib.hid (fun (t : Tm) (ht : t ∈ la) (x : Int) (hx : t.vin x) => show 0 ≤ x ∧ x ≤ 1000000 by
    have h1 := List.all_eq_true.1 Htr.out t ht
    exact ⟨(Tm.vin_top h1 hx).1, by have := Hvars.out x (Tm.vins_mem ht hx); have h2 : topOf la = Tm.walks topStep la (-1) := rfl; omega⟩)
  have Hrk := Lib.hid (allTree_rights Htr.out)
  have HI0 := Lib.hid hI0
  have HV := Lib.hid hV
  have Hb := Lib.hid hb
  clear hV tV kb kx hI0 hfin4 a0 a1 a2 hb
  go_upto_region 10 with fail
  rw [← HV.out, ← Hb.out]
  clear hmm hmf e1 e2 Htree Hbel Hchk T1 T3 T3W
  go_wp2
  go_loopw [46] (fun i wr => ∃ k : Nat, k ≤ la.length ∧ i = .int .i64 k ∧ (Tm.fitsTs inferF ops (la.take k) (sorts.take k) Srt.none_).2 = true ∧ Inf V b (b + 1) (Tm.fitsTs inferF ops (la.take k) (sorts.take k) Srt.none_).1 wr ∧ (Tm.fitsTs inferF ops (la.take k) (sorts.take k) Srt.none_).1.n + Tm.sizes (la.drop k) ≤ 1000000) (fun i _ => la.length - (intOf i).toNat)
  case atStart => exact ⟨0, Nat.zero_le _, rfl, by simp [Tm.fitsTs], by simpa [Tm.fitsTs] using HI0.out, by simpa [Tm.fitsTs, Srt.none_] using Hsz.out⟩
  case round =>
    obtain ⟨k, hk, rfl, htk, hIr, hqr⟩ := hrel
    have hlen : (la.take k).length = (sorts.take k).length := by rw [List.length_take, List.length_take, Hll.out]
    by_cases hlt : k < la.length
    · have hlt2 : k < sorts.length := by rw [← Hll.out]; exact hlt
      have hki : (k : Int) < (la.length : Int) := by omega
      have hki2 : (k : Int) < (sorts.length : Int) := by omega
      have hor := HL.out.old _ _ hIr
      obtain ⟨ga, oa, sa, sc, rfl, lga, xa0, xa1, xa2, xat⟩ := tmsIn_at2 Ra.out k hlt
      have lga' : ga < wr.heap.size := Nat.lt_of_lt_of_le lga hor.size
      have p0 := (hor.cell (p := ⟨ga, oa + k * 3, none⟩) lga (fun hf => hf)).trans xa0
      have p1 := (hor.cell (p := ⟨ga, oa + k * 3 + 1, none⟩) lga (fun hf => hf)).trans xa1
      have p2 := (hor.cell (p := ⟨ga, oa + k * 3 + 2, none⟩) lga (fun hf => hf)).trans xa2
      obtain ⟨U, hU, tU, hCU⟩ := box1 wr (.int .i64 la[k].kind) (.int .i64 la[k].num) (.slice sa la[k].kids.length sc) 24
      obtain ⟨u0, u1, u2, lU⟩ := hCU U (Turned.refl _ _)
      have hIU := HL.out.step _ _ _ hIr tU
      have h0U := hor.trans tU (fun _ _ hf => hf)
      have hWU : Turned W U (fun _ => False) := (TWV.out.trans (hIr.turned.trans tU (fun _ _ hf => hf.elim)) (fun i hi e => by have h1 := HW.out; rw [h1] at hi; simp at hi; omega))
      obtain ⟨s0, s1, ls⟩ := HB.out U hWU
      obtain ⟨gr, or_, rfl, lgr, xr⟩ := Hi.out.at k hlt2
      have lgr' : gr < U.heap.size := Nat.lt_of_lt_of_le lgr h0U.size
      have z0 := (h0U.cell (p := ⟨gr, or_ + k, none⟩) lgr (fun hf => hf)).trans xr
      have hsn : Tm.fitsTs inferF ops (la.take (k + 1)) (sorts.take (k + 1)) Srt.none_ = la[k].fitsT inferF ops sorts[k] (Tm.fitsTs inferF ops (la.take k) (sorts.take k) Srt.none_).1 := by
        rw [List.take_succ_eq_append_getElem hlt, List.take_succ_eq_append_getElem hlt2, Tm.fitsTs_snoc _ _ _ _ _ _ _ hlen, if_pos htk]
      have hst : (Tm.fitsTs inferF ops (la.take (k + 1)) (sorts.take (k + 1)) Srt.none_).2 = false → Tm.fitsTs inferF ops la sorts Srt.none_ = Tm.fitsTs inferF ops (la.take (k + 1)) (sorts.take (k + 1)) Srt.none_ := fun h => by
        have := Tm.fitsTs_stop inferF ops (la.take (k + 1)) (la.drop (k + 1)) (sorts.take (k + 1)) (sorts.drop (k + 1)) Srt.none_ (by rw [List.length_take, List.length_take, Hll.out]) h
        rwa [List.take_append_drop, List.take_append_drop] at this
      rw [Tm.sizes_take_drop la k hlt] at hqr
      have hcall := fun (X : World) (hX : Turned U X (fun _ => False)) => fits_any w _ _ _ _ _ _ HL.out ss ops as_ bs_ cs_ cb_ Hs.out la[k] (.agg #[.int .i64 la[k].kind, .int .i64 la[k].num, .slice sa la[k].kids.length sc]) sorts[k] (Tm.fitsTs inferF ops (la.take k) (sorts.take k) Srt.none_).1 (Tm.sizes (la.drop (k + 1))) X xat (Tm.rights_mem Hrk.out (List.getElem_mem hlt)) (Hvk.out _ (List.getElem_mem hlt)) (HL.out.step _ _ _ hIU hX) hqr
      rw [← hsn] at hcall
      have Hcall := Lib.hid hcall
      have Hst := Lib.hid hst
      have HU := Lib.hid hU
      have tt : Turned U U.drew (fun _ => False) := (Turned.refl U _).drew
      clear htk xa0 xa1 xa2 xat lga hsn hcall hst hIr hIU hCU tU hU hqr hor h0U xr lgr hlen hWU
      generalize hX : Tm.fitsTs inferF ops (la.take (k + 1)) (sorts.take (k + 1)) Srt.none_ = X at *
      have HX := Lib.hid hX
      clear hX
      obtain ⟨x1, xb⟩ := X
      generalize sorts[k] = oak at *
      generalize la[k].kind = xk at *
      generalize la[k].num = xn at *
      generalize la[k].kids.length = xm at *
      go_upto_region 13 with fail
      rw [← HU.out]
      go_region_law (first
        | (go_simp; go_at_call 71; refine (Hcall.out _ tt).mono ?_; rintro e w7 ⟨rfl, hf1, k1, hq1⟩; have F3 := Lib.hid hf1; have Q3 := Lib.hid hq1; clear hf1 k1 hq1))
      all_goals
        clear p0 p1 p2 u0 u1 u2 lU s0 s1 ls z0 tt
        cases xb
        · have Hf := Lib.hid (Hst.out rfl)
          clear Hst
          have Hfin := Lib.hid (Hfin4.out w7 (HL.out.old _ _ F3.out))
          have Hd2 := Lib.hid (show SX = ([], 4) by rw [Hdef.out, Hf.out, if_pos rfl])
          go_wp2
          go_ret2
          rw [Hd2.out]
          exact Hfin.out
        · go_wp2
          go_roundw
          case rel => exact ⟨k + 1, by omega, by go_num, by rw [HX.out], by rw [HX.out]; exact F3.out, by rw [HX.out]; exact Q3.out⟩
          case measure => simp [intOf]; omega
    · obtain rfl : k = la.length := by omega
      rw [List.take_of_length_le (Nat.le_refl _), List.take_of_length_le (show sorts.length ≤ la.length by rw [Hll.out]; exact Nat.le_refl _)] at htk hIr
      rw [htk, if_neg (by simp)] at Hdef
      have hor := HL.out.old _ _ hIr
      have hdom : ∀ (x : Int) (u : Int), (Tm.fitsTs inferF ops la sorts Srt.none_).1.f x = some u → 0 ≤ x ∧ x ≤ topOf la := fun x u hu => by
        rcases Tm.fitsTs_dom ops la sorts Srt.none_ x (by rw [hu]; simp) with h | h
        · exact absurd rfl h
        · obtain ⟨t, ht, htx⟩ := Tm.vins_some h
          exact ⟨(Hvk.out t ht x htx).1, Hvars.out x h⟩
      have Hdom := Lib.hid hdom
      have HIr := Lib.hid hIr
      have Hor := Lib.hid hor
      clear htk hdom hqr hlen hIr hor
      generalize Tm.fitsTs inferF ops la sorts Srt.none_ = FX at *
      obtain ⟨fs, fb⟩ := FX
      clear Hvars
      generalize htp : topOf la = top at *
      obtain ⟨n, hn⟩ : ∃ n : Nat, top + 1 = n := ⟨(top + 1).toNat, by omega⟩
      rw [hn, Int.toNat_natCast] at Hdef
      have hwn : IntKind.i64.wrap (top + 1) = (n : Int) := by rw [hn]; exact IntWalk.i64_in _ (by omega)
      have hnle : n ≤ 1000000 := by omega
      obtain ⟨V5, hV5⟩ : ∃ V5, V5 = wr.alloc (.cells #[.int .i64 (-1)] 3) := ⟨_, rfl⟩
      have tV5 : Turned wr V5 (fun _ => False) := by rw [hV5]; exact (Turned.refl _ _).alloc _
      have k5 : V5.heap[wr.heap.size]? = some (.cells #[.int .i64 (-1)] 3 (0, 0)) := by rw [hV5]; exact heap_alloc_new _ _
      have Hg5 := Lib.hid (Hgr.out V5 (Hor.out.trans tV5 (fun _ _ hf => hf)))
      have Hrep := Lib.hid (fun X (hX : Turned V5 X (fun _ => False)) => repeat_one (-1) n hnle wr.heap.size 1 X (by have := turn_keep hX k5; simp [World.cell?, this]) (lt_of_block (turn_keep hX k5)))
      have HV5 := Lib.hid hV5
      have TV5 := Lib.hid tV5
      clear hV5 tV5 k5
      go_wp2_with fail
      rw [← HV5.out]
      refine Hg5.out.mono ?_
      rintro e w5 ⟨rfl, t5⟩
      have T5 := Lib.hid t5
      clear t5
      go_wp2_with fail
      refine (Hrep.out w5 T5.out).mono ?_
      rintro e w6 ⟨H, rfl, kH, lH, t6⟩
      have t65 : Turned wr w6 (fun _ => False) := (TV5.out.trans T5.out (fun _ _ hf => hf)).trans t6 (fun _ _ hf => hf)
      have hI6 := HIr.out.step t65
      have hbx6 := hI6.boxed
      have q0 : w6.cell? ⟨b + 1, 0, none⟩ = some (.map (some b)) := by simp [World.cell?, hbx6]
      have q1 := lt_of_block hbx6
      obtain ⟨F, hF1, hF2⟩ := hI6.hf
      obtain ⟨W7, left, cnt, hrange, hrg, hleft, t7, hs7⟩ := hF1.range intKeyed (t := 88) (e := 3) (by kernel_rfl)
      have hlH : w.heap.size ≤ H := by have h1 := Hor.out.size; have h2 := TV5.out.size; have h3 := T5.out.size; omega
      have hH6 := lt_of_block kH
      have hrow0 := (RowG.replicate kH).turned t7 (fun hf => hf)
      have tw7 : Turned w W7 (fun _ => False) := (Hor.out.trans t65 (fun _ _ hf => hf)).trans t7 (fun _ _ hf => hf)
      have hrow1 : RowG W7 H n (fun j => if left (.int .i64 (j : Int)) then -1 else (fs.f (j : Int)).getD (-1)) := by
        refine hrow0.congr fun j hj => ?_
        have h1 := hleft (.int .i64 (j : Int)) (intLit (by omega) (by omega))
        rw [hF2] at h1
        cases hf : fs.f (j : Int) with
        | none => simp
        | some u => rw [hf] at h1; rw [if_pos (by rw [h1]; rfl)]
      have HF2 := Lib.hid hF2
      have Hrow1 := Lib.hid hrow1
      have Hrg := Lib.hid hrg
      have Tw7 := Lib.hid tw7
      generalize w6.heap.size = r at *
      clear hF1 hF2 hleft hrow0 hrow1 t7 hs7 hrg tw7 kH t6 t65 hI6 hbx6 lH
      go_wp2
      go_loopw [14, 15] (fun _ _ wr => ∃ left cnt, RangV wr 3 b r fs.n F left cnt ∧ RowG wr H n (fun j => if left (.int .i64 (j : Int)) then -1 else (fs.f (j : Int)).getD (-1)) ∧ Turned w wr (fun _ => False)) (fun _ _ wr => wr.rangeLeft b r)
      case atStart => exact ⟨left, cnt, Hrg.out, Hrow1.out, Tw7.out⟩
      case round =>
        obtain ⟨left, cnt, hrg, hrow, ht⟩ := hrel
        rcases hrg.next intKeyed 0 with ⟨h0, hl, hnx⟩ | ⟨key, v, kl, wn, cnt', hkey, hlk, hv, hnx, hrg', hlt, tn, hen⟩
        · have hrow2 := hrow.congr (g' := fun j => (fs.f (j : Int)).getD (-1)) (fun j _ => by simp only [hl]; rfl)
          have Hfin := Lib.hid (show IntsBe ((List.range n).map (fun (i : Nat) => (fs.f (i : Int)).getD (-1)), 0) w (.returned (.tuple #[.slice (some ⟨H, 0, none⟩) n n, .int .i64 0])) wr from
            ⟨_, rfl, hrow2.rows (by unfold maxLen; omega), ht⟩)
          clear hrg hrow hrow2 ht hl
          go_wp2
          go_ret2
          rw [Hdef.out]
          exact Hfin.out
        · obtain ⟨x, rfl, rfl, hx1, hx2⟩ := intKey_inv hkey
          rw [HF2.out] at hv
          obtain ⟨u, hu⟩ : ∃ u, fs.f x = some u := by
            cases hf : fs.f x with
            | none => rw [hf] at hv; cases hv
            | some u => exact ⟨u, rfl⟩
          rw [hu] at hv
          simp only [Option.map_some, Option.some.injEq] at hv
          subst hv
          obtain ⟨hx3, hx4⟩ := Hdom.out x u hu
          obtain ⟨k, rfl⟩ : ∃ k : Nat, x = k := ⟨x.toNat, by omega⟩
          have hkn : k < n := by omega
          have hki : (k : Int) < (n : Int) := by omega
          obtain ⟨hb1, hb2⟩ : H ≠ b ∧ H ≠ r := by obtain ⟨c, hc, -⟩ := hrow; exact hrg.blocks _ _ _ _ hc
          have hrl := hrg.left_eq
          have tn2 : Turned w wn (fun _ => False) := ht.trans tn (fun i hi e => by omega)
          have hrow2 := hrow.turned tn hb2
          obtain ⟨m0, m1, m2⟩ := hrow2.cells k hkn
          have hput := hrow2.put k u hkn
          have hs : Turned wn (wn.setCell ⟨H, k, none⟩ (.int .i64 u)) (fun i => i = H) := Turned.setCell (D := fun i => i = H) (Turned.refl wn _) (p := ⟨H, k, none⟩) (fun _ => rfl) _
          have NP := Lib.hid (hput.congr (g' := fun j => if (left (.int .i64 (j : Int)) && !(Lit.int .i64 (j : Int)).sameKey (.int .i64 (k : Int))) then -1 else (fs.f (j : Int)).getD (-1)) (fun j hj => by
            by_cases hjk : j = k
            · subst hjk
              simp only [if_pos, Lit.sameKey]
              simp [hu]
            · have : ¬ (j : Int) = (k : Int) := by omega
              simp [hjk, Lit.sameKey, this]))
          have NR := Lib.hid (hrg'.turned hs (fun e => hb1 e.symm) (fun e => hb2 e.symm))
          have NT := Lib.hid (tn2.trans hs (fun i hi e => by omega))
          have Hlt := Lib.hid hlt
          have Hrl := Lib.hid hrl
          clear hrg hrow hrow2 hrg' ht tn2 hput hs hu hlk hkey hx1 hx2 hx3 hx4 tn hlt hrl
          go_wp2
          go_roundw
          case rel => exact ⟨_, cnt', NR.out, NP.out, NT.out⟩
          case measure => have h1 := NR.out.left_eq; have h2 := Hrl.out; have h3 := Hlt.out; omega
end Go.Proofs.Ytljnmjehokijgaa
