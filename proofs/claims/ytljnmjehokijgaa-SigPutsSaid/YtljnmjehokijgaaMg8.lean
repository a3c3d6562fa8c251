/- Parts of the proof, one behind the other. -/
import Derived.Maps.OwnSet
import Derived.Maps.RangeWalk
import Derived.Test.YtljnmjehokijgaaMg7

/- Maps of the call's own, with any elements: what is at each key. -/
namespace Go.Proofs.Ytljnmjehokijgaa
open Go.RowKit
open Go.Maps (Keyed)

/-- Every value is held as it is. -/
def heldR (v : Value) : Option (DataW Value × List MemPlace) := some (.held v, [])

/-- A block is a map of at most n entries; F tells what is at each key. -/
def MapV (w : World) (k : TypeId) (b n : Nat) (F : Lit → Option Value) : Prop :=
  ∃ D : DataW Value, w.ownsMap Try.prog k heldR b n D ∧ ∀ kl, WideAt.IsKeyLit kl → Maps.has D kl = (F kl).isSome ∧ ∀ z, D.atKey kl (.held z) = .held ((F kl).getD z)

theorem MapV.lt {w : World} {k : TypeId} {b n : Nat} {F : Lit → Option Value} (h : MapV w k b n F) : b < w.heap.size := by
  obtain ⟨D, h, -⟩ := h
  exact h.lt

theorem MapV.turned {w w' : World} {k : TypeId} {b n : Nat} {F : Lit → Option Value} {S : Nat → Prop} (h : MapV w k b n F) (t : Turned w w' S) (hn : ¬ S b) : MapV w' k b n F := by
  obtain ⟨D, h, hF⟩ := h
  exact ⟨D, ownsMap_turned h t hn, hF⟩

theorem MapV.made (w : World) (k : TypeId) : MapV (w.alloc (.map #[] 0)) k w.heap.size 0 (fun _ => none) := by
  refine ⟨.map [], World.ownsMap_made w Try.prog k heldR, fun kl _ => ⟨rfl, fun z => ?_⟩⟩
  exact Maps.atKey_of_not_has rfl _

/-- What a look-up gives. -/
theorem MapV.look {w : World} {k e t : TypeId} {b n : Nat} {F : Lit → Option Value} {z key : Value} {kl : Lit} (h : MapV w k b n F) (K : Keyed Try.prog k) (ht : Try.prog.underlying t = some (.map k e)) (hz : (zeroValue e).run Try.prog w = .ok z w) (hkey : keyOf Try.prog k key = some kl) :
    (Instr.lookup t (.map (some b)) key false).run Try.prog w = .ok ((F kl).getD z) w := by
  obtain ⟨D, h, hF⟩ := h
  obtain ⟨v, ps, hrun, hv⟩ := h.lookup K ht hz (show heldR z = some (.held z, []) from rfl) hkey
  simp only [heldR, Option.some.injEq, Prod.mk.injEq] at hv
  have := (hF kl (K.key hkey)).2 z
  rw [this] at hv
  simp only [DataW.held.injEq] at hv
  rw [hrun, hv.1]

theorem MapV.look_ok {w : World} {k e t : TypeId} {b n : Nat} {F : Lit → Option Value} {z key : Value} {kl : Lit} (h : MapV w k b n F) (K : Keyed Try.prog k) (ht : Try.prog.underlying t = some (.map k e)) (hz : (zeroValue e).run Try.prog w = .ok z w) (hkey : keyOf Try.prog k key = some kl) :
    (Instr.lookup t (.map (some b)) key true).run Try.prog w = .ok (.tuple #[(F kl).getD z, .bool (F kl).isSome]) w := by
  obtain ⟨D, h, hF⟩ := h
  obtain ⟨v, ps, hrun, hv⟩ := h.look_ok K ht hz (show heldR z = some (.held z, []) from rfl) hkey
  simp only [heldR, Option.some.injEq, Prod.mk.injEq] at hv
  have := hF kl (K.key hkey)
  rw [this.2 z] at hv
  simp only [DataW.held.injEq] at hv
  rw [hrun, hv.1, this.1]

/-- One more element. -/
def putF (F : Lit → Option Value) (kl : Lit) (v : Value) (x : Lit) : Option Value := if x.sameKey kl = true then some v else F x

/-- What a store makes. -/
theorem MapV.put {w : World} {k e t : TypeId} {b n : Nat} {F : Lit → Option Value} {v key : Value} {kl : Lit} (h : MapV w k b n F) (K : Keyed Try.prog k) (ht : Try.prog.underlying t = some (.map k e)) (hn : n < maxLen) (hkey : keyOf Try.prog k key = some kl) :
    ∃ w', (Instr.mapUpdate t (.map (some b)) key v).run Try.prog w = .ok () w' ∧ MapV w' k b (n + 1) (putF F kl v) ∧ Turned w w' (fun i => i = b) := by
  obtain ⟨D, h, hF⟩ := h
  obtain ⟨w', hrun, h', hg⟩ := h.update K ht hn hkey (show heldR v = some (.held v, []) from rfl)
  refine ⟨w', hrun, ⟨_, h', fun x hx => ?_⟩, Turned.grown (Turned.refl _ _) hg (fun i _ e => by simp only [Option.some.injEq] at e; exact e.symm)⟩
  unfold putF
  by_cases hxk : x.sameKey kl = true
  · have hxe := WideAt.sameKey_eq hxk
    subst hxe
    rw [if_pos hxk]
    exact ⟨Maps.has_put_same h.isMap hx _, fun z => by rw [Maps.atKey_put_same h.isMap hx]; rfl⟩
  · have hne : x ≠ kl := fun e => hxk (by
      subst e
      cases x <;> simp [Lit.sameKey, WideAt.IsKeyLit] at hx ⊢)
    rw [if_neg hxk, Maps.has_put_other hne]
    refine ⟨(hF x hx).1, fun z => ?_⟩
    rw [Maps.atKey_put_other hne]
    exact (hF x hx).2 z

theorem intKeyed : Keyed Try.prog 3 := Go.Maps.int_keyed (q := .i64) (by kernel_rfl)
theorem intKey {n : Int} (h : -9223372036854775808 ≤ n ∧ n ≤ 9223372036854775807) : keyOf Try.prog 3 (.int .i64 n) = some (.int .i64 n) := by
  refine Go.Maps.keyOf_int_mk (q := .i64) (by kernel_rfl) ?_
  show (decide ((-9223372036854775808 : Int) ≤ n) && decide (n ≤ (9223372036854775807 : Int))) = true
  simp [h.1, h.2]
theorem strKeyed : Keyed Try.prog 9 := Go.Maps.string_keyed (by kernel_rfl)
end Go.Proofs.Ytljnmjehokijgaa

/- variables, Vars, greatest, Ground. -/
namespace Go.Proofs.Ytljnmjehokijgaa
open Go.RowKit

theorem zero_bool (w : World) : (zeroValue 4).run Try.prog w = .ok (.bool false) w := by kernel_rfl

/-- What was met. -/
def metF (out : List Int) (x : Lit) : Option Value := match x with
  | .int .i64 n => if n ∈ out then some (.bool true) else none
  | _ => none

/-- What the collecting function looks at: what was met, what was found. -/
structure Vrs (w0 : World) (bm bo b : Nat) (out : List Int) (w : World) : Prop where
  turned : Turned w0 w (fun _ => False)
  hm : w.heap[bm]? = some (.cells #[.map (some b)] 109 (0, 0))
  ho : ∃ v, w.heap[bo]? = some (.cells #[v] 37 (0, 0)) ∧ OwnI w w0.heap.size v out
  hf : ∃ F, MapV w 3 b out.length F ∧ ∀ n : Int, F (.int .i64 n) = metF out (.int .i64 n)
  lo : w0.heap.size ≤ bo
  lo2 : w0.heap.size ≤ b

theorem Vrs.step {w0 : World} {bm bo b : Nat} {out : List Int} {w w' : World} (h : Vrs w0 bm bo b out w) (t : Turned w w' (fun _ => False)) : Vrs w0 bm bo b out w' := by
  obtain ⟨v, h1, h2⟩ := h.ho
  obtain ⟨F, h3, h4⟩ := h.hf
  exact ⟨h.turned.trans t (fun _ _ hf => hf), turn_keep t h.hm, ⟨v, turn_keep t h1, h2.step t⟩, ⟨F, h3.turned t (fun hf => hf), h4⟩, h.lo, h.lo2⟩

/-- The map's block is no row. -/
theorem MapV.block {w : World} {k : TypeId} {b n : Nat} {F : Lit → Option Value} (h : MapV w k b n F) : ∃ es clock, w.heap[b]? = some (.map es clock) := by
  obtain ⟨D, ⟨es, clock, hb, -⟩, -⟩ := h
  exact ⟨es, clock, hb⟩

theorem run_vars1 (x : Value) (bm bo : Nat) (w : World) : (callFunc 81 (#[x] ++ #[.pointer (some ⟨bm, 0, none⟩), .pointer (some ⟨bo, 0, none⟩)])).run Try.prog w = .ok (.enter 81 (#[x] ++ #[.pointer (some ⟨bm, 0, none⟩), .pointer (some ⟨bo, 0, none⟩)])) w := by kernel_rfl

/-- One variable more. -/
def varStep (out : List Int) (t : Tm) : List Int := if t.kind = 1 ∧ t.num ∉ out then out ++ [t.num] else out

theorem Vrs.add {w0 : World} {bm bo b : Nat} {out : List Int} {W W2 W3 W4 : World} {na : Int} {p : Option Addr} {cp : Nat} (h : Vrs w0 bm bo b out W) (t2 : Turned W W2 (fun i => i = b)) (hf2 : ∃ F, MapV W2 3 b (out.length + 1) F ∧ ∀ n : Int, F (.int .i64 n) = metF (out ++ [na]) (.int .i64 n))
    (t3 : Turned W2 W3 (fun _ => False)) (t4 : TurnedI w0.heap.size W3 W4) (ho4 : OwnI W4 w0.heap.size (.slice p (out.length + 1) cp) (out ++ [na])) :
    W4.heap[bo]? = W.heap[bo]? ∧ Vrs w0 bm bo b (out ++ [na]) (W4.setCell ⟨bo, 0, none⟩ (.slice p (out.length + 1) cp)) ∧ KeepsT W (W4.setCell ⟨bo, 0, none⟩ (.slice p (out.length + 1) cp)) := by
  obtain ⟨v, h1, h2⟩ := h.ho
  obtain ⟨F0, g0, -⟩ := h.hf
  obtain ⟨F, h3, h4⟩ := hf2
  obtain ⟨es0, c0, hb0⟩ := g0.block
  have hbo : bo ≠ b := fun e => by rw [e, hb0] at h1; cases h1
  have hbm : bm ≠ b := fun e => by have := h.hm; rw [e, hb0] at this; cases this
  have hmo : bm ≠ bo := fun e => by have := h.hm; rw [e, h1] at this; simp at this
  have keep : ∀ (k : Nat) (c : Array Value) (t : TypeId), k ≠ b → t ≠ 3 → W.heap[k]? = some (.cells c t (0, 0)) → W4.heap[k]? = some (.cells c t (0, 0)) := fun k c t hk ht hc =>
    t4.cellT (turn_keep t3 ((t2.block k (lt_of_block hc) hk).trans hc)) ht
  have ko := keep bo _ _ hbo (by decide) h1
  have km := keep bm _ _ hbm (by decide) h.hm
  have ts : Turned W4 (W4.setCell ⟨bo, 0, none⟩ (.slice p (out.length + 1) cp)) (fun k => k = bo) := Turned.setCell (D := fun k => k = bo) (Turned.refl _ _) (p := ⟨bo, 0, none⟩) (fun _ => rfl) _
  have hmap3 : MapV W3 3 b (out.length + 1) F := h3.turned t3 (fun hf => hf)
  have hmap4 : MapV W4 3 b (out.length + 1) F := hmap3.turned t4 (fun hh => by
    obtain ⟨-, cc, hcc⟩ := hh
    obtain ⟨es, c, hb⟩ := hmap3.block
    rw [hb] at hcc
    cases hcc)
  have hlen : (out ++ [na]).length = out.length + 1 := by simp
  refine ⟨by rw [ko, h1], ⟨?_, (ts.block bm (lt_of_block km) hmo).trans km, ⟨_, setCell_one ko, ?_⟩, ⟨F, ?_, h4⟩, h.lo, h.lo2⟩, ?_⟩
  · have hl := h.lo
    have hl2 := h.lo2
    exact (((h.turned.trans t2 (fun i hi e => by omega)).trans t3 (fun _ _ hf => hf)).trans t4 (fun i hi e => by have := e.1; omega)).trans ts (fun i hi e => by omega)
  · refine ho4.turned ts (fun k hk e => ?_)
    obtain ⟨-, c, hc⟩ := ho4.intB hk
    rw [e, ko] at hc
    simp at hc
  · rw [hlen]
    exact hmap4.turned ts (fun e => hbo e.symm)
  · refine ⟨?_, fun k c hk => ?_⟩
    · exact Nat.le_trans (Nat.le_trans (Nat.le_trans t2.size t3.size) t4.size) ts.size
    · have hkb : k ≠ b := fun e => by rw [e, hb0] at hk; cases hk
      have hkbo : k ≠ bo := fun e => by rw [e, h1] at hk; simp at hk
      have := keep k c _ hkb (by decide) hk
      exact (ts.block k (lt_of_block this) hkbo).trans this

set_option maxRecDepth 100000 in
set_option maxHeartbeats 1600000 in
theorem vars1_any (w0 : World) (bm bo b : Nat) (ta : Tm) (va : Value) (w : World) (out : List Int) (ha : TmIn w0 ta va) (hn : ta.small) (hI : Vrs w0 bm bo b out w) (hlen : out.length ≤ 1000000) :
    Calls Try.prog 81 #[va, .pointer (some ⟨bm, 0, none⟩), .pointer (some ⟨bo, 0, none⟩)] w fun e w' => e = .returned (.bool true) ∧ Vrs w0 bm bo b (varStep out ta) w' ∧ KeepsT w w' := by
  have hn2 : -9223372036854775808 ≤ ta.num ∧ ta.num ≤ 9223372036854775807 := by obtain ⟨k, n, l⟩ := ta; exact hn.1
  obtain ⟨aa, ca, rfl, hla, -⟩ := ha.form
  obtain ⟨W, hW, tW, hC⟩ := box1 w (.int .i64 ta.kind) (.int .i64 ta.num) (.slice aa ta.kids.length ca) 24
  obtain ⟨c0, c1, c2, lW⟩ := hC W (Turned.refl _ _)
  have hIW := hI.step tW
  obtain ⟨v, h1, h2⟩ := hIW.ho
  obtain ⟨F, h3, h4⟩ := hIW.hf
  obtain ⟨av, cv, rfl⟩ := h2.form
  have q0 : W.cell? ⟨bm, 0, none⟩ = some (.map (some b)) := by simp [World.cell?, hIW.hm]
  have q1 : bm < W.heap.size := lt_of_block hIW.hm
  have hkey := intKey hn2
  have hlook := h3.look (t := 109) (e := 4) intKeyed (by kernel_rfl) (zero_bool W) hkey
  rw [h4] at hlook
  obtain ⟨W2, hput, hM2, t2⟩ := h3.put (v := .bool true) (t := 109) (e := 4) intKeyed (by kernel_rfl) (by unfold maxLen; omega) hkey
  have hvs : varStep out ta = if ta.kind = 1 ∧ ta.num ∉ out then out ++ [ta.num] else out := rfl
  have HW := Lib.hid hW
  have TW := Lib.hid (KeepsT.of tW)
  have HIW := Lib.hid hIW
  have Hvs := Lib.hid hvs
  have HC := Lib.hid hC
  clear hW tW hC ha hla hn hI hvs
  generalize ta.kind = xk at *
  generalize ta.num = xn at *
  generalize ta.kids.length = xl at *
  by_cases hk : xk = 1
  rotate_left 1
  · have e1 : (xk == 1) = false := by simpa using hk
    rw [if_neg (fun h => hk h.1)] at Hvs
    clear hk hput hM2 t2 hlook h1 h2 h3 h4
    go_enter Try.func81, Try.ntmps81
    go_upto_region 1 with fail
    rw [← HW.out]
    go_wp2
    go_ret
    rw [Hvs.out]
    exact ⟨rfl, HIW.out, TW.out⟩
  subst hk
  by_cases hm : xn ∈ out
  · have hmf : (metF out (.int .i64 xn)).getD (.bool false) = .bool true := by simp [metF, hm]
    rw [hmf] at hlook
    rw [if_neg (fun h => h.2 hm)] at Hvs
    clear hm hput hM2 t2 h1 h2 h3 h4 hmf
    go_enter Try.func81, Try.ntmps81
    go_upto_region 1 with fail
    rw [← HW.out]
    go_wp2
    go_ret
    rw [Hvs.out]
    exact ⟨rfl, HIW.out, TW.out⟩
  have hmf : (metF out (.int .i64 xn)).getD (.bool false) = .bool false := by simp [metF, hm]
  rw [hmf] at hlook
  rw [if_pos ⟨rfl, hm⟩] at Hvs
  have hbo : bo ≠ b := fun e => by obtain ⟨es, c, hb⟩ := h3.block; rw [e, hb] at h1; cases h1
  have hF2 : ∃ F, MapV W2 3 b (out.length + 1) F ∧ ∀ n : Int, F (.int .i64 n) = metF (out ++ [xn]) (.int .i64 n) := by
    refine ⟨_, hM2, fun n => ?_⟩
    simp only [putF, Lit.sameKey, true_and, decide_eq_true_eq, metF, List.mem_append, List.mem_singleton]
    by_cases hnx : n = xn
    · subst hnx; simp
    · rw [if_neg hnx, h4]
      simp [metF, hnx]
  have k1 := (t2.block bo (lt_of_block h1) hbo).trans h1
  have s0 : W2.cell? ⟨bo, 0, none⟩ = some (.slice av out.length cv) := by simp [World.cell?, k1]
  have s1 : bo < W2.heap.size := lt_of_block k1
  have hw1 : w.heap.size ≠ b := fun e => by
    obtain ⟨es, c, hb⟩ := h3.block
    have := HC.out W (Turned.refl _ _)
    rw [← e] at hb
    simp [World.cell?, hb] at this
  have r1 : W2.cell? ⟨w.heap.size, 1, none⟩ = some (.int .i64 xn) := (t2.cell (p := ⟨w.heap.size, 1, none⟩) lW hw1).trans c1
  have r2 : w.heap.size < W2.heap.size := Nat.lt_of_lt_of_le lW t2.size
  have hown2 : OwnI W2 w0.heap.size (.slice av out.length cv) out := h2.turned t2 (fun k hk e => by
    obtain ⟨-, c, hc⟩ := h2.intB hk
    obtain ⟨es, cc, hb⟩ := h3.block
    rw [e, hb] at hc
    cases hc)
  have hA : OwnI (W2.alloc (.cells #[.int .i64 xn] 3)) w0.heap.size (.slice av out.length cv) out := hown2.step ((Turned.refl _ _).alloc _)
  have hG := heap_alloc_new W2 (.cells #[.int .i64 xn] 3)
  have hBs : w0.heap.size ≤ (W2.alloc (.cells #[.int .i64 xn] 3)).heap.size := by have := hIW.turned.size; have := t2.size; simp; omega
  have HF2 := Lib.hid hF2
  have T2 := Lib.hid t2
  have H1 := Lib.hid h1
  have K1 := Lib.hid k1
  clear h1 h2 h3 h4 hM2 t2 hm hmf hF2 hown2 k1 hbo hw1 hkey
  go_enter Try.func81, Try.ntmps81
  go_upto_region 1 with fail
  rw [← HW.out]
  go_upto_region 3 with fail
  clear c0 c1 c2 lW q0 q1 hlook hput
  go_wp2_with (at_builtin; refine append_int _ (by rfl) _ _ (by rfl) w0.heap.size (.slice av out.length cv) out (by rfl) hA W2.heap.size xn (by rfl) hG hlen hBs ?_; intro p5 c5 w5 ho5 ht5; obtain ⟨n1, n2, n3⟩ := HIW.out.add T2.out HF2.out ((Turned.refl W2 _).alloc (.cells #[.int .i64 xn] 3)) ht5 ho5; have m0 : w5.cell? ⟨bo, 0, none⟩ = some (.slice av out.length cv) := (by simp [World.cell?, n1, H1.out]); have m1 : w5.frozen? ⟨bo, 0, none⟩ = false := (by simp [World.frozen?, n1, H1.out]); have m2 : bo < w5.heap.size := (by rw [← n1] at H1; exact lt_of_block H1.out); have N2 := Lib.hid n2; have N3 := Lib.hid n3; clear n1 n2 n3 ho5 ht5)
  go_ret
  rw [Hvs.out]
  exact ⟨rfl, N2.out, TW.out.trans N3.out⟩

theorem varStep_node (out : List Int) (k n : Int) (l : List Tm) : varStep out (.node k n l) = if k = 1 ∧ n ∉ out then out ++ [n] else out := rfl

theorem varStep_len (out : List Int) (t : Tm) : (varStep out t).length ≤ out.length + 1 := by
  unfold varStep
  split <;> simp

theorem looks_vars (w0 : World) (bm bo b : Nat) : Looks w0 81 #[.pointer (some ⟨bm, 0, none⟩), .pointer (some ⟨bo, 0, none⟩)] (fun s x => (varStep s x, true)) (Vrs w0 bm bo b) (fun s n => s.length + n ≤ 1000000) Tm.small where
  run := fun x w => run_vars1 x bm bo w
  old := fun _ _ h => h.turned
  step := fun _ _ _ h t => h.step t
  less := fun _ _ h => by omega
  next := fun s t n h => by have := varStep_len s t; simp only; omega
  kids := Tm.small_kids
  call := fun s n t v w hq hG ht hI => vars1_any w0 bm bo b t v w s ht hG hI (by omega)

theorem visit_vars (w0 : World) (bm bo b : Nat) (ta : Tm) (va : Value) (w : World) (out : List Int) (m : Nat) (ha : TmIn w0 ta va) (hn : ta.small) (hI : Vrs w0 bm bo b out w) (hlen : out.length + (ta.size + m) ≤ 1000000) :
    Calls Try.prog 50 #[va, .func (.func 81) #[] #[.pointer (some ⟨bm, 0, none⟩), .pointer (some ⟨bo, 0, none⟩)]] w fun e w' => e = .returned (.bool true) ∧ Vrs w0 bm bo b (ta.walk varStep out) w' ∧ (ta.walk varStep out).length + m ≤ 1000000 := by
  refine (visit_any w0 _ _ _ _ _ _ (looks_vars w0 bm bo b) ta va out m w ha hn hI hlen).mono ?_
  rintro e w' ⟨he, h1, -, h2⟩
  rw [Tm.visit_walk] at he h1 h2
  exact ⟨he, h1, h2⟩

mutual
/-- Of trees, the two ways of collecting agree. -/
theorem Tm.walk_vars : ∀ (t : Tm) (out : List Int), t.right = true → t.walk varStep out = t.vars out
  | .node k n l, out, h => by
    obtain ⟨h1, h2⟩ := Tm.right_kids h
    simp only [Tm.walk, Tm.vars]
    by_cases hk : k = 1
    · rw [h2 hk, if_pos hk]
      simp only [Tm.walks, varStep_node, inB, decide_eq_true_eq]
      by_cases hm : n ∈ out
      · rw [if_pos hm, if_neg (fun h => h.2 hm)]
      · rw [if_neg hm, if_pos ⟨hk, hm⟩]
    · rw [if_neg hk, show varStep out (.node k n l) = out from if_neg (fun h => hk h.1)]
      exact Tm.walks_vars l out h1
theorem Tm.walks_vars : ∀ (l : List Tm) (out : List Int), Tm.rights l = true → Tm.walks varStep l out = Tm.varss l out
  | [], out, _ => rfl
  | t :: l, out, h => by
    simp only [Tm.rights, Bool.and_eq_true] at h
    simp only [Tm.walks, Tm.varss]
    rw [Tm.walk_vars t out h.1, Tm.walks_vars l _ h.2]
end

/-- What a function that gives a row of numbers anew gives. -/
def NewI (w : World) (l : List Int) (e : Ending) (w' : World) : Prop := ∃ v, e = .returned v ∧ OwnI w' w.heap.size v l ∧ Turned w w' (fun _ => False)

set_option maxRecDepth 100000 in
set_option maxHeartbeats 1600000 in
theorem variables_any (la : List Tm) (va : Value) (w : World) (ha : RowTm w va la) (hn : Tm.smalls la) (hsz : Tm.sizes la ≤ 1000000) :
    Calls Try.prog 57 #[va] w (NewI w (Tm.walks varStep la [])) := by
  obtain ⟨aa, ca, rfl, hla, ra⟩ := ha
  have hla2 := hla
  unfold maxLen at hla2
  obtain ⟨W, hall⟩ : ∃ W, W = ((w.alloc (.cells #[.slice none 0 0] 37)).alloc (.map #[] 0)).alloc (.cells #[.map (some (w.heap.size + 1))] 109) := ⟨_, rfl⟩
  obtain ⟨k1, k2, k3, tW, hWs⟩ := alloc3 hall
  have hI : Vrs w (w.heap.size + 1 + 1) w.heap.size (w.heap.size + 1) [] W := by
    refine ⟨tW, k3, ⟨_, k1, OwnI.nil _ _⟩, ⟨fun _ => none, ?_, fun n => by simp [metF]⟩, Nat.le_refl _, by omega⟩
    have h := MapV.made (w.alloc (.cells #[.slice none 0 0] 37)) 3
    rw [show (w.alloc (.cells #[.slice none 0 0] 37)).heap.size = w.heap.size + 1 by simp] at h
    rw [hall]
    exact h.turned ((Turned.refl _ (fun _ => False)).alloc _) (fun hf => hf)
  have hmf : ∀ (fn : Fn) (first cap : Array Value) (w : World), (Instr.makeFunc fn first cap).run Try.prog w = .ok (.func fn first cap) w := fun _ _ _ _ => rfl
  have hmm : ∀ (w : World), (Instr.makeMap 109 none).run Try.prog w = .ok (.map (some w.heap.size)) (w.alloc (.map #[] 0)) := fun _ => rfl
  have HW := Lib.hid hall
  have HI := Lib.hid hI
  have Ra := Lib.hid ra
  have Hn := Lib.hid hn
  clear hall k1 k2 k3 tW hI ra hn
  go_enter Try.func57, Try.ntmps57
  go_upto_region 3 with fail
  rw [← HW.out]
  clear hWs
  go_wp2
  go_loopw [10] (fun i wr => ∃ k : Nat, k ≤ la.length ∧ i = .int .i64 k ∧ Vrs w (w.heap.size + 1 + 1) w.heap.size (w.heap.size + 1) (Tm.walks varStep (la.take k) []) wr ∧ (Tm.walks varStep (la.take k) []).length + Tm.sizes (la.drop k) ≤ 1000000) (fun i _ => la.length - (intOf i).toNat)
  case atStart => exact ⟨0, Nat.zero_le _, rfl, HI.out, by simpa [Tm.walks] using hsz⟩
  case round =>
    obtain ⟨k, hk, rfl, hIr, hqr⟩ := hrel
    by_cases hlt : k < la.length
    · have hki : (k : Int) < (la.length : Int) := by omega
      obtain ⟨ga, oa, sa, sc, rfl, lga, xa0, xa1, xa2, xat⟩ := tmsIn_at2 Ra.out k hlt
      have lga' : ga < wr.heap.size := Nat.lt_of_lt_of_le lga hIr.turned.size
      have p0 := (hIr.turned.cell (p := ⟨ga, oa + k * 3, none⟩) lga (fun hf => hf)).trans xa0
      have p1 := (hIr.turned.cell (p := ⟨ga, oa + k * 3 + 1, none⟩) lga (fun hf => hf)).trans xa1
      have p2 := (hIr.turned.cell (p := ⟨ga, oa + k * 3 + 2, none⟩) lga (fun hf => hf)).trans xa2
      obtain ⟨U, hU, tU, hCU⟩ := box1 wr (.int .i64 la[k].kind) (.int .i64 la[k].num) (.slice sa la[k].kids.length sc) 24
      obtain ⟨u0, u1, u2, lU⟩ := hCU U (Turned.refl _ _)
      have hsz2 : Tm.sizes (la.drop k) = la[k].size + Tm.sizes (la.drop (k + 1)) := by rw [List.drop_eq_getElem_cons hlt]; simp only [Tm.sizes]
      have hsn : Tm.walks varStep (la.take (k + 1)) [] = la[k].walk varStep (Tm.walks varStep (la.take k) []) := by
        rw [List.take_succ_eq_append_getElem hlt, Tm.walks_app]
        rfl
      have Hcall := Lib.hid (visit_vars w (w.heap.size + 1 + 1) w.heap.size (w.heap.size + 1) la[k] _ U _ (Tm.sizes (la.drop (k + 1))) xat (Tm.smalls_mem Hn.out (List.getElem_mem hlt)) (hIr.step tU) (by omega))
      rw [← hsn] at Hcall
      have HU := Lib.hid hU
      clear xa0 xa1 xa2 xat lga hIr hCU tU hU hqr hsz2 hsn
      generalize la[k].kind = xk at *
      generalize la[k].num = xn at *
      generalize la[k].kids.length = xm at *
      go_upto_region 6 with fail
      rw [← HU.out]
      go_wp2_with fail
      refine Hcall.out.mono ?_
      rintro e w1 ⟨rfl, hf1, hq1⟩
      have F3 := Lib.hid hf1
      have Q3 := Lib.hid hq1
      clear hf1 hq1 p0 p1 p2 u0 u1 u2 lU
      go_wp2
      go_roundw
      case rel => exact ⟨k + 1, by omega, by go_num, F3.out, Q3.out⟩
      case measure => simp [intOf]; omega
    · obtain rfl : k = la.length := by omega
      rw [List.take_of_length_le (Nat.le_refl _)] at hIr
      obtain ⟨v, h1, h2⟩ := hIr.ho
      have e1 : wr.cell? ⟨w.heap.size, 0, none⟩ = some v := by simp [World.cell?, h1]
      have e2 := lt_of_block h1
      have Hfin := Lib.hid (show NewI w (Tm.walks varStep la []) (.returned v) wr from ⟨v, rfl, h2, hIr.turned⟩)
      clear h1 h2 hIr hqr
      go_wp2
      go_ret
      exact Hfin.out

/-! ### the greatest variable -/
theorem run_great1 (x : Value) (bt : Nat) (w : World) : (callFunc 83 (#[x] ++ #[.pointer (some ⟨bt, 0, none⟩)])).run Try.prog w = .ok (.enter 83 (#[x] ++ #[.pointer (some ⟨bt, 0, none⟩)])) w := by kernel_rfl

/-- One node more. -/
def topStep (top : Int) (t : Tm) : Int := if t.kind = 1 then max top t.num else top

/-- The greatest variable so far. -/
structure Top (w0 : World) (bt : Nat) (top : Int) (w : World) : Prop where
  turned : Turned w0 w (fun _ => False)
  ht : w.heap[bt]? = some (.cells #[.int .i64 top] 3 (0, 0))
  lo : w0.heap.size ≤ bt

theorem Top.step {w0 : World} {bt : Nat} {top : Int} {w w' : World} (h : Top w0 bt top w) (t : Turned w w' (fun _ => False)) : Top w0 bt top w' := ⟨h.turned.trans t (fun _ _ hf => hf), turn_keep t h.ht, h.lo⟩

theorem Top.set {w0 : World} {bt : Nat} {top : Int} {w : World} (h : Top w0 bt top w) (x : Int) : Top w0 bt x (w.setCell ⟨bt, 0, none⟩ (.int .i64 x)) ∧ KeepsT w (w.setCell ⟨bt, 0, none⟩ (.int .i64 x)) := by
  have ts : Turned w (w.setCell ⟨bt, 0, none⟩ (.int .i64 x)) (fun k => k = bt) := Turned.setCell (D := fun k => k = bt) (Turned.refl _ _) (p := ⟨bt, 0, none⟩) (fun _ => rfl) _
  have hl := h.lo
  refine ⟨⟨h.turned.trans ts (fun i hi e => by omega), setCell_one h.ht, h.lo⟩, ts.size, fun k c hk => ?_⟩
  have hne : k ≠ bt := fun e => by rw [e, h.ht] at hk; simp at hk
  exact (ts.block k (lt_of_block hk) hne).trans hk

set_option maxRecDepth 100000 in
set_option maxHeartbeats 1600000 in
theorem great1_any (w0 : World) (bt : Nat) (ta : Tm) (va : Value) (w : World) (top : Int) (ha : TmIn w0 ta va) (hI : Top w0 bt top w) :
    Calls Try.prog 83 #[va, .pointer (some ⟨bt, 0, none⟩)] w fun e w' => e = .returned (.bool true) ∧ Top w0 bt (topStep top ta) w' ∧ KeepsT w w' := by
  obtain ⟨aa, ca, rfl, hla, -⟩ := ha.form
  obtain ⟨W, hW, tW, hC⟩ := box1 w (.int .i64 ta.kind) (.int .i64 ta.num) (.slice aa ta.kids.length ca) 24
  obtain ⟨c0, c1, c2, lW⟩ := hC W (Turned.refl _ _)
  have hIW := hI.step tW
  have q0 : W.cell? ⟨bt, 0, none⟩ = some (.int .i64 top) := by simp [World.cell?, hIW.ht]
  have q1 : W.frozen? ⟨bt, 0, none⟩ = false := by simp [World.frozen?, hIW.ht]
  have q2 := lt_of_block hIW.ht
  have hvs : topStep top ta = if ta.kind = 1 then max top ta.num else top := rfl
  obtain ⟨g1, g2⟩ := hIW.set (max top ta.num)
  have HW := Lib.hid hW
  have TW := Lib.hid (KeepsT.of tW)
  have HIW := Lib.hid hIW
  have Hvs := Lib.hid hvs
  have G1 := Lib.hid g1
  have G2 := Lib.hid g2
  clear hW tW hC ha hla hI hvs hIW g1 g2
  generalize ta.kind = xk at *
  generalize ta.num = xn at *
  generalize ta.kids.length = xl at *
  by_cases hk : xk = 1
  · subst hk
    rw [if_pos rfl] at Hvs
    go_enter Try.func83, Try.ntmps83
    go_upto_region 1 with fail
    rw [← HW.out]
    by_cases hlt : top < xn
    · rw [show max top xn = xn by omega] at *
      go_wp2
      go_ret
      rw [Hvs.out]
      exact ⟨rfl, G1.out, TW.out.trans G2.out⟩
    · rw [show max top xn = top by omega] at *
      go_wp2
      go_ret
      rw [Hvs.out]
      exact ⟨rfl, G1.out, TW.out.trans G2.out⟩
  · have e1 : (xk == 1) = false := by simpa using hk
    rw [if_neg hk] at Hvs
    clear hk
    go_enter Try.func83, Try.ntmps83
    go_upto_region 1 with fail
    rw [← HW.out]
    go_wp2
    go_ret
    rw [Hvs.out]
    exact ⟨rfl, HIW.out, TW.out⟩

theorem looks_great (w0 : World) (bt : Nat) : Looks w0 83 #[.pointer (some ⟨bt, 0, none⟩)] (fun s x => (topStep s x, true)) (Top w0 bt) (fun _ _ => True) (fun _ => True) where
  run := fun x w => run_great1 x bt w
  old := fun _ _ h => h.turned
  step := fun _ _ _ h t => h.step t
  less := fun _ _ _ => trivial
  next := fun _ _ _ _ => trivial
  kids := fun _ _ _ _ _ _ => trivial
  call := fun s _ t v w _ _ ht hI => great1_any w0 bt t v w s ht hI

theorem visit_great (w0 : World) (bt : Nat) (ta : Tm) (va : Value) (w : World) (top : Int) (ha : TmIn w0 ta va) (hI : Top w0 bt top w) :
    Calls Try.prog 50 #[va, .func (.func 83) #[] #[.pointer (some ⟨bt, 0, none⟩)]] w fun e w' => e = .returned (.bool true) ∧ Top w0 bt (ta.walk topStep top) w' := by
  refine (visit_any w0 _ _ _ _ _ _ (looks_great w0 bt) ta va top 0 w ha trivial hI trivial).mono ?_
  rintro e w' ⟨he, h1, -, -⟩
  rw [Tm.visit_walk] at he h1
  exact ⟨he, h1⟩

/-- The greatest variable of trees. -/
def topOf (l : List Tm) : Int := Tm.walks topStep l (-1)

set_option maxRecDepth 100000 in
set_option maxHeartbeats 1600000 in
theorem greatest_any (la : List Tm) (va : Value) (w : World) (ha : RowTm w va la) :
    Calls Try.prog 65 #[va] w fun e w' => e = .returned (.int .i64 (topOf la)) ∧ Turned w w' (fun _ => False) := by
  obtain ⟨aa, ca, rfl, hla, ra⟩ := ha
  have hla2 := hla
  unfold maxLen at hla2
  obtain ⟨W, hall⟩ : ∃ W, W = w.alloc (.cells #[.int .i64 (-1)] 3) := ⟨_, rfl⟩
  have hI : Top w w.heap.size (-1) W := ⟨by rw [hall]; exact (Turned.refl _ _).alloc _, by rw [hall]; exact heap_alloc_new _ _, Nat.le_refl _⟩
  have hmf : ∀ (fn : Fn) (first cap : Array Value) (w : World), (Instr.makeFunc fn first cap).run Try.prog w = .ok (.func fn first cap) w := fun _ _ _ _ => rfl
  have HW := Lib.hid hall
  have HI := Lib.hid hI
  have Ra := Lib.hid ra
  clear hall hI ra
  go_enter Try.func65, Try.ntmps65
  go_upto_region 2 with fail
  rw [← HW.out]
  go_wp2
  go_loopw [8] (fun i wr => ∃ k : Nat, k ≤ la.length ∧ i = .int .i64 k ∧ Top w w.heap.size (Tm.walks topStep (la.take k) (-1)) wr) (fun i _ => la.length - (intOf i).toNat)
  case atStart => exact ⟨0, Nat.zero_le _, rfl, HI.out⟩
  case round =>
    obtain ⟨k, hk, rfl, hIr⟩ := hrel
    by_cases hlt : k < la.length
    · have hki : (k : Int) < (la.length : Int) := by omega
      obtain ⟨ga, oa, sa, sc, rfl, lga, xa0, xa1, xa2, xat⟩ := tmsIn_at2 Ra.out k hlt
      have lga' : ga < wr.heap.size := Nat.lt_of_lt_of_le lga hIr.turned.size
      have p0 := (hIr.turned.cell (p := ⟨ga, oa + k * 3, none⟩) lga (fun hf => hf)).trans xa0
      have p1 := (hIr.turned.cell (p := ⟨ga, oa + k * 3 + 1, none⟩) lga (fun hf => hf)).trans xa1
      have p2 := (hIr.turned.cell (p := ⟨ga, oa + k * 3 + 2, none⟩) lga (fun hf => hf)).trans xa2
      obtain ⟨U, hU, tU, hCU⟩ := box1 wr (.int .i64 la[k].kind) (.int .i64 la[k].num) (.slice sa la[k].kids.length sc) 24
      obtain ⟨u0, u1, u2, lU⟩ := hCU U (Turned.refl _ _)
      have hsn : Tm.walks topStep (la.take (k + 1)) (-1) = la[k].walk topStep (Tm.walks topStep (la.take k) (-1)) := by
        rw [List.take_succ_eq_append_getElem hlt, Tm.walks_app]
        rfl
      have Hcall := Lib.hid (visit_great w w.heap.size la[k] _ U _ xat (hIr.step tU))
      rw [← hsn] at Hcall
      have HU := Lib.hid hU
      clear xa0 xa1 xa2 xat lga hIr hCU tU hU hsn
      generalize la[k].kind = xk at *
      generalize la[k].num = xn at *
      generalize la[k].kids.length = xm at *
      go_upto_region 5 with fail
      rw [← HU.out]
      go_wp2_with fail
      refine Hcall.out.mono ?_
      rintro e w1 ⟨rfl, hf1⟩
      have F3 := Lib.hid hf1
      clear hf1 p0 p1 p2 u0 u1 u2 lU
      go_wp2
      go_roundw
      case rel => exact ⟨k + 1, by omega, by go_num, F3.out⟩
      case measure => simp [intOf]; omega
    · obtain rfl : k = la.length := by omega
      rw [List.take_of_length_le (Nat.le_refl _)] at hIr
      have e1 : wr.cell? ⟨w.heap.size, 0, none⟩ = some (.int .i64 (topOf la)) := by simp [World.cell?, hIr.ht, topOf]
      have e2 := lt_of_block hIr.ht
      have Hfin := Lib.hid hIr.turned
      clear hIr
      go_wp2
      go_ret
      exact ⟨rfl, Hfin.out⟩
end Go.Proofs.Ytljnmjehokijgaa

/- Normal: variables numbered by their first occurrence. -/
namespace Go.Proofs.Ytljnmjehokijgaa
open Go.RowKit

theorem zero_int (w : World) : (zeroValue 3).run Try.prog w = .ok (.int .i64 0) w := by kernel_rfl

/-- The numbers of variables. -/
def numF (l : List Int) (x : Lit) : Option Value := match x with
  | .int .i64 n => if n ∈ l then some (.int .i64 (l.idxOf n)) else none
  | _ => none

/-- The map of the numbers. -/
structure Nums (w : World) (bx b : Nat) (l : List Int) (n : Nat) : Prop where
  hx : w.heap[bx]? = some (.cells #[.map (some b)] 88 (0, 0))
  hf : ∃ F, MapV w 3 b n F ∧ ∀ n : Int, F (.int .i64 n) = numF l (.int .i64 n)

theorem Nums.turned {w w' : World} {bx b n : Nat} {l : List Int} (h : Nums w bx b l n) (t : Turned w w' (fun _ => False)) : Nums w' bx b l n := by
  obtain ⟨F, h1, h2⟩ := h.hf
  exact ⟨turn_keep t h.hx, ⟨F, h1.turned t (fun hf => hf), h2⟩⟩

theorem run_normal1 (x : Value) (bx : Nat) (w : World) : (callFunc 58 (#[x] ++ #[.pointer (some ⟨bx, 0, none⟩)])).run Try.prog w = .ok (.enter 58 (#[x] ++ #[.pointer (some ⟨bx, 0, none⟩)])) w := by kernel_rfl

set_option maxRecDepth 100000 in
set_option maxHeartbeats 1600000 in
theorem normal1_any (n : Int) (w : World) (bx b m : Nat) (l : List Int) (hS : Nums w bx b l m) (hn : -9223372036854775808 ≤ n ∧ n ≤ 9223372036854775807) (hl : n ∈ l) :
    Calls Try.prog 58 #[.int .i64 n, .pointer (some ⟨bx, 0, none⟩)] w (NewT w (Tm.leaf (l.idxOf n))) := by
  obtain ⟨W, hW, tW, hC⟩ := box1 w (.int .i64 0) (.int .i64 0) (.slice none 0 0) 24
  have k4 : W.heap[w.heap.size]? = some (.cells #[.int .i64 0, .int .i64 0, .slice none 0 0] 24 (0, 0)) := by
    rw [hW]
    exact alloc_at rfl
  have hSW := hS.turned tW
  obtain ⟨F, h1, h2⟩ := hSW.hf
  have hlook := h1.look (t := 88) (e := 3) intKeyed (by kernel_rfl) (zero_int W) (intKey hn)
  rw [h2] at hlook
  rw [show (numF l (.int .i64 n)).getD (.int .i64 0) = .int .i64 (l.idxOf n) by simp [numF, hl]] at hlook
  have q0 : W.cell? ⟨bx, 0, none⟩ = some (.map (some b)) := by simp [World.cell?, hSW.hx]
  have q1 := lt_of_block hSW.hx
  have hz : w.heap.size < W.heap.size := lt_of_block k4
  have Hcall := Lib.hid (sigVariable_any (l.idxOf n) W)
  have HW := Lib.hid hW
  have TW := Lib.hid tW
  have K4 := Lib.hid k4
  clear hW hC tW k4 hS hSW h1 h2
  generalize ((l.idxOf n : Nat) : Int) = m2 at *
  go_enter Try.func58, Try.ntmps58
  go_upto_region 1 with fail
  rw [← HW.out]
  go_wp2_with fail
  refine Hcall.out.mono ?_
  rintro e w2 ⟨v, rfl, hv, t2⟩
  obtain ⟨p, cp, rfl⟩ := hv.form
  have k42 := turn_keep t2 K4.out
  obtain ⟨e0, e1, e2, f0, f1, f2, l4⟩ := box3 k42
  obtain ⟨g1, g2⟩ := store3 k42 (.int .i64 1) (.int .i64 m2) (.slice p 0 cp)
  have Hfin := Lib.hid (show NewT w (Tm.leaf m2) (.returned (.agg #[.int .i64 1, .int .i64 m2, .slice p 0 cp])) _ from
    ⟨_, rfl, TmS.turned g2 (fun j _ hj e => by omega) (fun j _ hj => by omega) _ hv, (TW.out.trans t2 (fun _ _ hf => hf)).trans g2 (fun i hi e => by omega)⟩)
  have G1 := Lib.hid g1
  clear g1 g2 hv t2 k42 q0 q1 hlook
  go_wp2
  exact bodyPost_ret (results_term rfl G1.out rfl) rfl Hfin.out

theorem says_normal (w1 : World) (bx b m : Nat) (l : List Int) (hS : Nums w1 bx b l m) :
    Says w1 58 #[.pointer (some ⟨bx, 0, none⟩)] (fun n => Tm.leaf (l.idxOf n)) (fun n => (-9223372036854775808 ≤ n ∧ n ≤ 9223372036854775807) ∧ n ∈ l) :=
  ⟨fun x w => run_normal1 x bx w, fun n w hn hw => normal1_any n w bx b m l (hS.turned hw) hn.1 hn.2⟩

theorem varStep_nodup {out : List Int} (h : out.Nodup) (t : Tm) : (varStep out t).Nodup := by
  unfold varStep
  split
  · rename_i h2
    exact List.nodup_append.2 ⟨h, by simp, by
      intro a ha b hb
      rw [List.mem_singleton.1 hb]
      intro e
      exact h2.2 (e ▸ ha)⟩
  · exact h

mutual
theorem Tm.walk_nodup : ∀ (t : Tm) (out : List Int), out.Nodup → (t.walk varStep out).Nodup
  | .node k n l, out, h => by simp only [Tm.walk]; exact Tm.walks_nodup l _ (varStep_nodup h _)
theorem Tm.walks_nodup : ∀ (l : List Tm) (out : List Int), out.Nodup → (Tm.walks varStep l out).Nodup
  | [], _, h => h
  | t :: l, out, h => by simp only [Tm.walks]; exact Tm.walks_nodup l _ (Tm.walk_nodup t out h)
end

mutual
theorem Tm.vin_small (x : Int) : ∀ t : Tm, t.small → t.vin x → -9223372036854775808 ≤ x ∧ x ≤ 9223372036854775807
  | .node k n l, h, hx => by
    simp only [Tm.vin] at hx
    split at hx
    · rw [← hx]; exact h.1
    · exact Tm.vins_small x l h.2 hx
theorem Tm.vins_small (x : Int) : ∀ l : List Tm, Tm.smalls l → Tm.vins x l → -9223372036854775808 ≤ x ∧ x ≤ 9223372036854775807
  | t :: l, h, hx => by
    rcases hx with hx | hx
    · exact Tm.vin_small x t h.1 hx
    · exact Tm.vins_small x l h.2 hx
end

/-- The variables of trees, each once, by their first occurrence. -/
def wereOf (la : List Tm) : List Int := Tm.walks varStep la []

theorem wereOf_mem {la : List Tm} (hr : Tm.rights la = true) (x : Int) : x ∈ wereOf la ↔ Tm.vins x la := by
  unfold wereOf
  rw [Tm.walks_vars la [] hr, Tm.varss_mem]
  simp

theorem wereOf_small {la : List Tm} (hr : Tm.rights la = true) (hs : Tm.smalls la) {x : Int} (hx : x ∈ wereOf la) : -9223372036854775808 ≤ x ∧ x ≤ 9223372036854775807 := Tm.vins_small x la hs ((wereOf_mem hr x).1 hx)

theorem numF_next {l : List Int} {k : Nat} (hl : l.Nodup) (hk : k < l.length) (n : Int) (F : Lit → Option Value) (hF : ∀ n : Int, F (.int .i64 n) = numF (l.take k) (.int .i64 n)) :
    putF F (.int .i64 l[k]) (.int .i64 k) (.int .i64 n) = numF (l.take (k + 1)) (.int .i64 n) := by
  have hx : l[k] ∉ l.take k := by
    have h2 := hl
    rw [← List.take_append_drop k l, List.drop_eq_getElem_cons hk, List.nodup_append] at h2
    intro hm
    exact h2.2.2 _ hm _ (.head _) rfl
  have htl : (l.take k).length = k := by rw [List.length_take]; omega
  rw [List.take_succ_eq_append_getElem hk]
  simp only [putF, Lit.sameKey, true_and, decide_eq_true_eq, hF, numF]
  clear hF
  generalize l[k] = x at *
  generalize l.take k = A at *
  rw [List.idxOf_append]
  by_cases hn : n = x
  · subst hn
    rw [if_pos rfl, if_neg hx, if_pos (List.mem_append.2 (.inr (List.mem_singleton.2 rfl))), htl]
    simp
  · rw [if_neg hn]
    by_cases hm : n ∈ A
    · rw [if_pos hm, if_pos hm, if_pos (List.mem_append.2 (.inl hm))]
    · rw [if_neg hm, if_neg hm, if_neg]
      intro h
      rcases List.mem_append.1 h with h | h
      · exact hm h
      · exact hn (List.mem_singleton.1 h)

/-- A row of numbers is no map. -/
theorem RowI.turnedB {w w' : World} {v : Value} {l : List Int} {b : Nat} (h : RowI w v l) (t : Turned w w' (fun i => i = b)) (hb : ∃ es c, w.heap[b]? = some (.map es c)) : RowI w' v l := by
  obtain ⟨a, cap, hv, hl, hx⟩ := h
  refine ⟨a, cap, hv, hl, fun hne => ?_⟩
  obtain ⟨g, off, ha, hg, hc⟩ := hx hne
  have hgb : g ≠ b := fun e => by
    obtain ⟨es, c, hb⟩ := hb
    obtain ⟨x, l', rfl⟩ := List.exists_cons_of_ne_nil hne
    have := hc 0 x rfl
    rw [e] at this
    simp [World.cell?, hb] at this
  exact ⟨g, off, ha, Nat.lt_of_lt_of_le hg t.size, fun j x hj => (t.cell (p := ⟨g, off + j, none⟩) hg hgb).trans (hc j x hj)⟩

/-- What Normal gives. -/
def normTs (la : List Tm) : List Tm := Tm.fills (fun n => Tm.leaf ((wereOf la).idxOf n)) la
def NormP (w : World) (la : List Tm) (e : Ending) (w' : World) : Prop :=
  (la.all Tm.isTree = true → ∃ v1 v2, e = .returned (.tuple #[v1, v2, .int .i64 0]) ∧ RowTm w' v1 (normTs la) ∧ RowI w' v2 (wereOf la)) ∧
  (la.all Tm.isTree = false → e = .returned (.tuple #[.slice none 0 0, .slice none 0 0, .int .i64 4])) ∧ Turned w w' (fun _ => False)

set_option maxRecDepth 100000 in
set_option maxHeartbeats 3200000 in
theorem sigNormal_any (la : List Tm) (va : Value) (w : World) (ha : RowTm w va la) (hn : Tm.smalls la) (hsz : Tm.sizes la ≤ 1000000) :
    Calls Try.prog 22 #[va] w (NormP w la) := by
  have ha2 := ha
  obtain ⟨aa, ca, rfl, hla, ra⟩ := ha2
  have hla2 := hla
  unfold maxLen at hla2
  have HAll := Lib.hid (areTrees_any la _ w ha)
  have Hvar := Lib.hid (fun V (hV : Turned w V (fun _ => False)) => variables_any la _ V (ha.turned hV) hn hsz)
  cases hall : la.all Tm.isTree with
  | false =>
    rw [hall] at HAll
    have Hl := Lib.hid hall
    clear hall ha hn hsz Hvar ra
    go_enter Try.func22, Try.ntmps22
    go_wp2_with fail
    refine HAll.out.mono ?_
    rintro e w1 ⟨rfl, t1⟩
    have Hfin := Lib.hid (show NormP w la (.returned (.tuple #[.slice none 0 0, .slice none 0 0, .int .i64 4])) w1 from ⟨fun h => (by rw [Hl.out] at h; cases h), fun _ => rfl, t1⟩)
    clear t1
    go_wp2
    go_ret3
    exact Hfin.out
  | true =>
    rw [hall] at HAll
    have hr : Tm.rights la = true := by
      rw [Tm.rights_all, List.all_eq_true]
      rw [List.all_eq_true] at hall
      exact fun t ht => ((Tm.isTree_iff t).1 (hall t ht)).2.2
    have hwl : (wereOf la).length ≤ 1000000 := by
      unfold wereOf
      rw [Tm.walks_vars la [] hr]
      have := Tm.varss_len la []
      simp only [List.length_nil] at this
      omega
    have Hsm := Lib.hid (fun x hx => wereOf_small hr hn (x := x) hx)
    have Hnd := Lib.hid (show (wereOf la).Nodup from Tm.walks_nodup la [] List.nodup_nil)
    have Hl := Lib.hid hall
    have hmm : ∀ (w : World), (Instr.makeMap 88 none).run Try.prog w = .ok (.map (some w.heap.size)) (w.alloc (.map #[] 0)) := fun _ => rfl
    have hmf : ∀ (fn : Fn) (first cap : Array Value) (w : World), (Instr.makeFunc fn first cap).run Try.prog w = .ok (.func fn first cap) w := fun _ _ _ _ => rfl
    have hlen : la.length ≤ 1000000 := Nat.le_trans (Tm.sizes_len la) hsz
    have Hmem := Lib.hid (fun (t : Tm) (ht : t ∈ la) (x : Int) (hx : t.vin x) => show (-9223372036854775808 ≤ x ∧ x ≤ 9223372036854775807) ∧ x ∈ wereOf la from ⟨Tm.vin_small x t (Tm.smalls_mem hn ht) hx, (wereOf_mem hr x).2 (Tm.vins_mem ht hx)⟩)
    have Hszt := Lib.hid (fun (t : Tm) (ht : t ∈ la) => Nat.le_trans (Tm.sizes_mem ht) hsz)
    have Ra := Lib.hid ra
    clear hall ha hn hsz ra hr
    rw [show Tm.walks varStep la [] = wereOf la from rfl] at Hvar
    have Hwr := Lib.hid (show normTs la = Tm.fills (fun n => Tm.leaf ((wereOf la).idxOf n)) la from rfl)
    have Hnp := Lib.hid (fun (v1 v2 : Value) (w' : World) (h1 : RowTm w' v1 (normTs la)) (h2 : RowI w' v2 (wereOf la)) (t : Turned w w' (fun _ => False)) => show NormP w la (.returned (.tuple #[v1, v2, .int .i64 0])) w' from ⟨fun _ => ⟨v1, v2, rfl, h1, h2⟩, fun h => (by rw [Hl.out] at h; cases h), t⟩)
    rw [Hwr.out] at Hnp
    clear Hl Hwr
    generalize wereOf la = were at *
    go_enter Try.func22, Try.ntmps22
    go_wp2_with fail
    refine HAll.out.mono ?_
    rintro e w1 ⟨rfl, t1⟩
    go_wp2_with fail
    refine (Hvar.out w1 t1).mono ?_
    rintro e w2 ⟨v, rfl, ho, t2⟩
    obtain ⟨av, cv, rfl⟩ := ho.form
    have hrow := ho.row
    obtain ⟨W, hW⟩ : ∃ W, W = (w2.alloc (.map #[] 0)).alloc (.cells #[.map (some w2.heap.size)] 88) := ⟨_, rfl⟩
    have tW : Turned w2 W (fun _ => False) := by rw [hW]; exact ((Turned.refl _ _).alloc _).alloc _
    have hx0 : W.heap[w2.heap.size + 1]? = some (.cells #[.map (some w2.heap.size)] 88 (0, 0)) := by rw [hW]; exact alloc_at (by simp)
    have hM0 : MapV W 3 w2.heap.size 0 (fun _ => none) := by
      rw [hW]
      exact (MapV.made w2 3).turned ((Turned.refl _ (fun _ => False)).alloc _) (fun hf => hf)
    have HW := Lib.hid hW
    have HTW := Lib.hid ((t1.trans t2 (fun _ _ hf => hf)).trans tW (fun _ _ hf => hf))
    have HX0 := Lib.hid hx0
    have HM0 := Lib.hid hM0
    have Hrow := Lib.hid (hrow.turned tW)
    have hsb := (t1.trans t2 (fun _ _ hf => hf)).size
    clear hW tW hx0 hM0 hrow ho t1 t2 HAll Hvar
    go_upto_region 5 with fail
    rw [← HW.out]
    have hbw : w.heap.size ≤ w2.heap.size := hsb
    clear hsb
    generalize w2.heap.size = b at *
    clear HW
    go_wp2
    go_loopw [20] (fun i wr => ∃ k : Nat, k ≤ were.length ∧ i = .int .i64 k ∧ (∃ F, MapV wr 3 b k F ∧ ∀ n : Int, F (.int .i64 n) = numF (were.take k) (.int .i64 n)) ∧ Turned W wr (fun i => i = b)) (fun i _ => were.length - (intOf i).toNat)
    case atStart => exact ⟨0, Nat.zero_le _, rfl, ⟨_, HM0.out, fun n => by simp [numF]⟩, Turned.refl _ _⟩
    case round =>
      obtain ⟨k, hk, rfl, hF, ht⟩ := hrel
      have hbl : ∀ (j : Nat) (c : Array Value) (t : TypeId) (z : Nat × Nat), W.heap[j]? = some (.cells c t z) → j ≠ b := fun j c t z hj e => by
        obtain ⟨es, cc, hb⟩ := HM0.out.block
        rw [e, hb] at hj
        cases hj
      by_cases hlt : k < were.length
      · have hki : (k : Int) < (were.length : Int) := by omega
        obtain ⟨F, h3, h4⟩ := hF
        obtain ⟨gl, ol, rfl, lgl, xa⟩ := Hrow.out.at k hlt
        have hgb : gl ≠ b := fun e => by
          obtain ⟨es, cc, hb⟩ := HM0.out.block
          rw [e] at xa
          simp [World.cell?, hb] at xa
        have lgl' : gl < wr.heap.size := Nat.lt_of_lt_of_le lgl ht.size
        have p0 := (ht.cell (p := ⟨gl, ol + k, none⟩) lgl hgb).trans xa
        have kx := (ht.block _ (lt_of_block HX0.out) (hbl _ _ _ _ HX0.out)).trans HX0.out
        obtain ⟨bx, hbx⟩ : ∃ bx, bx = b + 1 := ⟨_, rfl⟩
        have q0 : wr.cell? ⟨b + 1, 0, none⟩ = some (.map (some b)) := by simp [World.cell?, kx]
        have q1 := lt_of_block kx
        obtain ⟨W2, hput, hM2, t2⟩ := h3.put (v := .int .i64 k) (t := 88) (e := 3) intKeyed (by kernel_rfl) (by unfold maxLen; omega) (intKey (Hsm.out were[k] (List.getElem_mem hlt)))
        have Hrel := Lib.hid (show (∃ F, MapV W2 3 b (k + 1) F ∧ ∀ n : Int, F (.int .i64 n) = numF (were.take (k + 1)) (.int .i64 n)) ∧ Turned W W2 (fun i => i = b) from
          ⟨⟨_, hM2, fun n => numF_next Hnd.out hlt n F h4⟩, ht.trans t2 (fun _ _ h => h)⟩)
        clear hbl h3 h4 hM2 t2 ht xa kx hbx hgb lgl
        generalize were[k] = x at *
        go_wp2
        go_roundw
        case rel => exact ⟨k + 1, by omega, by go_num, Hrel.out⟩
        case measure => simp [intOf]; omega
      · obtain rfl : k = were.length := by omega
        rw [List.take_of_length_le (Nat.le_refl _)] at hF
        have kx := (ht.block _ (lt_of_block HX0.out) (hbl _ _ _ _ HX0.out)).trans HX0.out
        have hN : Nums wr (b + 1) b were were.length := ⟨kx, hF⟩
        have q0 : wr.cell? ⟨b + 1, 0, none⟩ = some (.map (some b)) := by simp [World.cell?, kx]
        have q1 := lt_of_block kx
        have hw3 : Turned w wr (fun _ => False) := HTW.out.trans ht (fun i hi e => by omega)
        have HN := Lib.hid hN
        have HW3 := Lib.hid hw3
        have Hrow3 := Lib.hid (Hrow.out.turnedB ht HM0.out.block)
        have Hsay := Lib.hid (fun (V : World) (hV : Turned wr V (fun _ => False)) (t : Tm) (ht : t ∈ la) (vt : Value) (htV : TmIn V t vt) => filled_any V V (Turned.refl _ _) _ _ _ _ (says_normal V (b + 1) b were.length were (hN.turned hV)) t vt V htV (Turned.refl _ _) (Hmem.out t ht) (Hszt.out t ht))
        generalize (fun n => Tm.leaf ((were.idxOf n : Nat) : Int)) = mk at *
        clear hbl hN hw3 ht hF kx Hrow
        generalize wr = W3 at *
        go_wp2
        go_loopw [31, 9] (fun i u wr => ∃ k : Nat, k ≤ la.length ∧ i = .int .i64 k ∧ OwnTT wr W3.heap.size (fun g => NoR g ∨ W3.heap.size ≤ g) u (Tm.fills mk (la.take k)) ∧ Turned W3 wr (fun _ => False)) (fun i _ _ => la.length - (intOf i).toNat)
        case atStart => exact ⟨0, Nat.zero_le _, rfl, OwnT.nil _ _ _, Turned.refl _ _⟩
        case round =>
          obtain ⟨k, hk, rfl, hor, ht⟩ := hrel
          by_cases hlt : k < la.length
          · have hki : (k : Int) < (la.length : Int) := by omega
            have h0r := HW3.out.trans ht (fun _ _ hf => hf)
            obtain ⟨ga, oa, sa, sc, rfl, lga, xa0, xa1, xa2, xat⟩ := tmsIn_at2 Ra.out k hlt
            have lga' : ga < wr.heap.size := Nat.lt_of_lt_of_le lga h0r.size
            have p0 := (h0r.cell (p := ⟨ga, oa + k * 3, none⟩) lga (fun hf => hf)).trans xa0
            have p1 := (h0r.cell (p := ⟨ga, oa + k * 3 + 1, none⟩) lga (fun hf => hf)).trans xa1
            have p2 := (h0r.cell (p := ⟨ga, oa + k * 3 + 2, none⟩) lga (fun hf => hf)).trans xa2
            have hlk : (Tm.fills mk (la.take k)).length = k := by rw [fills_len, List.length_take]; omega
            obtain ⟨U, hU, tU, hCU⟩ := box1 wr (.int .i64 la[k].kind) (.int .i64 la[k].num) (.slice sa la[k].kids.length sc) 24
            obtain ⟨u0, u1, u2, lU⟩ := hCU U (Turned.refl _ _)
            have htU := ht.trans tU (fun _ _ hf => hf)
            obtain ⟨ua, uc, hu⟩ := hor.form
            rw [hlk] at hu
            subst hu
            have Hcall := Lib.hid (Hsay.out U htU la[k] (List.getElem_mem hlt) _ (TmIn.turned (h0r.trans tU (fun _ _ hf => hf)) _ xat))
            have HorU := Lib.hid (show OwnTT U W3.heap.size (fun g => NoR g ∨ W3.heap.size ≤ g) (.slice ua k uc) (Tm.fills mk (la.take k)) from OwnT.turned hor tU (fun _ _ hf => hf) (fun _ _ _ hf => hf) (fun _ _ h => h))
            have HtU := Lib.hid htU
            have Hlk := Lib.hid hlk
            have HU := Lib.hid hU
            have Hsn := Lib.hid (fills_take mk la k hlt)
            have hsU : W3.heap.size ≤ U.heap.size := htU.size
            clear hor ht hlk xa0 xa1 xa2 xat lga h0r hCU tU hU htU
            generalize la[k].kind = xk at *
            generalize la[k].num = xn at *
            generalize la[k].kids.length = xm at *
            go_upto_region 14 with fail
            rw [← HU.out]
            go_wp2_with fail
            refine Hcall.out.mono ?_
            rintro e w6 ⟨v1, rfl, hv1, t6⟩
            obtain ⟨q1', cq1, rfl⟩ := hv1.form
            obtain ⟨hA, hB, hC⟩ := put_one (R := NoR) HorU.out t6 (TmS.mono (fun j _ hj => .inr hj) _ hv1) (fun j hj => hj.elim) hsU
            have hG := heap_alloc_new w6 (.cells #[.int .i64 (la[k].fill mk).kind, .int .i64 (la[k].fill mk).num, .slice q1' (la[k].fill mk).kids.length cq1] 24)
            have HA := Lib.hid hA
            have HB := Lib.hid hB
            have HG := Lib.hid hG
            have HT2 := Lib.hid (show Turned W3 (w6.alloc (.cells #[.int .i64 (la[k].fill mk).kind, .int .i64 (la[k].fill mk).num, .slice q1' (la[k].fill mk).kids.length cq1] 24)) (fun _ => False) from (HtU.out.trans t6 (fun _ _ hf => hf)).alloc _)
            clear hA hB hG hv1 t6 u0 u1 u2 lU p0 p1 p2
            generalize hgk : (la[k].fill mk).kind = yk at *
            generalize hgn : (la[k].fill mk).num = yn at *
            generalize hgm : (la[k].fill mk).kids.length = ym at *
            clear hgk hgn hgm
            go_wp2_with (at_builtin; refine append_term _ (by rfl) _ _ (by rfl) W3.heap.size _ (.slice ua k uc) _ (la[k].fill mk) (by rfl) HA.out w6.heap.size (.int .i64 yk) (.int .i64 yn) (.slice q1' ym cq1) (by rfl) HG.out HB.out (by rw [Hlk.out]; omega) hC (w6.heap.size + 1) (by simp) ?_; intro g5 cap5 w7 ho5 ht5 hat5 hl5; have HO := Lib.hid ho5; have HT7 := Lib.hid (HT2.out.trans ht5 (fun i hi e => by have := (HA.out.own_le e).1; omega)); clear ho5 ht5 hat5 hl5)
            rw [← Hsn.out] at HO
            go_roundw
            case rel => exact ⟨k + 1, by omega, by go_num, HO.out, HT7.out⟩
            case measure => simp [intOf]; omega
          · obtain rfl : k = la.length := by omega
            rw [List.take_of_length_le (Nat.le_refl _)] at hor
            obtain ⟨pa, pc, hv, hln, hrow⟩ := hor.rowS (S' := fun _ => True) (fun _ _ _ => trivial) (fun _ _ => trivial)
            subst hv
            have Hfin := Lib.hid (Hnp.out (.slice pa (Tm.fills mk la).length pc) (.slice av were.length cv) wr ⟨pa, pc, rfl, hln, TmsS.toIn _ hrow⟩ (Hrow3.out.turned ht) (HW3.out.trans ht (fun _ _ hf => hf)))
            clear hor hln hrow ht
            go_wp2
            go_ret3
            exact Hfin.out
end Go.Proofs.Ytljnmjehokijgaa
