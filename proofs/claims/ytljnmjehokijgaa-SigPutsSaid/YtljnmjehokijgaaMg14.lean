/- Parts of the proof, one behind the other. -/
import Derived.DeepKeys5
import Derived.Test.YtljnmjehokijgaaMg13

/- The keys of areOps' map. -/
namespace Go.Proofs.Ytljnmjehokijgaa
open Go.RowKit
open Go.Maps (Keyed)

theorem face_law : WideMaps.KeyLaw Try.prog 124 :=
  Go.deep_law (m := 4) (by omega) (by kernel_rfl) (by kernel_rfl) (by kernel_rfl)

theorem faceKeyed : Keyed Try.prog 124 := Keyed.of_law face_law

theorem keyLits_string (d : Nat) (s : ByteArray) (h : s.size ≤ maxLen) : Try.prog.keyLits (d + 1) 9 [.string s] = some [.string s.data.toList] := by
  unfold Program.keyLits
  rw [Try.underlying9]
  simp [h]

theorem keyLits_byte (d : Nat) (x : Int) (h : 0 ≤ x ∧ x ≤ 255) : Try.prog.keyLits (d + 1) 5 [.int .u8 x] = some [.int .u8 x] := by
  unfold Program.keyLits
  rw [Try.underlying5]
  have : (Lit.int .u8 x).wf = true := by
    show (decide ((0 : Int) ≤ x) && decide (x ≤ (255 : Int))) = true
    simp [h.1, h.2]
  simp [this]

theorem keyLits_row (d : Nat) (f : Nat → Int) (h : ∀ i, 0 ≤ f i ∧ f i ≤ 255) : Try.prog.keyLits (d + 2) 122 [.int .u8 (f 0), .int .u8 (f 1), .int .u8 (f 2), .int .u8 (f 3), .int .u8 (f 4), .int .u8 (f 5), .int .u8 (f 6), .int .u8 (f 7)] =
    some [.int .u8 (f 0), .int .u8 (f 1), .int .u8 (f 2), .int .u8 (f 3), .int .u8 (f 4), .int .u8 (f 5), .int .u8 (f 6), .int .u8 (f 7)] := by
  unfold Program.keyLits
  rw [Try.underlying122]
  have h1 : Try.prog.cellsOf 5 = 1 := by kernel_rfl
  have h2 : Try.prog.cellsOf 122 = 8 := by kernel_rfl
  have hr : List.range 8 = [0, 1, 2, 3, 4, 5, 6, 7] := by decide
  simp only [h1, h2, hr, List.length_cons, List.length_nil]
  simp [keyLits_byte d _ (h _), List.mapM_cons]

/-- A face. -/
def faceV (nm : List UInt8) (f : Nat → Int) (n r : Int) : Value := .agg #[.string ⟨nm.toArray⟩, .int .u8 (f 0), .int .u8 (f 1), .int .u8 (f 2), .int .u8 (f 3), .int .u8 (f 4), .int .u8 (f 5), .int .u8 (f 6), .int .u8 (f 7), .int .u8 n, .int .u8 r]

theorem faceKey (nm : List UInt8) (f : Nat → Int) (n r : Int) (hn : nm.length ≤ 32) (h : ∀ i, 0 ≤ f i ∧ f i ≤ 255) (h1 : 0 ≤ n ∧ n ≤ 255) (h2 : 0 ≤ r ∧ r ≤ 255) : ∃ l, keyOf Try.prog 124 (faceV nm f n r) = some l := by
  unfold keyOf faceV
  rw [Try.underlying124]
  have k1 : Try.prog.keyType 124 = true := by kernel_rfl
  have k2 : ∀ (x0 x1 x2 x3 x4 x5 x6 x7 x8 x9 x10 : Value), Value.formed Try.prog 124 (.agg #[x0, x1, x2, x3, x4, x5, x6, x7, x8, x9, x10]) = true := fun _ _ _ _ _ _ _ _ _ _ _ => by kernel_rfl
  have k3 : Nat.ble 2 Try.prog.types.size = true := by kernel_rfl
  have k4 := Nat.le_of_ble_eq_true k3
  obtain ⟨m, hm⟩ : ∃ m, Try.prog.types.size = m + 2 := ⟨Try.prog.types.size - 2, by omega⟩
  have c1 : Try.prog.cellsOf 124 = 11 := by kernel_rfl
  have c2 : Try.prog.cellsOf 9 = 1 := by kernel_rfl
  have c3 : Try.prog.cellsOf 122 = 8 := by kernel_rfl
  have c4 : Try.prog.cellsOf 5 = 1 := by kernel_rfl
  simp only [k1, k2, Bool.true_and, if_true]
  rw [hm]
  unfold Program.keyLits
  rw [Try.underlying124]
  have e1 := keyLits_string (m + 1) ⟨nm.toArray⟩ (by simp [ByteArray.size]; unfold maxLen; omega)
  have e2 := keyLits_row m f h
  have e3 := keyLits_byte (m + 1) n h1
  have e4 := keyLits_byte (m + 1) r h2
  simp [c1, c2, c3, c4, e1, e2, e3, e4, Value.cells, List.mapM_cons]
end Go.Proofs.Ytljnmjehokijgaa

/- What areOps says of operations. -/
namespace Go.Proofs.Ytljnmjehokijgaa
open Go.RowKit
open Go.Maps (Keyed)

def faceO (o : OpD) : Value := faceV o.name (fun i => (o.args[i]?).getD 0) o.args.length o.res
noncomputable def faceL (o : OpD) : Lit := (keyOf Try.prog 124 (faceO o)).getD .nil

def opGood (n : Nat) (o : OpD) : Bool := decide (o.args.length ≤ 8) && o.args.all (belowB n) && belowB n o.res && opNameB o.name o.args.length
def opEq (o p : OpD) : Bool := o.name == p.name && o.args == p.args && o.res == p.res
def opAt (n : Nat) (ops : List OpD) (i : Nat) : Bool := match ops[i]? with
  | none => false
  | some o => opGood n o && !((ops.take i).any (opEq o))
def opsB (n : Nat) (ops : List OpD) : Bool := decide (ops.length ≤ 256) && (List.range ops.length).all (opAt n ops)

theorem belowB_iff {n : Nat} {x : Int} : belowB n x = true ↔ 0 ≤ x ∧ x < n := by
  unfold belowB
  simp

theorem opGood_parts {n : Nat} {o : OpD} (h : opGood n o = true) : o.args.length ≤ 8 ∧ (∀ x ∈ o.args, 0 ≤ x ∧ x < n) ∧ (0 ≤ o.res ∧ o.res < n) ∧ o.name.length ≤ 32 := by
  unfold opGood at h
  simp only [Bool.and_eq_true, decide_eq_true_eq] at h
  obtain ⟨⟨⟨h1, h2⟩, h3⟩, h4⟩ := h
  refine ⟨h1, fun x hx => belowB_iff.1 (List.all_eq_true.1 h2 x hx), belowB_iff.1 h3, ?_⟩
  unfold opNameB at h4
  simp only [Bool.and_eq_true] at h4
  exact nameB_len h4.1.1

theorem args_in {n : Nat} {l : List Int} (hn : n ≤ 64) (h : ∀ x ∈ l, 0 ≤ x ∧ x < n) (i : Nat) : 0 ≤ (l[i]?).getD 0 ∧ (l[i]?).getD 0 ≤ 255 := by
  cases he : l[i]? with
  | none => simp
  | some x =>
    have := h x (List.mem_of_getElem? he)
    simp only [Option.getD_some]
    omega

theorem faceL_key {n : Nat} {o : OpD} (hn : n ≤ 64) (h : opGood n o = true) : keyOf Try.prog 124 (faceO o) = some (faceL o) := by
  obtain ⟨h1, h2, h3, h4⟩ := opGood_parts h
  obtain ⟨l, hl⟩ := faceKey o.name (fun i => (o.args[i]?).getD 0) o.args.length o.res h4 (args_in hn h2) (by omega) (by omega)
  unfold faceL
  unfold faceO
  rw [hl]
  rfl

theorem faceO_inj {o p : OpD} (ho : o.args.length ≤ 8) (h : faceO o = faceO p) : o.name = p.name ∧ o.args = p.args ∧ o.res = p.res := by
  unfold faceO faceV at h
  simp only [Value.agg.injEq, Array.mk.injEq, List.cons.injEq, Value.string.injEq, Value.int.injEq, ByteArray.mk.injEq, true_and, and_true] at h
  obtain ⟨h1, a0, a1, a2, a3, a4, a5, a6, a7, hl, hr⟩ := h
  have hlen : o.args.length = p.args.length := by omega
  refine ⟨h1, List.ext_getElem hlen fun i hi1 hi2 => ?_, hr⟩
  have key : (o.args[i]?).getD 0 = (p.args[i]?).getD 0 := by
    have hi : i < 8 := by omega
    rcases (show i = 0 ∨ i = 1 ∨ i = 2 ∨ i = 3 ∨ i = 4 ∨ i = 5 ∨ i = 6 ∨ i = 7 by omega) with rfl | rfl | rfl | rfl | rfl | rfl | rfl | rfl <;> assumption
  rw [List.getElem?_eq_getElem hi1, List.getElem?_eq_getElem hi2] at key
  simpa using key

theorem face_self (v : Value) (l : Lit) (h : keyOf Try.prog 124 v = some l) : l.sameKey l = true := WideAt.sameKey_self (faceKeyed.key h)

theorem face_same {n : Nat} {o p : OpD} (hn : n ≤ 64) (ho : opGood n o = true) (hp : opGood n p = true) : (faceL o).sameKey (faceL p) = opEq o p := by
  have h1 := faceL_key hn ho
  have h2 := faceL_key hn hp
  cases h : opEq o p with
  | true =>
    unfold opEq at h
    simp only [Bool.and_eq_true, beq_iff_eq] at h
    obtain ⟨⟨e1, e2⟩, e3⟩ := h
    have : o = p := by
      obtain ⟨a, b, c⟩ := o
      obtain ⟨a', b', c'⟩ := p
      simp only at e1 e2 e3
      subst e1; subst e2; subst e3
      rfl
    subst this
    exact face_self _ _ h1
  | false =>
    cases hs : (faceL o).sameKey (faceL p) with
    | false => rfl
    | true =>
      have := WideAt.sameKey_eq hs
      rw [← this] at h2
      obtain ⟨e1, e2, e3⟩ := faceO_inj (opGood_parts ho).1 (faceKeyed.inj h1 h2)
      have ht : opEq o p = true := by
        unfold opEq
        simp only [e1, e2, e3, beq_self_eq_true, Bool.and_self]
      rw [ht] at h
      cases h

theorem met_faces {n : Nat} {o : OpD} (hn : n ≤ 64) (ho : opGood n o = true) : ∀ l : List OpD, (∀ p ∈ l, opGood n p = true) → (l.map faceL).any ((faceL o).sameKey ·) = l.any (opEq o)
  | [], _ => rfl
  | p :: l, h => by
    rw [List.map_cons, List.any_cons, List.any_cons, met_faces hn ho l (fun q hq => h q (.tail _ hq)), face_same hn ho (h p (.head _))]

theorem opsB_not {n : Nat} {ops : List OpD} {k : Nat} (hk : k < ops.length) (h : opAt n ops k = false) : opsB n ops = false := by
  unfold opsB
  rw [Bool.and_eq_false_iff]
  right
  rw [List.all_eq_false]
  exact ⟨k, by simpa using hk, by rw [h]; simp⟩

/-- A face's box, filled so far. -/
def faceCell (nm : List UInt8) (l : List Int) (n r : Int) (i : Nat) : Value :=
  if i = 0 then .string ⟨nm.toArray⟩ else if i ≤ 8 then .int .u8 ((l[i - 1]?).getD 0) else if i = 9 then .int .u8 n else .int .u8 r

def FaceAt (w : World) (B : Nat) (nm : List UInt8) (l : List Int) (n r : Int) : Prop := ∃ c : Array Value, w.heap[B]? = some (.cells c 124 (0, 0)) ∧ c.size = 11 ∧ ∀ i, i < 11 → c[i]? = some (faceCell nm l n r i)

theorem FaceAt.turned {w w' : World} {B : Nat} {nm : List UInt8} {l : List Int} {n r : Int} {D : Nat → Prop} (h : FaceAt w B nm l n r) (t : Turned w w' D) (hB : ¬ D B) : FaceAt w' B nm l n r := by
  obtain ⟨c, h1, h2, h3⟩ := h
  exact ⟨c, (t.block B (lt_of_block h1) hB).trans h1, h2, h3⟩

theorem FaceAt.put {w : World} {B : Nat} {nm : List UInt8} {l : List Int} {n r : Int} (h : FaceAt w B nm l n r) (x : Int) (hl : l.length < 8) : FaceAt (w.setCell ⟨B, 1 + l.length, none⟩ (.int .u8 x)) B nm (l ++ [x]) n r := by
  obtain ⟨c, h1, h2, h3⟩ := h
  refine ⟨_, setCell_block h1 _, by simp [h2], fun i hi => ?_⟩
  by_cases hi1 : i = 1 + l.length
  · subst hi1
    rw [Array.getElem?_setIfInBounds_self_of_lt (by omega)]
    unfold faceCell
    rw [if_neg (by omega), if_pos (by omega)]
    simp
  · rw [Array.getElem?_setIfInBounds_ne (by omega), h3 i hi]
    unfold faceCell
    by_cases h0 : i = 0
    · rw [if_pos h0, if_pos h0]
    · rw [if_neg h0, if_neg h0]
      by_cases h8 : i ≤ 8
      · rw [if_pos h8, if_pos h8]
        congr 3
        by_cases hlt : i - 1 < l.length
        · rw [List.getElem?_append_left hlt]
        · rw [List.getElem?_eq_none (by omega), List.getElem?_eq_none (by simp; omega)]
      · rw [if_neg h8, if_neg h8]

theorem FaceAt.cells {w : World} {B : Nat} {nm : List UInt8} {l : List Int} {n r : Int} (h : FaceAt w B nm l n r) (i : Nat) (hi : i < 11) : w.cell? ⟨B, i, none⟩ = some (faceCell nm l n r i) ∧ w.frozen? ⟨B, i, none⟩ = false ∧ B < w.heap.size := by
  obtain ⟨c, h1, h2, h3⟩ := h
  refine ⟨?_, ?_, lt_of_block h1⟩
  · simp only [World.cell?, h1]; exact h3 i hi
  · simp [World.frozen?, h1]
end Go.Proofs.Ytljnmjehokijgaa

/- areOps. -/
namespace Go.Proofs.Ytljnmjehokijgaa
open Go.RowKit
open Go.Maps (Keyed)

set_option maxRecDepth 100000 in
set_option maxHeartbeats 3200000 in
theorem areOps_any (ops : List OpD) (n : Nat) (hn : n ≤ 64) (b : Option Addr) (cb : Nat) (w : World) (hl : ops.length ≤ maxLen)
    (hops : ∀ (i : Nat) (hi : i < ops.length), ∃ g off aa ac, b = some ⟨g, off, none⟩ ∧ g < w.heap.size ∧ w.cell? ⟨g, off + i * 3, none⟩ = some (.string ⟨ops[i].name.toArray⟩) ∧ w.cell? ⟨g, off + i * 3 + 1, none⟩ = some (.slice aa ops[i].args.length ac) ∧ w.cell? ⟨g, off + i * 3 + 2, none⟩ = some (.int .i64 ops[i].res) ∧ RowI w (.slice aa ops[i].args.length ac) ops[i].args) :
    Calls Try.prog 76 #[.slice b ops.length cb, .int .i64 n] w fun e w' => e = .returned (.bool (opsB n ops)) ∧ Turned w w' (fun _ => False) := by
  have hl2 := hl
  unfold maxLen at hl2
  have Hops := Lib.hid hops
  have Hno := Lib.hid (fun k hk h => @opsB_not n ops k hk h)
  clear hops
  by_cases h256 : ops.length ≤ 256
  rotate_left 1
  · have Hv := Lib.hid (show opsB n ops = false by unfold opsB; rw [decide_eq_false h256, Bool.false_and])
    have z1 : (256 : Int) < (ops.length : Int) := by omega
    generalize opsB n ops = r at *
    go_enter Try.func76, Try.ntmps76
    go_wp2
    go_ret
    rw [Hv.out]
    exact ⟨rfl, Turned.refl _ _⟩
  have z1 : ¬ (256 : Int) < (ops.length : Int) := by omega
  have Hyes := Lib.hid (show (∀ i, i < ops.length → opAt n ops i = true) → opsB n ops = true by
    intro h
    unfold opsB
    rw [decide_eq_true h256, Bool.true_and, List.all_eq_true]
    exact fun i hi => h i (by simpa using hi))
  have hmm : ∀ (m : Int) (w : World), (Instr.makeMap 120 (some (.int .i64 m))).run Try.prog w = .ok (.map (some w.heap.size)) (w.alloc (.map #[] 0)) := fun _ _ => rfl
  obtain ⟨W, hW⟩ : ∃ W, W = w.alloc (.map #[] 0) := ⟨_, rfl⟩
  have hM0 : MetV W 124 w.heap.size 0 ((ops.take 0).map faceL) := by rw [hW]; exact MetV.made _ _
  have T0 := Lib.hid (show Turned w W (fun _ => False) by rw [hW]; exact (Turned.refl _ _).alloc _)
  have HM0 := Lib.hid hM0
  have HW := Lib.hid hW
  clear hM0 hW
  generalize opsB n ops = rr at *
  go_enter Try.func76, Try.ntmps76
  go_upto_region 4 with fail
  rw [← HW.out]
  clear hmm
  go_wp2
  go_loopw [19] (fun i wr => ∃ k : Nat, k ≤ ops.length ∧ i = .int .i64 k ∧ (∀ j, j < k → opAt n ops j = true) ∧ MetV wr 124 w.heap.size k ((ops.take k).map faceL) ∧ Turned w wr (fun _ => False)) (fun i _ => ops.length - (intOf i).toNat)
  case atStart => exact ⟨0, Nat.zero_le _, rfl, fun j hj => absurd hj (Nat.not_lt_zero _), HM0.out, T0.out⟩
  case round =>
    obtain ⟨k, hk, rfl, hpre, hM, ht⟩ := hrel
    by_cases hlt : k < ops.length
    · have hki : (k : Int) < (ops.length : Int) := by omega
      obtain ⟨g, off, aa, ac, rfl, lg, xa0, xa1, xa2, xrow⟩ := Hops.out k hlt
      have lg' : g < wr.heap.size := Nat.lt_of_lt_of_le lg ht.size
      have p0 := (ht.cell (p := ⟨g, off + k * 3, none⟩) lg (fun hf => hf)).trans xa0
      have p1 := (ht.cell (p := ⟨g, off + k * 3 + 1, none⟩) lg (fun hf => hf)).trans xa1
      have p2 := (ht.cell (p := ⟨g, off + k * 3 + 2, none⟩) lg (fun hf => hf)).trans xa2
      have hat : opAt n ops k = (opGood n ops[k] && !((ops.take k).any (opEq ops[k]))) := by
        unfold opAt
        rw [List.getElem?_eq_getElem hlt]
      have htk : (ops.take (k + 1)).map faceL = (ops.take k).map faceL ++ [faceL ops[k]] := by rw [List.take_succ_eq_append_getElem hlt, List.map_append]; rfl
      have hmet := fun (h : opGood n ops[k] = true) => met_faces hn h (ops.take k) (fun p hp => by
        obtain ⟨j, hj, rfl⟩ := List.getElem_of_mem hp
        rw [List.length_take] at hj
        have := hpre j (by omega)
        unfold opAt at this
        rw [List.getElem?_eq_getElem (by omega)] at this
        simp only [Bool.and_eq_true] at this
        rw [List.getElem_take]
        exact this.1)
      generalize ops[k] = o at *
      obtain ⟨nm, al, rs⟩ := o
      simp only at xa0 xa1 xa2 xrow p0 p1 p2
      obtain ⟨U, hU, tU, hCU⟩ := box1 wr (.string ⟨nm.toArray⟩) (.slice aa al.length ac) (.int .i64 rs) 98
      obtain ⟨u0, u1, u2, lU⟩ := hCU U (Turned.refl _ _)
      have tU0 := ht.trans tU (fun _ _ hf => hf)
      have Hb1 := Lib.hid (areBelow_any al n _ U (xrow.turned tU0))
      have Hb2 := Lib.hid (isBelow_any rs n U)
      have Hnm := Lib.hid (isOpName_any nm al.length U)
      have hgd : opGood n ⟨nm, al, rs⟩ = (decide (al.length ≤ 8) && al.all (belowB n) && belowB n rs && opNameB nm al.length) := rfl
      have Ht := Lib.hid ht
      have HTU := Lib.hid tU0
      have Hpre := Lib.hid hpre
      have Htk := Lib.hid htk
      have HM := Lib.hid (hM.turned tU (fun hf => hf))
      have Hmet := Lib.hid hmet
      have HU := Lib.hid hU
      have HCU := Lib.hid hCU
      have Hxr := Lib.hid xrow
      have hal : al.length ≤ maxLen := by obtain ⟨_, _, -, h, -⟩ := xrow; exact h
      unfold maxLen at hal
      clear hM htk hpre ht xa0 xa1 xa2 lg hmet hU tU hCU tU0 xrow
      by_cases hc1 : al.length ≤ 8
      rotate_left 1
      · rw [decide_eq_false hc1, Bool.false_and, Bool.false_and, Bool.false_and] at hgd
        have Hf := Lib.hid (Hno.out k hlt (by rw [hat, hgd, Bool.false_and]))
        have z2 : (8 : Int) < (al.length : Int) := by omega
        clear hgd hat
        go_upto_region 7 with fail
        rw [← HU.out]
        go_wp2
        go_ret
        rw [Hf.out]
        exact ⟨rfl, HTU.out⟩
      have z2 : ¬ (8 : Int) < (al.length : Int) := by omega
      rw [decide_eq_true hc1, Bool.true_and] at hgd
      cases hc2 : al.all (belowB n) with
      | false =>
        rw [hc2, Bool.false_and, Bool.false_and] at hgd
        rw [hc2] at Hb1
        have Hf := Lib.hid (Hno.out k hlt (by rw [hat, hgd, Bool.false_and]))
        clear hgd hat hc2
        go_upto_region 7 with fail
        rw [← HU.out]
        go_wp2_with fail
        refine Hb1.out.mono ?_
        rintro e w2 ⟨rfl, rfl⟩
        go_wp2
        go_ret
        rw [Hf.out]
        exact ⟨rfl, HTU.out⟩
      | true =>
      rw [hc2, Bool.true_and] at hgd
      rw [hc2] at Hb1
      have Hal := Lib.hid (fun x hx => belowB_iff.1 (List.all_eq_true.1 hc2 x hx))
      clear hc2
      cases hc3 : belowB n rs with
      | false =>
        rw [hc3, Bool.false_and] at hgd
        rw [hc3] at Hb2
        have Hf := Lib.hid (Hno.out k hlt (by rw [hat, hgd, Bool.false_and]))
        clear hgd hat hc3
        go_upto_region 7 with fail
        rw [← HU.out]
        go_wp2_with fail
        refine Hb1.out.mono ?_
        rintro e w2 ⟨rfl, rfl⟩
        go_wp2_with fail
        refine Hb2.out.mono ?_
        rintro e w3 ⟨rfl, rfl⟩
        go_wp2
        go_ret
        rw [Hf.out]
        exact ⟨rfl, HTU.out⟩
      | true =>
      rw [hc3, Bool.true_and] at hgd
      rw [hc3] at Hb2
      have hrs := belowB_iff.1 hc3
      clear hc3
      cases hc4 : opNameB nm al.length with
      | false =>
        rw [hc4] at hgd
        rw [hc4] at Hnm
        have Hf := Lib.hid (Hno.out k hlt (by rw [hat, hgd, Bool.false_and]))
        clear hgd hat hc4
        go_upto_region 7 with fail
        rw [← HU.out]
        go_wp2_with fail
        refine Hb1.out.mono ?_
        rintro e w2 ⟨rfl, rfl⟩
        go_wp2_with fail
        refine Hb2.out.mono ?_
        rintro e w3 ⟨rfl, rfl⟩
        go_wp2_with fail
        refine Hnm.out.mono ?_
        rintro e w4 ⟨rfl, t4⟩
        have T4 := Lib.hid (HTU.out.trans t4 (fun _ _ hf => hf))
        clear t4 u0 u1 u2 lU
        go_wp2
        go_ret
        rw [Hf.out]
        exact ⟨rfl, T4.out⟩
      | true =>
      rw [hc4] at hgd
      rw [hc4] at Hnm
      clear hc4
      rw [hgd, Bool.true_and] at hat
      have Hat := Lib.hid hat
      have Hkey := Lib.hid (faceL_key hn hgd)
      have Hmet2 := Lib.hid (Hmet.out hgd)
      clear hat hgd Hmet
      go_upto_region 7 with fail
      rw [← HU.out]
      go_wp2_with fail
      refine Hb1.out.mono ?_
      rintro e w2 ⟨rfl, rfl⟩
      go_wp2_with fail
      refine Hb2.out.mono ?_
      rintro e w3 ⟨rfl, rfl⟩
      go_wp2_with fail
      refine Hnm.out.mono ?_
      rintro e w4 ⟨rfl, t4⟩
      have T4 := Lib.hid (HTU.out.trans t4 (fun _ _ hf => hf))
      have HM4 := Lib.hid (HM.out.turned t4 (fun hf => hf))
      clear u0 u1 u2 lU
      obtain ⟨u0, u1, u2, lU⟩ := HCU.out w4 t4
      clear t4
      have hw8l : IntKind.u8.wrap (al.length : Int) = al.length := IntWalk.u8_in _ (by omega)
      have hw8r : IntKind.u8.wrap rs = rs := IntWalk.u8_in _ (by omega)
      go_upto_region 9 with fail
      go_upto_region 10 with fail
      obtain ⟨V, hV⟩ : ∃ V, V = w4.alloc (.cells #[.string ⟨nm.toArray⟩, .int .u8 0, .int .u8 0, .int .u8 0, .int .u8 0, .int .u8 0, .int .u8 0, .int .u8 0, .int .u8 0, .int .u8 al.length, .int .u8 rs] 124) := ⟨_, rfl⟩
      have tV : Turned w4 V (fun _ => False) := by rw [hV]; exact (Turned.refl _ _).alloc _
      have hF0 : FaceAt V w4.heap.size nm (al.take 0) al.length rs := by
        refine ⟨_, by rw [hV]; exact heap_alloc_new _ _, by simp, fun i hi => ?_⟩
        rcases (show i = 0 ∨ i = 1 ∨ i = 2 ∨ i = 3 ∨ i = 4 ∨ i = 5 ∨ i = 6 ∨ i = 7 ∨ i = 8 ∨ i = 9 ∨ i = 10 by omega) with rfl | rfl | rfl | rfl | rfl | rfl | rfl | rfl | rfl | rfl | rfl <;> rfl
      have HMV := Lib.hid (HM4.out.turned tV (fun hf => hf))
      have hmlt : w.heap.size < w4.heap.size := by obtain ⟨F, h, -⟩ := HM4.out; exact h.lt
      have u1' := (tV.cell (p := ⟨wr.heap.size, 1, none⟩) lU (fun hf => hf)).trans u1
      have lU' : wr.heap.size < V.heap.size := Nat.lt_of_lt_of_le lU tV.size
      have T5 := Lib.hid (T4.out.trans tV (fun _ _ hf => hf))
      have HF0 := Lib.hid hF0
      have HV := Lib.hid hV
      clear hV tV hF0 u0 u1 u2 lU hw8l hw8r T4 HM4 HM HTU Hnm Hb1 Hb2 HCU
      generalize w4.heap.size = Bf at *
      rw [← HV.out]
      go_wp2
      clear u1' lU' p0 p1 p2
      have Hz1 := Lib.hid z1
      generalize wr = W3 at *
      go_loopw [63] (fun i wr => ∃ j : Nat, j ≤ al.length ∧ i = .int .i64 j ∧ FaceAt wr Bf nm (al.take j) al.length rs ∧ Turned V wr (fun i => i = Bf)) (fun i _ => al.length - (intOf i).toNat)
      case atStart => exact ⟨0, Nat.zero_le _, rfl, HF0.out, Turned.refl _ _⟩
      case round =>
        obtain ⟨j, hj, rfl, hF, tv⟩ := hrel
        by_cases hjl : j < al.length
        · have hji : (j : Int) < (al.length : Int) := by omega
          have hj8 : (j : Int) < 8 := by omega
          obtain ⟨g2, o2, rfl, lg2, xa⟩ := Hxr.out.at j hjl
          have t0 : Turned w wr (fun _ => False) := T5.out.trans tv (fun i hi e => by omega)
          have lg2' : g2 < wr.heap.size := Nat.lt_of_lt_of_le lg2 t0.size
          have p3 := (t0.cell (p := ⟨g2, o2 + j, none⟩) lg2 (fun hf => hf)).trans xa
          have hx := Hal.out al[j] (List.getElem_mem hjl)
          have hw8 : IntKind.u8.wrap al[j] = al[j] := IntWalk.u8_in _ (by omega)
          have hlen : (al.take j).length = j := by rw [List.length_take]; omega
          have hput := hF.put al[j] (by rw [hlen]; omega)
          rw [hlen, ← List.take_succ_eq_append_getElem hjl] at hput
          obtain ⟨m0, m1, m2⟩ := hF.cells (1 + j) (by omega)
          have hs : Turned wr (wr.setCell ⟨Bf, 1 + j, none⟩ (.int .u8 al[j])) (fun i => i = Bf) := Turned.setCell (D := fun i => i = Bf) (Turned.refl wr _) (p := ⟨Bf, 1 + j, none⟩) (fun _ => rfl) _
          have NF := Lib.hid hput
          have NT := Lib.hid (tv.trans hs (fun _ _ h => h))
          clear hF tv t0 xa hput hs lg2 hlen hx
          generalize al[j] = xv at *
          go_wp2
          go_roundw
          case rel => exact ⟨j + 1, by omega, by go_num, NF.out, NT.out⟩
          case measure => simp [intOf]; omega
        · obtain rfl : j = al.length := by omega
          rw [List.take_of_length_le (Nat.le_refl _)] at hF
          obtain ⟨f, hf⟩ : ∃ f : Nat → Int, f = fun i => (al[i]?).getD 0 := ⟨_, rfl⟩
          have q0 : wr.cell? ⟨Bf, 0, none⟩ = some (.string ⟨nm.toArray⟩) := (hF.cells 0 (by omega)).1
          have q1 : wr.cell? ⟨Bf, 1, none⟩ = some (.int .u8 (f 0)) := by rw [hf]; exact (hF.cells 1 (by omega)).1
          have q2 : wr.cell? ⟨Bf, 2, none⟩ = some (.int .u8 (f 1)) := by rw [hf]; exact (hF.cells 2 (by omega)).1
          have q3 : wr.cell? ⟨Bf, 3, none⟩ = some (.int .u8 (f 2)) := by rw [hf]; exact (hF.cells 3 (by omega)).1
          have q4 : wr.cell? ⟨Bf, 4, none⟩ = some (.int .u8 (f 3)) := by rw [hf]; exact (hF.cells 4 (by omega)).1
          have q5 : wr.cell? ⟨Bf, 5, none⟩ = some (.int .u8 (f 4)) := by rw [hf]; exact (hF.cells 5 (by omega)).1
          have q6 : wr.cell? ⟨Bf, 6, none⟩ = some (.int .u8 (f 5)) := by rw [hf]; exact (hF.cells 6 (by omega)).1
          have q7 : wr.cell? ⟨Bf, 7, none⟩ = some (.int .u8 (f 6)) := by rw [hf]; exact (hF.cells 7 (by omega)).1
          have q8 : wr.cell? ⟨Bf, 8, none⟩ = some (.int .u8 (f 7)) := by rw [hf]; exact (hF.cells 8 (by omega)).1
          have q9 : wr.cell? ⟨Bf, 9, none⟩ = some (.int .u8 al.length) := (hF.cells 9 (by omega)).1
          have q10 : wr.cell? ⟨Bf, 10, none⟩ = some (.int .u8 rs) := (hF.cells 10 (by omega)).1
          have lB : Bf < wr.heap.size := (hF.cells 0 (by omega)).2.2
          have hMr := HMV.out.turned tv (by omega)
          have hkey2 : keyOf Try.prog 124 (.agg #[.string ⟨nm.toArray⟩, .int .u8 (f 0), .int .u8 (f 1), .int .u8 (f 2), .int .u8 (f 3), .int .u8 (f 4), .int .u8 (f 5), .int .u8 (f 6), .int .u8 (f 7), .int .u8 al.length, .int .u8 rs]) = some (faceL ⟨nm, al, rs⟩) := by rw [hf]; exact Hkey.out
          have hlk := hMr.look (t := 120) faceKeyed (by kernel_rfl) hkey2
          rw [Hmet2.out] at hlk
          obtain ⟨w6, hput, hM6, t6⟩ := hMr.put (t := 120) faceKeyed (by kernel_rfl) (by unfold maxLen; omega) hkey2
          rw [← Htk.out] at hM6
          have T6 := Lib.hid (T5.out.trans tv (fun i hi e => by omega))
          have T7 := Lib.hid (T6.out.trans t6 (fun i hi e => by omega))
          have HM6 := Lib.hid hM6
          clear hF hf hMr hkey2 hM6 t6 tv
          generalize (ops.take k).any (opEq ⟨nm, al, rs⟩) = mb at *
          cases mb
          · go_wp2
            go_roundw
            case rel => exact ⟨k + 1, by omega, by go_num, fun i hi => by
              rcases Nat.lt_or_ge i k with h | h
              · exact Hpre.out i h
              · obtain rfl : i = k := by omega
                rw [Hat.out]; rfl, HM6.out, T7.out⟩
            case measure => simp [intOf]; omega
          · have Hf := Lib.hid (Hno.out k hlt (by rw [Hat.out]; rfl))
            go_wp2
            go_ret
            rw [Hf.out]
            exact ⟨rfl, T6.out⟩
    · obtain rfl : k = ops.length := by omega
      have Ht := Lib.hid ht
      have Hf := Lib.hid (Hyes.out hpre)
      clear hM hpre ht
      go_wp2
      go_ret
      rw [Hf.out]
      exact ⟨rfl, Ht.out⟩
end Go.Proofs.Ytljnmjehokijgaa

/- Check. -/
namespace Go.Proofs.Ytljnmjehokijgaa
open Go.RowKit

/-- What Check answers. -/
def checkE (ss : List (List UInt8)) (ops : List OpD) : Int := if (sortsB ss && opsB ss.length ops) = true then 0 else 40

theorem SigIn.sorts {w : World} {s : List (List UInt8)} {l : List OpD} {a b : Option Addr} {ca cb : Nat} (h : SigIn w s l (.agg #[.slice a s.length ca, .slice b l.length cb])) : RowS w (.slice a s.length ca) s := by
  obtain ⟨a', ca', b', cb', hv, h1, h2, h3, h4⟩ := h
  simp only [Value.agg.injEq, Array.mk.injEq, List.cons.injEq, Value.slice.injEq, and_true] at hv
  obtain ⟨⟨rfl, -, rfl⟩, -⟩ := hv
  exact ⟨_, _, rfl, h1, h3⟩

set_option maxRecDepth 100000 in
set_option maxHeartbeats 1600000 in
theorem sigCheck_any (ss : List (List UInt8)) (ops : List OpD) (w : World) (vS : Value) (hS : SigIn w ss ops vS) :
    Calls Try.prog 34 #[vS] w fun e w' => e = .returned (.int .i64 (checkE ss ops)) ∧ Turned w w' (fun _ => False) := by
  have hS2 := hS
  obtain ⟨as_, cs_, bs_, cb_, rfl, -⟩ := hS2
  obtain ⟨W, hW⟩ : ∃ W, W = w.alloc (.cells #[.slice as_ ss.length cs_, .slice bs_ ops.length cb_] 60) := ⟨_, rfl⟩
  have tW : Turned w W (fun _ => False) := by rw [hW]; exact (Turned.refl _ _).alloc _
  have k0 : W.heap[w.heap.size]? = some (.cells #[.slice as_ ss.length cs_, .slice bs_ ops.length cb_] 60 (0, 0)) := by rw [hW]; exact heap_alloc_new _ _
  have hB : ∀ V, Turned W V (fun _ => False) → V.cell? ⟨w.heap.size, 0, none⟩ = some (.slice as_ ss.length cs_) ∧ V.cell? ⟨w.heap.size, 1, none⟩ = some (.slice bs_ ops.length cb_) ∧ w.heap.size < V.heap.size := fun V hV => by
    obtain ⟨a, b, -, -, c⟩ := boxE (turn_keep hV k0)
    exact ⟨a, b, c⟩
  have Hso := Lib.hid (areSorts_any ss _ W (hS.turned tW).sorts)
  have Hop := Lib.hid (fun V (hV : Turned W V (fun _ => False)) (h64 : ss.length ≤ 64) => by
    obtain ⟨-, -, -, hol, hops⟩ := (hS.turned (tW.trans hV (fun _ _ hf => hf))).op
    exact areOps_any ops ss.length h64 bs_ cb_ V hol hops)
  have H64 := Lib.hid (show sortsB ss = true → ss.length ≤ 64 from fun h => by
    unfold sortsB at h
    simp only [Bool.and_eq_true, decide_eq_true_eq] at h
    exact h.1)
  have Hv := Lib.hid (show checkE ss ops = if (sortsB ss && opsB ss.length ops) = true then 0 else 40 from rfl)
  have HB := Lib.hid hB
  have HW := Lib.hid hW
  have TW := Lib.hid tW
  clear hB hW tW k0 hS
  generalize checkE ss ops = r at *
  obtain ⟨a0, a1, a2⟩ := HB.out W (Turned.refl _ _)
  generalize hsb : sortsB ss = sb at *
  clear hsb
  cases sb
  · rw [Bool.false_and, if_neg (by simp)] at Hv
    go_enter Try.func34, Try.ntmps34
    go_upto_region 1 with fail
    rw [← HW.out]
    go_wp2_with fail
    refine Hso.out.mono ?_
    rintro e w1 ⟨rfl, t1⟩
    have T1 := Lib.hid (TW.out.trans t1 (fun _ _ hf => hf))
    clear t1 a0 a1 a2
    go_wp2
    go_ret
    rw [Hv.out]
    exact ⟨rfl, T1.out⟩
  · rw [Bool.true_and] at Hv
    have Hop2 := Lib.hid (fun V hV => Hop.out V hV (H64.out (by first | rfl | trivial)))
    clear Hop H64
    generalize opsB ss.length ops = ob at *
    cases ob
    · rw [if_neg (by simp)] at Hv
      go_enter Try.func34, Try.ntmps34
      go_upto_region 1 with fail
      rw [← HW.out]
      go_wp2_with fail
      refine Hso.out.mono ?_
      rintro e w1 ⟨rfl, t1⟩
      have T1 := Lib.hid t1
      clear a0 a1 a2
      obtain ⟨a0, a1, a2⟩ := HB.out w1 t1
      clear t1
      go_wp2_with fail
      refine (Hop2.out w1 T1.out).mono ?_
      rintro e w2 ⟨rfl, t2⟩
      have T2 := Lib.hid ((TW.out.trans T1.out (fun _ _ hf => hf)).trans t2 (fun _ _ hf => hf))
      clear t2 a0 a1 a2
      go_wp2
      go_ret
      rw [Hv.out]
      exact ⟨rfl, T2.out⟩
    · rw [if_pos rfl] at Hv
      go_enter Try.func34, Try.ntmps34
      go_upto_region 1 with fail
      rw [← HW.out]
      go_wp2_with fail
      refine Hso.out.mono ?_
      rintro e w1 ⟨rfl, t1⟩
      have T1 := Lib.hid t1
      clear a0 a1 a2
      obtain ⟨a0, a1, a2⟩ := HB.out w1 t1
      clear t1
      go_wp2_with fail
      refine (Hop2.out w1 T1.out).mono ?_
      rintro e w2 ⟨rfl, t2⟩
      have T2 := Lib.hid ((TW.out.trans T1.out (fun _ _ hf => hf)).trans t2 (fun _ _ hf => hf))
      clear t2 a0 a1 a2
      go_wp2
      go_ret
      rw [Hv.out]
      exact ⟨rfl, T2.out⟩

/-- The law's own signature is one. -/
theorem checkE_numbers : checkE numSorts numOps = 0 := by
  have h : (sortsB numSorts && opsB numSorts.length numOps) = true := by decide +kernel
  unfold checkE
  rw [if_pos h]
end Go.Proofs.Ytljnmjehokijgaa
