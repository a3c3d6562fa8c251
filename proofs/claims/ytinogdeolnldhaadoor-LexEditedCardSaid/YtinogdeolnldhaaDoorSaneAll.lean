/- The law's check of itself holds. -/
import Derived.Test.YtinogdeolnldhaaDoorJoin
import Derived.Test.YtinogdeolnldhaaDoorHas
import Derived.Test.YtinogdeolnldhaaDoorStrip
import Derived.LoopN
namespace Go.Proofs.YtinogdeolnldhaaDoor
open Go.RowKit

def okB (ts : List Lx.Tok) (words : List Lx.Bytes) (ats : List Nat) : Bool :=
  (List.range ts.length).all fun j => match ts[j]? with
    | some t => spell (ofTok t) == words.getD j [] && t.at_ == ats.getD j 0 && decide (t.n ≤ 100000)
    | none => true

theorem okB_all {ts : List Lx.Tok} {words : List Lx.Bytes} {ats : List Nat} (h : okB ts words ats = true) : ∀ j t, ts[j]? = some t → spell (ofTok t) = words.getD j [] ∧ t.at_ = ats.getD j 0 ∧ (ofTok t).wide := by
  intro j t hj
  have h1 := List.all_eq_true.1 h j (List.mem_range.2 (List.getElem?_eq_some_iff.1 hj).1)
  rw [hj] at h1
  simp only [Bool.and_eq_true, beq_iff_eq, decide_eq_true_eq] at h1
  refine ⟨h1.1.1, h1.1.2, ?_⟩
  unfold ATok.wide ofTok
  simp only
  omega

def txt1 : Lx.Bytes := [80, 91, 97, 93, 62, 62, 98, 59, 105]
def wds1 : List Lx.Bytes := [[80], [91], [97], [93], [62, 62], [98], [59], [105]]
def ats1 : List Nat := [0, 1, 2, 3, 4, 6, 7, 8]
def txt2 : Lx.Bytes := [120, 39, 32, 58, 61, 32, 49, 50, 46, 46, 53, 32, 40, 42, 32, 40, 42, 32, 42, 41, 32, 42, 41, 32, 91, 62]
def wds2 : List Lx.Bytes := [[120, 39], [58, 61], [49, 50], [46, 46], [53], [91, 62]]
def ats2 : List Nat := [0, 3, 6, 8, 10, 24]
theorem txt1_bad : (Lx.toks txt1).bad = none := by decide +kernel
theorem txt1_len : (Lx.toks txt1).toks.length = 8 := by decide +kernel
theorem txt1_ok : okB (Lx.toks txt1).toks wds1 ats1 = true := by decide +kernel
theorem txt2_bad : (Lx.toks txt2).bad = none := by decide +kernel
theorem txt2_len : (Lx.toks txt2).toks.length = 6 := by decide +kernel
theorem txt2_ok : okB (Lx.toks txt2).toks wds2 ats2 = true := by decide +kernel
def bad1 : Lx.Bytes := [97, 124, 91, 98, 93, 124, 124, 99]
def bad2 : Lx.Bytes := [40, 42, 32, 40, 42, 32, 42, 41]
def bad3 : Lx.Bytes := [97, 32, 49, 50, 98]
theorem bad1_at : (Lx.toks bad1).bad = some 6 := by decide +kernel
theorem bad2_at : (Lx.toks bad2).bad = some 0 := by decide +kernel
theorem bad3_at : (Lx.toks bad3).bad = some 2 := by decide +kernel

def badL : List Lx.Bytes := [bad1, bad2, bad3]
def badA : List Nat := [6, 0, 2]
def badC : Array Value := #[.string ⟨#[97, 124, 91, 98, 93, 124, 124, 99]⟩, .int .i64 6, .string ⟨#[40, 42, 32, 40, 42, 32, 42, 41]⟩, .int .i64 0, .string ⟨#[97, 32, 49, 50, 98]⟩, .int .i64 2]
theorem bad_at : ∀ k, k < 3 → (Lx.toks (badL.getD k [])).bad = some (badA.getD k 0) ∧ (badL.getD k []).length ≤ 1000 ∧ badC[k * 2]? = some (.string ⟨(badL.getD k []).toArray⟩) ∧ badC[k * 2 + 1]? = some (.int .i64 (badA.getD k 0 : Nat)) ∧ badA.getD k 0 ≤ 1000
  | 0, _ => ⟨bad1_at, by decide, rfl, rfl, by decide⟩
  | 1, _ => ⟨bad2_at, by decide, rfl, rfl, by decide⟩
  | 2, _ => ⟨bad3_at, by decide, rfl, rfl, by decide⟩

/-- Words in memory. -/
theorem words_at {w : World} {b : Nat} {l : List Lx.Bytes} {t : TypeId} {z : Nat × Nat} (h : w.heap[b]? = some (.cells (l.map str).toArray t z)) : ∀ j, j < l.length → w.cell? ⟨b, j, none⟩ = some (str (l.getD j [])) := by
  intro j hj
  simp [World.cell?, h, List.getD_eq_getElem?_getD, List.getElem?_eq_getElem hj]
theorem nums_at {w : World} {b : Nat} {l : List Nat} {t : TypeId} {z : Nat × Nat} (h : w.heap[b]? = some (.cells (l.map fun (n : Nat) => Value.int .i64 (n : Int)).toArray t z)) : ∀ j, j < l.length → w.cell? ⟨b, j, none⟩ = some (.int .i64 (l.getD j 0 : Nat)) := by
  intro j hj
  simp [World.cell?, h, List.getD_eq_getElem?_getD, List.getElem?_eq_getElem hj]

theorem tokens_bad (w : World) (he : Env w) (h7 : 7 ≤ w.heap.size) (l : Lx.Bytes) (q : Nat) (hl : l.length ≤ 1000) (hq : (Lx.toks l).bad = some q) :
    Calls Tryd.prog 10 #[.string ⟨l.toArray⟩] w fun e w' => e = .returned (.tuple #[.slice none 0 0, .int .i64 q, .int .i64 10]) ∧ Below w.heap.size w w' := by
  refine (tokens_any w he h7 ⟨l.toArray⟩).mono ?_
  rintro e w' ⟨hp, hb⟩
  unfold TokPost at hp
  rw [el_of, es_of, if_neg (by omega), hq] at hp
  exact ⟨hp, hb⟩

theorem has1 (w : World) (he : Env w) (h7 : 7 ≤ w.heap.size) :
    Calls Tryd.prog 21 #[.string ⟨txt1.toArray⟩, .slice (some ⟨w.heap.size, 0, none⟩) 8 8, .slice (some ⟨w.heap.size + 1, 0, none⟩) 8 8]
      ((w.alloc (.cells (wds1.map str).toArray 9)).alloc (.cells (ats1.map fun (n : Nat) => Value.int .i64 (n : Int)).toArray 3)) fun e w' => e = .returned (.bool true) ∧ Below w.heap.size w w' := by
  have t1 : Turned w (w.alloc (.cells (wds1.map str).toArray 9)) (fun _ => False) := (Turned.refl w _).alloc _
  have z1 : (w.alloc (.cells (wds1.map str).toArray 9)).heap.size = w.heap.size + 1 := by simp
  have k1 := heap_alloc_new w (.cells (wds1.map str).toArray 9)
  generalize w.alloc (.cells (wds1.map str).toArray 9) = w1 at *
  have t2 := t1.alloc (.cells (ats1.map fun (n : Nat) => Value.int .i64 (n : Int)).toArray 3)
  have k2 := heap_alloc_new w1 (.cells (ats1.map fun (n : Nat) => Value.int .i64 (n : Int)).toArray 3)
  have k3 := (Below.heap_alloc w1 (.cells (ats1.map fun (n : Nat) => Value.int .i64 (n : Int)).toArray 3) _ (lt_of_block k1)).trans k1
  have b2 := t2.below (B := w.heap.size) (Nat.le_refl _) (fun _ hf => hf.elim)
  rw [z1] at k2
  generalize w1.alloc (.cells (ats1.map fun (n : Nat) => Value.int .i64 (n : Int)).toArray 3) = w2 at *
  refine (has_yes txt1 8 wds1 ats1 w.heap.size (w.heap.size + 1) w2 (he.turned t2 h7 (fun _ hf => hf.elim)) (Nat.le_trans h7 t2.size) (by decide) txt1_bad txt1_len (by decide) (lt_of_block k3) (lt_of_block k2) (words_at k3) (nums_at k2) (okB_all txt1_ok)).mono ?_
  rintro e w' ⟨h1, h2⟩
  exact ⟨h1, b2.trans (h2.mono b2.size)⟩

theorem has2 (w : World) (he : Env w) (h7 : 7 ≤ w.heap.size) :
    Calls Tryd.prog 21 #[.string ⟨txt2.toArray⟩, .slice (some ⟨w.heap.size, 0, none⟩) 6 6, .slice (some ⟨w.heap.size + 1, 0, none⟩) 6 6]
      ((w.alloc (.cells (wds2.map str).toArray 9)).alloc (.cells (ats2.map fun (n : Nat) => Value.int .i64 (n : Int)).toArray 3)) fun e w' => e = .returned (.bool true) ∧ Below w.heap.size w w' := by
  have t1 : Turned w (w.alloc (.cells (wds2.map str).toArray 9)) (fun _ => False) := (Turned.refl w _).alloc _
  have z1 : (w.alloc (.cells (wds2.map str).toArray 9)).heap.size = w.heap.size + 1 := by simp
  have k1 := heap_alloc_new w (.cells (wds2.map str).toArray 9)
  generalize w.alloc (.cells (wds2.map str).toArray 9) = w1 at *
  have t2 := t1.alloc (.cells (ats2.map fun (n : Nat) => Value.int .i64 (n : Int)).toArray 3)
  have k2 := heap_alloc_new w1 (.cells (ats2.map fun (n : Nat) => Value.int .i64 (n : Int)).toArray 3)
  have k3 := (Below.heap_alloc w1 (.cells (ats2.map fun (n : Nat) => Value.int .i64 (n : Int)).toArray 3) _ (lt_of_block k1)).trans k1
  have b2 := t2.below (B := w.heap.size) (Nat.le_refl _) (fun _ hf => hf.elim)
  rw [z1] at k2
  generalize w1.alloc (.cells (ats2.map fun (n : Nat) => Value.int .i64 (n : Int)).toArray 3) = w2 at *
  refine (has_yes txt2 6 wds2 ats2 w.heap.size (w.heap.size + 1) w2 (he.turned t2 h7 (fun _ hf => hf.elim)) (Nat.le_trans h7 t2.size) (by decide) txt2_bad txt2_len (by decide) (lt_of_block k3) (lt_of_block k2) (words_at k3) (nums_at k2) (okB_all txt2_ok)).mono ?_
  rintro e w' ⟨h1, h2⟩
  exact ⟨h1, b2.trans (h2.mono b2.size)⟩

theorem kindS (w V : World) (he : Env w) (h7 : 7 ≤ w.heap.size) (hb : Below w.heap.size w V) (l : Lx.Bytes) (k : Int) (hl : l.length ≤ 1000) (hk : (Lx.kind l : Int) = k) :
    Calls Tryd.prog 19 #[.string ⟨l.toArray⟩] V fun e w' => e = .returned (.int .i64 k) ∧ Below w.heap.size w w' := by
  refine (kind_any V (he.below hb h7) (Nat.le_trans h7 hb.size) ⟨l.toArray⟩ (by rw [es_of]; omega)).mono ?_
  rintro e w' ⟨h1, h2⟩
  rw [el_of, hk] at h1
  exact ⟨h1, hb.trans (h2.mono hb.size)⟩

theorem closS {e1 : Ending} {w V w' : World} {v : Value} (hb : Below w.heap.size w V) (h : e1 = .returned v ∧ Turned V w' (fun _ => False)) : e1 = .returned v ∧ Below w.heap.size w w' :=
  ⟨h.1, hb.trans (h.2.below hb.size (fun _ hf => hf.elim))⟩

def joinL : List ATok := [⟨1, 0, [97], 0, 0⟩, ⟨1, 0, [98], 0, 0⟩, ⟨5, 0, [91], 0, 0⟩, ⟨5, 0, [93], 0, 0⟩, ⟨5, 0, [40], 0, 0⟩, ⟨4, 0, [42], 0, 0⟩, ⟨5, 0, [61], 0, 0⟩]
theorem joinL_right : joinL.all rightB = true := by decide +kernel
theorem joinL_text : joinFrom joinL = [97, 32, 98, 91, 32, 93, 40, 32, 42, 32, 61] := by decide +kernel
theorem joinL_v : joinV joinL = .tuple #[.string ⟨#[97, 32, 98, 91, 32, 93, 40, 32, 42, 32, 61]⟩, .int .i64 0] := by
  unfold joinV
  rw [joinL_right, joinL_text, if_neg (by decide), if_neg (by decide), if_neg (by decide)]

theorem joinL_wide : ∀ t ∈ joinL, t.wide := by
  intro t ht
  have h : t.n = 0 := by
    have : ∀ t ∈ joinL, t.n = 0 := by simp [joinL]
    exact this t ht
  unfold ATok.wide
  omega

theorem rowOf_block {w : World} {b : Nat} {l : List ATok} {t : TypeId} {z : Nat × Nat} (h : w.heap[b]? = some (.cells (l.flatMap ATok.cells).toArray t z)) : RowOf w (.slice (some ⟨b, 0, none⟩) l.length l.length) l := by
  refine ⟨_, _, rfl, fun _ => ⟨b, 0, rfl, lt_of_block h, fun j x hj i u hu => ?_⟩⟩
  have h1 := flatMap_at ATok.cells 5 (fun _ => rfl) l j x hj i u hu
  rw [Nat.zero_add]
  simp [World.cell?, h, h1]

theorem joinS (w V : World) (he : Env w) (h7 : 7 ≤ w.heap.size) (hb : Below w.heap.size w V) :
    Calls Tryd.prog 25 #[.slice (some ⟨V.heap.size, 0, none⟩) 7 7] (V.alloc (.cells (joinL.flatMap ATok.cells).toArray 48)) fun e w' =>
      e = .returned (.tuple #[.string ⟨#[97, 32, 98, 91, 32, 93, 40, 32, 42, 32, 61]⟩, .int .i64 0]) ∧ Below w.heap.size w w' := by
  have hb2 := hb.alloc hb.size (.cells (joinL.flatMap ATok.cells).toArray 48)
  have k2 := heap_alloc_new V (.cells (joinL.flatMap ATok.cells).toArray 48)
  generalize V.alloc (.cells (joinL.flatMap ATok.cells).toArray 48) = V2 at *
  refine (join_any V2 (he.below hb2 h7) (Nat.le_trans h7 hb2.size) _ joinL (rowOf_block k2) joinL_wide (by decide)).mono ?_
  rintro e w' ⟨h1, h2⟩
  rw [joinL_v] at h1
  exact ⟨h1, hb2.trans (h2.mono hb2.size)⟩

theorem place_v : placeV [10, 97, 98] 2 = .tuple #[.int .i64 2, .int .i64 2, .int .i64 0] := by rfl
theorem placeS (w V : World) (hb : Below w.heap.size w V) :
    Calls Tryd.prog 26 #[.string ⟨#[10, 97, 98]⟩, .int .i64 2] V fun e w' => e = .returned (.tuple #[.int .i64 2, .int .i64 2, .int .i64 0]) ∧ Below w.heap.size w w' := by
  refine (place_any V [10, 97, 98] (by decide) 2).mono ?_
  rintro e w' ⟨h1, h2⟩
  rw [place_v] at h1
  exact ⟨h1, hb.trans (h2.mono hb.size)⟩

def txt3 : Lx.Bytes := [97, 40, 42, 98, 42, 41, 99]
theorem txt3_bad : (Lx.toks txt3).bad = none := by decide +kernel
theorem txt3_few : ¬ 20000 < (Lx.toks txt3).toks.length := by decide +kernel
theorem txt3_strip : Lx.strip txt3 = [97, 32, 32, 32, 32, 32, 99] := by decide +kernel
theorem txt3_v : stripV txt3 = .tuple #[.string ⟨#[97, 32, 32, 32, 32, 32, 99]⟩, .int .i64 0] := by
  unfold stripV
  rw [if_neg (by decide), txt3_bad]
  simp only
  rw [if_neg txt3_few, txt3_strip]
theorem stripS (w V : World) (he : Env w) (h7 : 7 ≤ w.heap.size) (hb : Below w.heap.size w V) :
    Calls Tryd.prog 15 #[.string ⟨#[97, 40, 42, 98, 42, 41, 99]⟩] V fun e w' => e = .returned (.tuple #[.string ⟨#[97, 32, 32, 32, 32, 32, 99]⟩, .int .i64 0]) ∧ Below w.heap.size w w' := by
  refine (strip_any V (he.below hb h7) (Nat.le_trans h7 hb.size) txt3).mono ?_
  rintro e w' ⟨h1, h2⟩
  rw [txt3_v] at h1
  exact ⟨h1, hb.trans (h2.mono hb.size)⟩

theorem wordsS (w V : World) (he : Env w) (h7 : 7 ≤ w.heap.size) (hb : Below w.heap.size w V) :
    Calls Tryd.prog 17 #[] V fun e w' => e = .returned (.slice (some ⟨V.heap.size, 0, none⟩) 37 37) ∧ Below w.heap.size w w' := by
  refine (words_any V (he.below hb h7)).mono ?_
  rintro e w' ⟨h1, rfl⟩
  exact ⟨h1, hb.alloc hb.size _⟩
theorem signsS (w V : World) (he : Env w) (h7 : 7 ≤ w.heap.size) (hb : Below w.heap.size w V) :
    Calls Tryd.prog 18 #[] V fun e w' => e = .returned (.slice (some ⟨V.heap.size, 0, none⟩) 24 24) ∧ Below w.heap.size w w' := by
  refine (signs_any V (he.below hb h7)).mono ?_
  rintro e w' ⟨h1, rfl⟩
  exact ⟨h1, hb.alloc hb.size _⟩

theorem symS (w V : World) (hb : Below w.heap.size w V) (s : Lx.Bytes) (b : Array UInt8) (hs : s.toArray = b) :
    Calls Tryd.prog 22 #[.string ⟨b⟩] V fun e w' => e = .returned (.agg #[.int .i64 4, .int .i64 0, .string ⟨b⟩, .int .i64 0, .int .i64 0]) ∧ Below w.heap.size w w' := by
  subst hs
  refine (sane1_any s V).mono ?_
  rintro e w' ⟨h1, h2⟩
  exact ⟨h1, hb.trans (h2.below hb.size (fun _ hf => hf.elim))⟩
theorem signS (w V : World) (hb : Below w.heap.size w V) (s : Lx.Bytes) (b : Array UInt8) (hs : s.toArray = b) :
    Calls Tryd.prog 23 #[.string ⟨b⟩] V fun e w' => e = .returned (.agg #[.int .i64 5, .int .i64 0, .string ⟨b⟩, .int .i64 0, .int .i64 0]) ∧ Below w.heap.size w w' := by
  subst hs
  refine (sane2_any s V).mono ?_
  rintro e w' ⟨h1, h2⟩
  exact ⟨h1, hb.trans (h2.below hb.size (fun _ hf => hf.elim))⟩
theorem nameS (w V : World) (hb : Below w.heap.size w V) (s : Lx.Bytes) (b : Array UInt8) (hs : s.toArray = b) :
    Calls Tryd.prog 24 #[.string ⟨b⟩] V fun e w' => e = .returned (.agg #[.int .i64 1, .int .i64 0, .string ⟨b⟩, .int .i64 0, .int .i64 0]) ∧ Below w.heap.size w w' := by
  subst hs
  refine (sane3_any s V).mono ?_
  rintro e w' ⟨h1, h2⟩
  exact ⟨h1, hb.trans (h2.below hb.size (fun _ hf => hf.elim))⟩

set_option maxRecDepth 100000 in
set_option maxHeartbeats 1600000 in
theorem sane_any (w : World) (he : Env w) (h7 : 7 ≤ w.heap.size) :
    Calls Tryd.prog 8 #[] w fun e w' => e = .returned (.bool true) ∧ Below w.heap.size w w' := by
  have HE := Lib.hid he
  go_enter Tryd.func8, Tryd.ntmps8
  go_wp2_with fail
  refine (has1 w he h7).mono ?_
  rintro e w1 ⟨rfl, b1⟩
  go_wp2_with fail
  refine (has2 w1 (he.below b1 h7) (Nat.le_trans h7 b1.size)).mono ?_
  rintro e w2 ⟨rfl, b2'⟩
  have b2 := b1.trans (b2'.mono b1.size)
  have z2 := b2.size
  clear b1 b2'
  go_wp2_with fail
  have kS : (w2.alloc (.cells badC 45)).heap[w2.heap.size]? = some (.cells badC 45 (0, 0)) := heap_alloc_new w2 _
  have bS : Below w.heap.size w (w2.alloc (.cells badC 45)) := b2.alloc z2 _
  go_loopw [28] (fun i wr => ∃ k : Nat, k ≤ 3 ∧ i = .int .i64 k ∧ wr.heap[w2.heap.size]? = some (.cells badC 45 (0, 0)) ∧ Below w.heap.size w wr) (fun i _ => 3 - (intOf i).toNat)
  case atStart => exact ⟨0, Nat.zero_le _, rfl, kS, bS⟩
  case round =>
    obtain ⟨k, hk, rfl, kr, br⟩ := hrel
    clear kS bS
    by_cases hlt : k < 3
    · have hki : (k : Int) < 3 := by omega
      obtain ⟨h1, h2, h3, h4, h5⟩ := bad_at k hlt
      have p0 : wr.cell? ⟨w2.heap.size, k * 2, none⟩ = some (.string ⟨(badL.getD k []).toArray⟩) := by simp [World.cell?, kr, h3]
      have p1 : wr.cell? ⟨w2.heap.size, k * 2 + 1, none⟩ = some (.int .i64 (badA.getD k 0 : Nat)) := by simp [World.cell?, kr, h4]
      have lS := lt_of_block kr
      have Kr := Lib.hid kr
      have Br := Lib.hid br
      have zr := br.size
      clear h3 h4 kr br
      generalize badL.getD k [] = x at *
      generalize badA.getD k 0 = q at *
      have H1 := Lib.hid h1
      clear h1
      have hB := Br.out.alloc zr (.cells #[.string ⟨x.toArray⟩, .int .i64 q] 45)
      have kA := heap_alloc_new wr (.cells #[.string ⟨x.toArray⟩, .int .i64 q] 45)
      have kB := (Below.heap_alloc wr (.cells #[.string ⟨x.toArray⟩, .int .i64 q] 45) _ lS).trans Kr.out
      go_wp2_with fail
      refine (tokens_bad _ (HE.out.below hB h7) (Nat.le_trans h7 hB.size) x q h2 H1.out).mono ?_
      rintro e w3 ⟨rfl, b3⟩
      have k3 := (b3.block _ (lt_of_block kA)).trans kA
      have k4 := (b3.block _ (lt_of_block kB)).trans kB
      have b4 := hB.trans (b3.mono hB.size)
      have l3 := lt_of_block k3
      have q1 : w3.cell? ⟨wr.heap.size, 1, none⟩ = some (.int .i64 q) := by simp [World.cell?, k3]
      have K4 := Lib.hid k4
      have B4 := Lib.hid b4
      clear k3 k4 b4 b3 kA kB hB p0 p1
      go_wp2
      go_roundw
      case rel => exact ⟨k + 1, by omega, by go_num, K4.out, B4.out⟩
      case measure => simp [intOf]; omega
    · obtain rfl : k = 3 := by omega
      have hki : ¬ ((3 : Nat) : Int) < 3 := by omega
      clear kr
      go_wp2_with fail
      refine (kindS w _ he h7 br [91, 93] 5 (by decide) (by decide +kernel)).mono ?_
      rintro e w3 ⟨rfl, b3⟩
      clear br
      go_wp2_with fail
      refine (kindS w _ he h7 b3 [61, 61, 62] 4 (by decide) (by decide +kernel)).mono ?_
      rintro e w4 ⟨rfl, b4⟩
      clear b3
      go_wp2_with fail
      refine (kindS w _ he h7 b4 [101, 120, 105, 116] 2 (by decide) (by decide +kernel)).mono ?_
      rintro e w5 ⟨rfl, b5⟩
      clear b4
      go_wp2_with fail
      refine (kindS w _ he h7 b5 [97, 32, 98] 0 (by decide) (by decide +kernel)).mono ?_
      rintro e w6 ⟨rfl, b6⟩
      clear b5
      go_wp2_with fail
      refine (nameS w _ b6 [97] #[97] rfl).mono ?_
      rintro e w7 ⟨rfl, b7⟩
      clear b6
      go_wp2_with fail
      refine (nameS w _ b7 [98] #[98] rfl).mono ?_
      rintro e w8 ⟨rfl, b8⟩
      clear b7
      go_wp2_with fail
      refine (signS w _ b8 [91] #[91] rfl).mono ?_
      rintro e w9 ⟨rfl, b9⟩
      clear b8
      go_wp2_with fail
      refine (signS w _ b9 [93] #[93] rfl).mono ?_
      rintro e w10 ⟨rfl, b10⟩
      clear b9
      go_wp2_with fail
      refine (signS w _ b10 [40] #[40] rfl).mono ?_
      rintro e w11 ⟨rfl, b11⟩
      clear b10
      go_wp2_with fail
      refine (symS w _ b11 [42] #[42] rfl).mono ?_
      rintro e w12 ⟨rfl, b12⟩
      clear b11
      go_wp2_with fail
      refine (signS w _ b12 [61] #[61] rfl).mono ?_
      rintro e w13 ⟨rfl, b13⟩
      clear b12
      go_wp2_with fail
      refine (joinS w _ he h7 b13).mono ?_
      rintro e w14 ⟨rfl, b14⟩
      clear b13
      go_wp2_with fail
      refine (placeS w _ b14).mono ?_
      rintro e w15 ⟨rfl, b15⟩
      clear b14
      go_wp2_with fail
      refine (stripS w _ he h7 b15).mono ?_
      rintro e w16 ⟨rfl, b16⟩
      clear b15
      go_wp2_with fail
      refine (wordsS w _ he h7 b16).mono ?_
      rintro e w17 ⟨rfl, b17⟩
      clear b16
      go_wp2_with fail
      refine (signsS w _ he h7 b17).mono ?_
      rintro e w18 ⟨rfl, b18⟩
      clear b17
      go_wp2
      go_ret
      exact ⟨rfl, b18⟩
end Go.Proofs.YtinogdeolnldhaaDoor
