/- LexBoth: the walk. -/
import Derived.Test.YtbcmjinifilamaaDoorLike
namespace Go.Proofs.YtbcmjinifilamaaDoor
open Go.RowKit

/-- A text, a blank, and another text: the tokens of both. -/
theorem toks_both (a b : Lx.Bytes) (ha : (Lx.toks a).bad = none) (hb : (Lx.toks b).bad = none) :
    (Lx.toks (a ++ 32 :: b)).bad = none ∧ (Lx.toks (a ++ 32 :: b)).toks = (Lx.toks a).toks ++ (Lx.toks b).toks.map (Lx.Tok.by (a.length + 1)) := by
  have h1 := Lx.cuts_app 32 b (by decide) a.length 0 a (Nat.le_refl _) ha
  have h2 : Lx.cuts (0 + a.length) (32 :: b) = Lx.cuts (0 + (a.length + 1)) b := by
    rw [Lx.cuts_cons, Lx.cut1_blank (by decide)]
    simp only [Nat.zero_add]
  rw [h2, Lx.cuts_shift (a.length + 1) b.length 0 b (Nat.le_refl _)] at h1
  have h3 : Lx.cuts 0 b = Lx.toks b := rfl
  have h4 : Lx.cuts 0 a = Lx.toks a := rfl
  have h5 : Lx.cuts 0 (a ++ 32 :: b) = Lx.toks (a ++ 32 :: b) := rfl
  rw [h3, h4, h5, hb] at h1
  rw [h1]
  exact ⟨rfl, rfl⟩

theorem same_self (a : ATok) : a.same a = true := by simp [ATok.same]
theorem likeB_self (l : List ATok) : likeB l l = true := by
  unfold likeB
  simp only [beq_self_eq_true, Bool.true_and]
  rw [List.all_eq_true]
  intro x hx
  obtain ⟨i, hi⟩ := List.mem_iff_getElem?.1 hx
  obtain ⟨h1, h2⟩ := List.getElem?_zip_eq_some.1 hi
  rw [h1] at h2
  rw [Option.some.inj h2]
  exact same_self _
theorem likeB_by (l : List Lx.Tok) (d : Nat) : likeB ((l.map (Lx.Tok.by d)).map ofTok) (l.map ofTok) = true := by
  unfold likeB
  simp only [List.length_map, beq_self_eq_true, Bool.true_and]
  rw [List.all_eq_true]
  intro x hx
  obtain ⟨i, hi⟩ := List.mem_iff_getElem?.1 hx
  obtain ⟨h1, h2⟩ := List.getElem?_zip_eq_some.1 hi
  rw [List.getElem?_map, List.getElem?_map] at h1
  rw [List.getElem?_map] at h2
  cases hl : l[i]? with
  | none => rw [hl] at h2; cases h2
  | some t =>
    rw [hl] at h1 h2
    simp only [Option.map_some, Option.some.injEq] at h1 h2
    rw [← h1, ← h2]
    simp [ATok.same, ofTok, Lx.Tok.by]

theorem row_cap {w : World} {B : Nat} {va : Option Addr} {n vc : Nat} {xs : List Value} (h : w.ownsRow B 48 5 (.slice va n vc) n xs) : n ≤ vc ∧ (0 < n → ∃ g, va = some ⟨g, 0, none⟩ ∧ g < w.heap.size) := by
  rcases h.2 with ⟨h1, h2⟩ | ⟨g, cap, cur, h1, _, hg, h3, _⟩
  · simp only [Value.slice.injEq] at h1
    exact ⟨by omega, fun h => by omega⟩
  · simp only [Value.slice.injEq] at h1
    exact ⟨by omega, fun _ => ⟨g, h1.1, lt_of_block hg⟩⟩

theorem row_cells {w : World} {B g n vc : Nat} {l : List ATok} (h : w.ownsRow B 48 5 (.slice (some ⟨g, 0, none⟩) n vc) n (l.flatMap ATok.cells)) (j : Nat) (t : ATok) (hj : l[j]? = some t) (i : Nat) (u : Value) (hu : t.cells[i]? = some u) : w.cell? ⟨g, j * 5 + i, none⟩ = some u := by
  have h2 := h.cells (g := g) rfl (j * 5 + i) u (flatMap_at ATok.cells 5 (fun _ => rfl) l j t hj i u hu)
  have e : ((⟨g, 0, none⟩ : Addr).add (j * 5 + i)) = ⟨g, j * 5 + i, none⟩ := by
    unfold Addr.add
    split
    · rename_i h5; rw [h5]
    · simp
  rw [e] at h2
  exact h2

theorem rowOf_front {w : World} {B n vc : Nat} {va : Option Addr} {l1 l2 : List ATok} (h : w.ownsRow B 48 5 (.slice va n vc) n ((l1 ++ l2).flatMap ATok.cells)) (hn : (l1 ++ l2).length = n) (c : Nat) : RowOf w (.slice va l1.length c) l1 := by
  refine ⟨va, c, rfl, fun hne => ?_⟩
  have hpos : 0 < l1.length := List.length_pos_iff.2 hne
  rw [List.length_append] at hn
  obtain ⟨g, rfl, hg⟩ := (row_cap h).2 (by omega)
  refine ⟨g, 0, rfl, hg, fun j t hj i u hu => ?_⟩
  rw [Nat.zero_add]
  exact row_cells h j t (by rw [List.getElem?_append_left (List.getElem?_eq_some_iff.1 hj).1]; exact hj) i u hu

theorem rowOf_back {w : World} {B n vc g : Nat} {l1 l2 : List ATok} (h : w.ownsRow B 48 5 (.slice (some ⟨g, 0, none⟩) n vc) n ((l1 ++ l2).flatMap ATok.cells)) (hn : (l1 ++ l2).length = n) (c : Nat) : RowOf w (.slice (some ⟨g, l1.length * 5, none⟩) l2.length c) l2 := by
  refine ⟨_, c, rfl, fun hne => ?_⟩
  have hpos : 0 < l2.length := List.length_pos_iff.2 hne
  rw [List.length_append] at hn
  obtain ⟨g', hg', hlt⟩ := (row_cap h).2 (by omega)
  simp only [Option.some.injEq, Addr.mk.injEq] at hg'
  rw [hg'.1]
  refine ⟨g', l1.length * 5, rfl, hlt, fun j t hj i u hu => ?_⟩
  have := row_cells h (l1.length + j) t (by rw [List.getElem?_append_right (by omega)]; simpa using hj) i u hu
  rw [hg'.1, show (l1.length + j) * 5 + i = l1.length * 5 + j * 5 + i by rw [Nat.add_mul]] at this
  exact this

theorem addr_add (g n : Nat) : (⟨g, 0, none⟩ : Addr).add n = ⟨g, n, none⟩ := by
  unfold Addr.add
  split
  · rename_i h; rw [h]
  · simp

theorem rowOf_map {w : World} {B n vc : Nat} {va : Option Addr} {l1 l2 : List ATok} (h : w.ownsRow B 48 5 (.slice va n vc) n ((l1 ++ l2).flatMap ATok.cells)) (hn : (l1 ++ l2).length = n) (k m c : Nat) (hk : l1.length = k) (hm : l2.length = m) :
    RowOf w (.slice (Option.map (fun x => x.add (k * 5)) va) m c) l2 := by
  subst hk
  subst hm
  by_cases h0 : l2 = []
  · subst h0
    exact ⟨_, c, rfl, fun h => absurd rfl h⟩
  · have hpos : 0 < l2.length := List.length_pos_iff.2 h0
    have hn' := hn
    rw [List.length_append] at hn'
    obtain ⟨g, rfl, hg⟩ := (row_cap h).2 (by omega)
    have := rowOf_back h hn c
    simp only [Option.map_some, addr_add]
    exact this

theorem rowOf_none {w : World} (a : Option Addr) (c : Nat) : RowOf w (.slice a 0 c) [] := ⟨a, c, rfl, fun h => absurd rfl h⟩

set_option maxRecDepth 100000 in
set_option maxHeartbeats 3200000 in
theorem lexBoth_any (w : World) (he : Env w) (h7 : 7 ≤ w.heap.size) (l r : Lx.Bytes) (hl : l.length ≤ 140737488351232) (hr : r.length ≤ 140737488351232) :
    Calls Tryd.prog 4 #[.string ⟨l.toArray⟩, .string ⟨r.toArray⟩] w fun e w' => e = .returned (.bool true) ∧ Below w.heap.size w w' := by
  have HLR : Hid (∀ s ∈ [l, r], s.length ≤ 140737488351232) := Lib.hid (by
    intro s hs
    rcases List.mem_cons.1 hs with rfl | hs
    · exact hl
    · rw [List.mem_singleton.1 hs]; exact hr)
  have H7 := Lib.hid h7
  clear h7
  have hsz1 : (l.length : Int) ≤ 9223372036854775807 := by omega
  go_enter Tryd.func4, Tryd.ntmps4
  go_wp2_with fail
  refine (sane_any w he H7.out).mono ?_
  rintro e w1 ⟨rfl, b1⟩
  by_cases hs : l.length + r.length ≤ 20000
  · go_wp2_with fail
    refine (shortK w _ b1 [l, r] 2 true rfl (by omega) HLR.out (by rw [sum2]; exact decide_eq_true hs)).mono ?_
    rintro e w2 ⟨rfl, b2⟩
    clear b1
    have hcl := toks_count l
    have hcr := toks_count r
    cases hbad : (Lx.toks l).bad with
    | some q =>
      have Hbad := Lib.hid hbad
      clear hbad
      go_wp2_with fail
      refine (tokens_err w _ he H7.out b2 l (by omega) q Hbad.out).mono ?_
      rintro e w3 ⟨rfl, b3, -⟩
      clear b2
      go_wp2_with fail
      refine (tokens_some w _ he H7.out b3 r).mono ?_
      rintro e w4 ⟨v0, v1, v2, rfl, b4, -⟩
      clear b3
      go_wp2
      go_ret
      exact ⟨rfl, b4⟩
    | none =>
      cases hbad2 : (Lx.toks r).bad with
      | some q =>
        have Hbad := Lib.hid hbad
        have Hbad2 := Lib.hid hbad2
        clear hbad hbad2
        go_wp2_with fail
        refine (tokens_fine w _ he H7.out b2 l (by omega) Hbad.out (by omega)).mono ?_
        rintro e w3 ⟨va, vc, rfl, -, b3, -⟩
        clear b2
        go_wp2_with fail
        refine (tokens_err w _ he H7.out b3 r (by omega) q Hbad2.out).mono ?_
        rintro e w4 ⟨rfl, b4, -⟩
        clear b3
        go_wp2
        go_ret
        exact ⟨rfl, b4⟩
      | none =>
        obtain ⟨hb3, ht3⟩ := toks_both l r hbad hbad2
        have hT := fun (V : World) (hV : Below w.heap.size w V) => tokens_fine w V he H7.out hV (l ++ 32 :: r) (by rw [List.length_append, List.length_cons]; omega) hb3 (by rw [ht3, List.length_append, List.length_map]; omega)
        rw [ht3] at hT
        have HT := Lib.hid hT
        have Hbad := Lib.hid hbad
        have Hbad2 := Lib.hid hbad2
        have hadd1 := fun (w : World) => run_string_add_lists (P := Tryd.prog) w l [32] (by omega) (by simp)
        have hadd2 := fun (w : World) => run_string_add_lists (P := Tryd.prog) w (l ++ [32]) r (by rw [List.length_append, List.length_singleton]; omega) (by omega)
        have happ : l ++ [32] ++ r = l ++ 32 :: r := by simp
        rw [happ] at hadd2
        clear hT hbad hbad2 hb3 ht3 happ
        go_wp2_with fail
        refine (tokens_fine w _ he H7.out b2 l (by omega) Hbad.out (by omega)).mono ?_
        rintro e w3 ⟨va, vc, rfl, ho3, b3, -⟩
        have Ho3 := Lib.hid ho3
        clear b2 ho3
        go_wp2_with fail
        refine (tokens_fine w _ he H7.out b3 r (by omega) Hbad2.out (by omega)).mono ?_
        rintro e w4 ⟨va2, vc2, rfl, ho4, b4, b4'⟩
        have ho3 := ownsRow_turned Ho3.out (Turned.ofBelow b4' (D := fun _ => False) (fun k hk hle => by omega)) (fun _ _ hf => hf)
        have Ho4 := Lib.hid ho4
        have Ho3' := Lib.hid ho3
        clear b3 ho4 ho3 Ho3 b4'
        go_wp2_with fail
        refine (HT.out _ b4).mono ?_
        rintro e w5 ⟨va3, vc3, rfl, ho5, b5, b5'⟩
        have ho3 := ownsRow_turned Ho3'.out (Turned.ofBelow b5' (D := fun _ => False) (fun k hk hle => by omega)) (fun _ _ hf => hf)
        have ho4 := ownsRow_turned Ho4.out (Turned.ofBelow b5' (D := fun _ => False) (fun k hk hle => by omega)) (fun _ _ hf => hf)
        have Ho5 := Lib.hid ho5
        have Ho4' := Lib.hid ho4
        have Ho3 := Lib.hid ho3
        clear b4 ho5 ho4 ho3 Ho4 Ho3' b5'
        have hlen : ((Lx.toks l).toks ++ (Lx.toks r).toks.map (Lx.Tok.by (l.length + 1))).length = (Lx.toks l).toks.length + (Lx.toks r).toks.length := by rw [List.length_append, List.length_map]
        have hlm : (Lx.toks l).toks.length ≤ 1000000 ∧ (Lx.toks r).toks.length ≤ 1000000 := by omega
        rw [hlen] at Ho5 ⊢
        have Hlen := Lib.hid hlen
        clear hlen
        generalize (Lx.toks l).toks = tl at *
        generalize (Lx.toks r).toks = tr at *
        obtain ⟨hcap, hg⟩ := row_cap Ho5.out
        have Hg := Lib.hid hg
        have hci : ((tl.length + tr.length : Nat) : Int) ≤ (vc3 : Int) := by omega
        have hci2 : (tl.length : Int) ≤ (vc3 : Int) := by omega
        have hci3 : tl.length ≤ vc3 := by omega
        have ho5 := Ho5.out
        have e5 : (tl ++ tr.map (Lx.Tok.by (l.length + 1))).flatMap tokCells = (tl.map ofTok ++ (tr.map (Lx.Tok.by (l.length + 1))).map ofTok).flatMap ATok.cells := by rw [← List.map_append, flat_ofTok]
        rw [e5] at ho5
        have hn5 : (tl.map ofTok ++ (tr.map (Lx.Tok.by (l.length + 1))).map ofTok).length = tl.length + tr.length := by simp
        have rF := rowOf_front ho5 hn5 vc3
        rw [List.length_map] at rF
        have r3 := rowOf_owns (l := tl.map ofTok) (v := .slice va tl.length vc) (by rw [List.length_map, flat_ofTok]; exact Ho3.out)
        have r4 := rowOf_owns (l := tr.map ofTok) (v := .slice va2 tr.length vc2) (by rw [List.length_map, flat_ofTok]; exact Ho4'.out)
        have HO5 := Lib.hid ho5
        have Hn5 := Lib.hid hn5
        have RF := Lib.hid rF
        have R3 := Lib.hid r3
        have R4 := Lib.hid r4
        clear e5 ho5 hn5 rF r3 r4 hg
        by_cases hz : vc3 = tl.length
        · -- nothing stands behind
          have hz2 : tr.length = 0 := by omega
          obtain rfl := List.length_eq_zero_iff.1 hz2
          subst hz
          go_wp2_with fail
          refine (like_all _ _ _ _ _ RF.out R3.out (by rw [List.length_map]; omega) (by rw [List.length_map]; omega)).mono ?_
          rintro e w6 ⟨rfl, t6⟩
          rw [likeB_self]
          have b6 := b5.trans (t6.below (B := w.heap.size) b5.size (fun _ hf => hf.elim))
          have R4' := Lib.hid (R4.out.turned t6 (fun _ _ _ _ hf => hf))
          clear b5 t6
          go_wp2_with fail
          refine (like_all _ _ [] [] _ (rowOf_none _ _) R4'.out (by simp) (by simp)).mono ?_
          rintro e w7 ⟨rfl, t7⟩
          rw [likeB_self]
          have b7 := b6.trans (t7.below (B := w.heap.size) b6.size (fun _ hf => hf.elim))
          clear b6 t7
          go_wp2
          go_ret
          exact ⟨rfl, b7⟩
        · have hci4 : (tl.length : Int) < (vc3 : Int) := by omega
          have hci5 : tl.length < vc3 := by omega
          go_wp2_with fail
          refine (like_all _ _ _ _ _ RF.out R3.out (by rw [List.length_map]; omega) (by rw [List.length_map]; omega)).mono ?_
          rintro e w6 ⟨rfl, t6⟩
          rw [likeB_self]
          have b6 := b5.trans (t6.below (B := w.heap.size) b5.size (fun _ hf => hf.elim))
          have R4' := Lib.hid (R4.out.turned t6 (fun _ _ _ _ hf => hf))
          have HO6 := Lib.hid (ownsRow_turned HO5.out t6 (fun _ _ hf => hf))
          clear b5 t6
          go_wp2_with fail
          refine (like_all _ _ _ _ _ (rowOf_map HO6.out Hn5.out tl.length tr.length (vc3 - tl.length) (by rw [List.length_map]) (by rw [List.length_map, List.length_map])) R4'.out (by rw [List.length_map, List.length_map]; omega) (by rw [List.length_map]; omega)).mono ?_
          rintro e w7 ⟨rfl, t7⟩
          rw [likeB_by]
          have b7 := b6.trans (t7.below (B := w.heap.size) b6.size (fun _ hf => hf.elim))
          clear b6 t7
          go_wp2
          go_ret
          exact ⟨rfl, b7⟩
  · go_wp2_with fail
    refine (shortK w _ b1 [l, r] 2 false rfl (by omega) HLR.out (by rw [sum2]; exact decide_eq_false hs)).mono ?_
    rintro e w2 ⟨rfl, b2⟩
    clear b1
    go_wp2
    go_ret
    exact ⟨rfl, b2⟩
end Go.Proofs.YtbcmjinifilamaaDoor
