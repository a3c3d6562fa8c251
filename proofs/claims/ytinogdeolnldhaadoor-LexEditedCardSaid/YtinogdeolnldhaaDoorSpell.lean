/- How a token is spelled; whether a text is cut into given tokens. -/
import Derived.Test.YtinogdeolnldhaaDoorSame
namespace Go.Proofs.YtinogdeolnldhaaDoor
open Go.RowKit

def ATok.wide (t : ATok) : Prop := -9223372036854775808 ≤ t.n ∧ t.n ≤ 9223372036854775807
def spell (t : ATok) : Lx.Bytes := if t.kind = 3 then Lib.itoa t.n else t.s

theorem turned_grow {a w : World} {D : Nat → Prop} (h : Turned a w D) (k : Nat) (os : Array Obj) : Turned a (Go.Sort.grow (w.drewN k) os) D :=
  h.trans (E := fun _ => False) ⟨rfl, rfl, rfl, by simp [Go.Sort.grow, World.drewN], fun i hi _ => by
    show (w.heap ++ os)[i]? = _
    rw [Array.getElem?_append_left hi]⟩ (fun _ _ hf => hf.elim)

set_option maxRecDepth 100000 in
set_option maxHeartbeats 800000 in
theorem spelling_any (t : ATok) (w : World) (he : Env w) (h7 : 7 ≤ w.heap.size) (hw : t.wide) :
    Calls Tryd.prog 46 #[t.val] w fun e w' => e = .returned (.string ⟨(spell t).toArray⟩) ∧ Turned w w' (fun _ => False) := by
  obtain ⟨k, n, s, a, e⟩ := t
  have Hw := Lib.hid hw
  have hA : ∀ o, Turned w (w.alloc o) (fun _ => False) := fun o => (Turned.refl w _).alloc o
  have HA := Lib.hid hA
  clear hw hA
  unfold ATok.val
  simp only
  by_cases hk : k = 3
  · have hs : spell ⟨k, n, s, a, e⟩ = Lib.itoa n := if_pos hk
    have Hs := Lib.hid hs
    have hkb : (k == 3) = true := by simpa using hk
    clear hs hk
    go_enter Tryd.func46, Tryd.ntmps46
    go_wp2_with fail
    refine (Tryd.strconv_Itoa n Hw.out.1 Hw.out.2 _ ((he.turned (HA.out _) h7 (fun _ hf => hf.elim)).pow)).mono ?_
    rintro e w' ⟨rfl, q, os, rfl⟩
    have ht := turned_grow (HA.out (.cells #[.int .i64 k, .int .i64 n, .string ⟨s.toArray⟩, .int .i64 a, .int .i64 e] 48)) q os
    generalize Go.Sort.grow _ os = V at *
    go_wp2
    go_ret
    rw [Hs.out]
    exact ⟨rfl, ht⟩
  · have hs : spell ⟨k, n, s, a, e⟩ = s := if_neg hk
    have Hs := Lib.hid hs
    have hkb : (k == 3) = false := by simpa using hk
    clear hs hk
    go_enter Tryd.func46, Tryd.ntmps46
    go_wp2
    go_ret
    rw [Hs.out]
    exact ⟨rfl, HA.out _⟩

/-- Whether a text is cut into just these tokens, but for their places. -/
def cutsInto (l : Lx.Bytes) (want : List ATok) : Bool :=
  match (Lx.toks l).bad with
  | some _ => false
  | none => (((Lx.toks l).toks.map ofTok).length == want.length && (((Lx.toks l).toks.map ofTok).zip want).all fun x => x.1.same x.2)

theorem flat_ofTok (l : List Lx.Tok) : (l.map ofTok).flatMap ATok.cells = l.flatMap tokCells := by
  induction l with
  | nil => rfl
  | cons t l ih => simp only [List.map_cons, List.flatMap_cons, ih, ofTok_cells]

/-- How many tokens there can be. -/
theorem cuts_count : ∀ (n p : Nat) (l : Lx.Bytes), l.length ≤ n → (Lx.cuts p l).toks.length ≤ l.length
  | n, p, [], _ => by simp [Lx.cuts_nil]
  | n + 1, p, c :: r, hn => by
    rw [Lx.cuts_step p (c :: r) (by simp)]
    cases hs : Lx.step p (c :: r) with
    | none => simp
    | some x =>
      obtain ⟨k, ts, cs⟩ := x
      have hl := Lx.step_len _ _ hs
      have ih := cuts_count n (p + k) ((c :: r).drop k) (by simp at hn ⊢; omega)
      simp only [Lx.Out.pre, List.length_append, List.length_drop] at ih ⊢
      simp only [List.length_cons] at hl ih ⊢
      omega

set_option maxRecDepth 100000 in
set_option maxHeartbeats 1600000 in
theorem isCutInto_any (B : Nat) (w : World) (S : Scn) (h : Scan B w S) (l : Lx.Bytes) (hl : l.length ≤ 100000) (v : Value) (want : List ATok) (hv : RowOf w v want) (hv2 : ∀ a n c, v = .slice (some a) n c → ¬ S.own a.block) (hw : want.length ≤ 1000000) :
    Calls Tryd.prog 68 #[.pointer (some ⟨S.sb, 0, none⟩), .string ⟨l.toArray⟩, v] w fun e w' =>
      e = .returned (.bool (cutsInto l want)) ∧ ∃ S', S'.sb = S.sb ∧ Scan B w' S' ∧ Goes w S w' S' := by
  go_enter Tryd.func68, Tryd.ntmps68
  go_wp2_with fail
  refine (begin_any B w S h ⟨l.toArray⟩).mono ?_
  rintro e w1 ⟨rfl, h1, g1⟩
  go_wp2_with fail
  refine (cut_all B w1 S ⟨l.toArray⟩ h1 (by simpa [ByteArray.size] using hl)).mono ?_
  rintro e w2 ⟨S2, hsb, h2, g2, hp⟩
  have el : (⟨l.toArray⟩ : ByteArray).data.toList = l := by simp
  rw [el] at hp
  have g12 := g1.trans g2
  cases hb : (Lx.toks l).bad with
  | some q =>
    rw [hb] at hp
    subst hp
    have hc : cutsInto l want = false := by unfold cutsInto; rw [hb]
    have Hc := Lib.hid hc
    clear hc hb
    go_wp2
    go_ret
    rw [Hc.out]
    exact ⟨rfl, S2, hsb, h2, g12⟩
  | none =>
    rw [hb] at hp
    obtain ⟨rfl, hx, hat, htk, hcm⟩ := hp
    have hc : cutsInto l want = (((Lx.toks l).toks.map ofTok).length == want.length && (((Lx.toks l).toks.map ofTok).zip want).all fun x => x.1.same x.2) := by unfold cutsInto; rw [hb]
    have Hc := Lib.hid hc
    have c6 := h2.c6
    rw [hsb] at c6
    have hr1 : RowOf w2 S2.tv (S2.toks.map ofTok) := by
      have := h2.toks
      rw [← flat_ofTok] at this
      exact rowOf_owns (by simpa using this)
    have hr2 : RowOf w2 v want := hv.turned g12.turned hv2
    have hcount : (S2.toks.map ofTok).length ≤ 1000000 := by
      rw [htk, List.length_map]
      have := cuts_count l.length 0 l (Nat.le_refl _)
      exact Nat.le_trans this (by omega)
    have hq := equalFunc_any S2.tv v (S2.toks.map ofTok) want w2 hr1 hr2 hcount hw
    rw [htk] at hq
    have Hq := Lib.hid hq
    have Hsb := Lib.hid hsb
    clear hq hc hb hr1 hr2 hcount htk hcm hx hat hsb el
    go_wp2_with fail
    refine Hq.out.mono ?_
    rintro e w3 ⟨rfl, t3⟩
    rw [← Hc.out]
    go_wp2
    go_ret
    exact ⟨rfl, S2, Hsb.out, h2.turned t3 (fun _ _ hf => hf), ⟨g12.turned.trans t3 (fun _ _ hf => hf.elim), g12.own⟩⟩
end Go.Proofs.YtinogdeolnldhaaDoor
