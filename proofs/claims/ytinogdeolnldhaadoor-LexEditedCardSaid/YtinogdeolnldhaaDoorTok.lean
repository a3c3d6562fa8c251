/- Tokens. -/
import Derived.Test.YtinogdeolnldhaaDoorCut
namespace Go.Proofs.YtinogdeolnldhaaDoor
open Go.RowKit

set_option maxRecDepth 100000 in
set_option maxHeartbeats 400000 in
theorem toTheEnd_any (w : World) : Calls Tryd.prog 56 #[] w fun e w' => e = .returned (.bool false) ∧ w' = w := by
  go_enter Tryd.func56, Tryd.ntmps56
  go_wp2
  go_ret
  exact ⟨rfl, rfl⟩

theorem run_toTheEnd (w : World) : (callFunc 56 #[]).run Tryd.prog w = .ok (.enter 56 #[]) w := by kernel_rfl

theorem never (B H : Nat) : Enough B 56 #[] (Scan B) (Scan B) (fun _ => false) (fun _ => False) H where
  run := run_toTheEnd
  scan := fun _ _ h => h
  scanJ := fun _ _ h => h
  keep := fun _ _ _ _ _ h _ _ _ => h
  keepJ := fun _ _ _ _ _ h _ _ _ => h
  calls := fun w S h => (toTheEnd_any w).mono fun e w' ⟨he, hw⟩ => by subst hw; exact ⟨he, Turned.refl _ _, fun _ => h, fun _ => h⟩

theorem toks_eq (l : Lx.Bytes) : Lx.toks l = Lx.cuts 0 l := rfl

theorem rest_zero (S : Scn) (t : ByteArray) : (S.fresh t).rest = t.data.toList := by simp [Scn.rest, Scn.fresh]

/-- To cut a whole text. -/
theorem cut_all (B : Nat) (w : World) (S : Scn) (t : ByteArray) (h : Scan B w (S.fresh t)) (ht : t.size ≤ 100000) :
    Calls Tryd.prog 39 #[.pointer (some ⟨S.sb, 0, none⟩), .func (.func 56) #[] #[]] w fun e w' => ∃ S', S'.sb = S.sb ∧ Scan B w' S' ∧ Goes w (S.fresh t) w' S' ∧
      match (Lx.toks t.data.toList).bad with
      | some q => e = .returned (.tuple #[.int .i64 q, .int .i64 10])
      | none => e = .returned (.tuple #[.int .i64 0, .int .i64 0]) ∧ S'.text = t ∧ S'.at_ = t.size ∧ S'.toks = (Lx.toks t.data.toList).toks ∧ S'.coms = (Lx.toks t.data.toList).coms := by
  have hc := cut_any B w (S.fresh t) _ #[] _ _ _ _ (never B w.heap.size) h (show t.size ≤ _ by omega) (Nat.zero_le _) (fun k hk => hk.elim) 100000 (fun p hp _ => Nat.le_trans (Nat.le_of_lt hp) ht) (by show (0 + 100000 + 1) * 48 ≤ _; omega) (by show (0 + 100000 + 1) * 16 ≤ _; omega)
  refine hc.mono ?_
  rintro e w' ⟨S', hs, hf, hp⟩
  have hn := Lx.cutE_never t.data.toList.length 0 t.data.toList (Nat.le_refl _)
  rw [rest_zero] at hp
  have e0 : (S.fresh t).at_ = 0 := rfl
  rw [e0, hn.1] at hp
  refine ⟨S', hf.sb, hs, ⟨hf.turned.mono (fun k _ hk => by rcases hk with hk | hk; exact hk; exact hk.elim), hf.own⟩, ?_⟩
  rw [toks_eq]
  cases hb : (Lx.cuts 0 t.data.toList).bad with
  | some q => rw [hb] at hp; exact hp
  | none =>
    rw [hb] at hp
    obtain ⟨h1, h2, h3, h4, h5, _⟩ := hp
    have h6 := hn.2 hb
    refine ⟨h1, h2, ?_, ?_, ?_⟩
    · rw [h3, h6]; simp
    · rw [h4]; rfl
    · rw [h5]; rfl

/-- What Tokens gives of a text. -/
def TokPost (B : Nat) (t : ByteArray) (e : Ending) (w' : World) : Prop :=
  if 100000 < t.size then e = .returned (.tuple #[.slice none 0 0, .int .i64 0, .int .i64 2])
  else match (Lx.toks t.data.toList).bad with
    | some q => e = .returned (.tuple #[.slice none 0 0, .int .i64 q, .int .i64 10])
    | none =>
      if 20000 < (Lx.toks t.data.toList).toks.length then e = .returned (.tuple #[.slice none 0 0, .int .i64 0, .int .i64 2])
      else ∃ tv, e = .returned (.tuple #[tv, .int .i64 0, .int .i64 0]) ∧ w'.ownsRow B 48 5 tv (Lx.toks t.data.toList).toks.length ((Lx.toks t.data.toList).toks.flatMap tokCells)

/-- The scanner behind the cut of a whole text. -/
def AllPost (B : Nat) (w : World) (S : Scn) (t : ByteArray) (e : Ending) (w' : World) : Prop :=
  TokPost B t e w' ∧ ∃ S', S'.sb = S.sb ∧ Scan B w' S' ∧ Goes w S w' S' ∧ (t.size ≤ 100000 → (Lx.toks t.data.toList).bad = none → S'.coms = (Lx.toks t.data.toList).coms)

set_option maxRecDepth 100000 in
set_option maxHeartbeats 800000 in
theorem all_any (B : Nat) (w : World) (S : Scn) (h : Scan B w S) (t : ByteArray) :
    Calls Tryd.prog 28 #[.pointer (some ⟨S.sb, 0, none⟩), .string t] w (AllPost B w S t) := by
  by_cases hl : 100000 < t.size
  · have hi : 100000 < (t.size : Int) := by omega
    have hp : ∀ w', w' = w → AllPost B w S t (.returned (.tuple #[.slice none 0 0, .int .i64 0, .int .i64 2])) w' := fun w' hw => by
      subst hw
      exact ⟨by unfold TokPost; rw [if_pos hl], S, rfl, h, Goes.refl _ _, fun h5 => absurd h5 (by omega)⟩
    have Hp := Lib.hid hp
    clear hp
    go_enter Tryd.func28, Tryd.ntmps28
    go_wp2
    go_ret3
    exact Hp.out _ rfl
  · have hi : (t.size : Int) ≤ 100000 := by omega
    go_enter Tryd.func28, Tryd.ntmps28
    go_wp2_with fail
    refine (begin_any B w S h t).mono ?_
    rintro e w1 ⟨rfl, h1, g1⟩
    go_wp2_with fail
    refine (cut_all B w1 S t h1 (by omega)).mono ?_
    rintro e w2 ⟨S2, hsb, h2, g2, hp⟩
    cases hb : (Lx.toks t.data.toList).bad with
    | some q =>
      rw [hb] at hp
      subst hp
      have hpost : ∀ w', w' = w2 → AllPost B w S t (.returned (.tuple #[.slice none 0 0, .int .i64 q, .int .i64 10])) w' := fun w' hw => by
        subst hw
        exact ⟨by unfold TokPost; rw [if_neg hl, hb], S2, hsb, h2, g1.trans g2, fun _ h5 => by rw [hb] at h5; cases h5⟩
      have Hpost := Lib.hid hpost
      clear hpost hb
      go_wp2_with fail
      refine (result_bad S.sb w2 q).mono ?_
      rintro e w3 ⟨rfl, rfl⟩
      go_wp2
      go_ret3
      exact Hpost.out _ rfl
    | none =>
      rw [hb] at hp
      obtain ⟨rfl, hx, ha, htk, hcm⟩ := hp
      by_cases hmany : 20000 < S2.toks.length
      · have hpost : ∀ w', w' = w2 → AllPost B w S t (.returned (.tuple #[.slice none 0 0, .int .i64 0, .int .i64 2])) w' := fun w' hw => by
          subst hw
          exact ⟨by unfold TokPost; rw [if_neg hl, hb, ← htk]; simp only; rw [if_pos hmany]; trivial, S2, hsb, h2, g1.trans g2, fun _ _ => hcm⟩
        have Hpost := Lib.hid hpost
        have hr := result_many B w2 S2 h2 hmany
        rw [hsb] at hr
        clear hpost hb hsb htk hcm ha hx
        go_wp2_with fail
        refine hr.mono ?_
        rintro e w3 ⟨rfl, rfl⟩
        go_wp2
        go_ret3
        exact Hpost.out _ rfl
      · have hpost : ∀ w', w' = w2 → AllPost B w S t (.returned (.tuple #[S2.tv, .int .i64 0, .int .i64 0])) w' := fun w' hw => by
          subst hw
          exact ⟨by unfold TokPost; rw [if_neg hl, hb, ← htk]; simp only; rw [if_neg hmany]; exact ⟨_, rfl, h2.toks⟩, S2, hsb, h2, g1.trans g2, fun _ _ => hcm⟩
        have Hpost := Lib.hid hpost
        have hr := result_ok B w2 S2 h2 (by omega)
        rw [hsb] at hr
        clear hpost hb hsb htk hcm ha hx
        go_wp2_with fail
        refine hr.mono ?_
        rintro e w3 ⟨rfl, rfl⟩
        go_wp2
        go_ret3
        exact Hpost.out _ rfl

set_option maxRecDepth 100000 in
set_option maxHeartbeats 800000 in
theorem tokens_any (w : World) (he : Env w) (h7 : 7 ≤ w.heap.size) (t : ByteArray) :
    Calls Tryd.prog 10 #[.string t] w fun e w' => TokPost w.heap.size t e w' ∧ Below w.heap.size w w' := by
  go_enter Tryd.func10, Tryd.ntmps10
  go_wp2_with fail
  refine (newScanner_any w he h7).mono ?_
  rintro e w1 ⟨S, rfl, h1, b1, _⟩
  go_wp2_with fail
  refine (all_any w.heap.size w1 S h1 t).mono ?_
  rintro e w2 ⟨hp, S2, hsb, h2, g2, _⟩
  have hb : Below w.heap.size w w2 := b1.trans (g2.below h1)
  have hv : ∃ v0 v1 v2, e = .returned (.tuple #[v0, v1, v2]) := by
    unfold TokPost at hp
    split at hp
    · exact ⟨_, _, _, hp⟩
    · split at hp
      · exact ⟨_, _, _, hp⟩
      · split at hp
        · exact ⟨_, _, _, hp⟩
        · obtain ⟨tv, hp, _⟩ := hp
          exact ⟨_, _, _, hp⟩
  obtain ⟨v0, v1, v2, rfl⟩ := hv
  have Hp := Lib.hid hp
  clear hp
  go_wp2
  go_ret3
  exact ⟨Hp.out, hb⟩
end Go.Proofs.YtinogdeolnldhaaDoor
