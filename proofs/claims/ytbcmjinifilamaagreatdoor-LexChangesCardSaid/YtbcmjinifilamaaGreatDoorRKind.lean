/- The reference: Kind; what is blanks and comments alone. -/
import Derived.Test.YtbcmjinifilamaaGreatDoorRTok
import Derived.Test.YtbcmjinifilamaaGreatDoorTokS
import Derived.Test.YtbcmjinifilamaaGreatDoorPure
namespace Go.Proofs.YtbcmjinifilamaaGreatDoor
open Go.RowKit

theorem rtokens_fine (V : World) (l : Lx.Bytes) (hl : l.length ≤ 100000) (hbad : (Lx.toks l).bad = none) (hc : (Lx.toks l).toks.length ≤ 20000) :
    Calls Tryz.prog 13 #[.string ⟨l.toArray⟩] V fun e w' => ∃ va vc, e = .returned (.tuple #[.slice va (Lx.toks l).toks.length vc, .int .i64 0, .int .i64 0]) ∧
      w'.ownsRow V.heap.size 43 5 (.slice va (Lx.toks l).toks.length vc) (Lx.toks l).toks.length ((Lx.toks l).toks.flatMap tokCells) ∧ Turned V w' (fun _ => False) := by
  refine (rtokens_any l V).mono ?_
  rintro e w' ⟨hp, hb2⟩
  unfold TokPost at hp
  rw [el_of, es_of, if_neg (by omega), hbad] at hp
  simp only at hp
  rw [if_neg (by omega)] at hp
  obtain ⟨tv, rfl, ho⟩ := hp
  rcases ho.2 with ⟨h1, h2⟩ | ⟨g, cap, cur, h1, _⟩
  · rw [h1, h2] at ho ⊢
    exact ⟨none, 0, rfl, ho, hb2⟩
  · rw [h1] at ho ⊢
    exact ⟨_, cap, rfl, ho, hb2⟩

theorem rtokens_err (V : World) (l : Lx.Bytes) (hl : l.length ≤ 100000) (q : Nat) (hbad : (Lx.toks l).bad = some q) :
    Calls Tryz.prog 13 #[.string ⟨l.toArray⟩] V fun e w' => e = .returned (.tuple #[.slice none 0 0, .int .i64 q, .int .i64 10]) ∧ Turned V w' (fun _ => False) := by
  refine (rtokens_any l V).mono ?_
  rintro e w' ⟨hp, hb2⟩
  unfold TokPost at hp
  rw [el_of, es_of, if_neg (by omega), hbad] at hp
  exact ⟨hp, hb2⟩

/-- Whether a text is blanks and comments alone. -/
def fillB (l : Lx.Bytes) : Bool := (Lx.toks l).bad.isNone && (Lx.toks l).toks.isEmpty

set_option maxRecDepth 100000 in
set_option maxHeartbeats 800000 in
theorem filling_any (l : Lx.Bytes) (hl : l.length ≤ 20000) (w : World) :
    Calls Tryz.prog 36 #[.string ⟨l.toArray⟩] w fun e w' => e = .returned (.bool (fillB l)) ∧ Turned w w' (fun _ => False) := by
  have hcl := toks_count l
  cases hbad : (Lx.toks l).bad with
  | some q =>
    have hf : fillB l = false := by unfold fillB; rw [hbad]; rfl
    rw [hf]
    have hT := fun V => rtokens_err V l (by omega) q hbad
    have HT := Lib.hid hT
    clear hT hf hbad hcl
    go_enter Tryz.func36, Tryz.ntmps36
    go_wp2_with fail
    refine (HT.out _).mono ?_
    rintro e w1 ⟨rfl, t1⟩
    go_wp2
    go_ret
    exact ⟨rfl, t1⟩
  | none =>
    have hT := fun V => rtokens_fine V l (by omega) hbad (by omega)
    have hf : fillB l = decide ((Lx.toks l).toks.length = 0) := by unfold fillB; rw [hbad]; cases (Lx.toks l).toks <;> simp
    rw [hf]
    generalize (Lx.toks l).toks = o at *
    have HT := Lib.hid hT
    clear hT hf hbad
    go_enter Tryz.func36, Tryz.ntmps36
    go_wp2_with fail
    refine (HT.out _).mono ?_
    rintro e w1 ⟨va, vc, rfl, -, t1⟩
    by_cases h0 : o.length = 0
    · have h1 : (o.length : Int) = 0 := by omega
      go_wp2
      go_ret
      exact ⟨by simp [h0], t1⟩
    · have h1 : (o.length : Int) ≠ 0 := by omega
      go_wp2
      go_ret
      exact ⟨by simp [h0], t1⟩

set_option maxRecDepth 100000 in
set_option maxHeartbeats 1600000 in
theorem rkind_any (l : Lx.Bytes) (hl : l.length ≤ 20000) (w : World) :
    Calls Tryz.prog 16 #[.string ⟨l.toArray⟩] w fun e w' => e = .returned (.int .i64 (Lx.kind l)) ∧ Turned w w' (fun _ => False) := by
  have hcl := toks_count l
  rw [Lx.kind_kindT]
  cases hbad : (Lx.toks l).bad with
  | some q =>
    have hf : Lx.kindT l = 0 := by unfold Lx.kindT; rw [hbad]
    rw [hf]
    have hT := fun V => rtokens_err V l (by omega) q hbad
    have HT := Lib.hid hT
    clear hT hf hbad hcl
    go_enter Tryz.func16, Tryz.ntmps16
    go_wp2_with fail
    refine (HT.out _).mono ?_
    rintro e w1 ⟨rfl, t1⟩
    go_wp2
    go_ret
    exact ⟨rfl, t1⟩
  | none =>
    have hT := fun V => rtokens_fine V l (by omega) hbad (by omega)
    have hf : Lx.kindT l = match (Lx.toks l).toks with | [t] => if t.at_ = 0 ∧ t.end_ = l.length then t.kind else 0 | _ => 0 := by unfold Lx.kindT; rw [hbad]; cases h : (Lx.toks l).toks with | nil => rfl | cons x xs => cases xs <;> rfl
    rw [hf]
    clear hbad hf
    generalize (Lx.toks l).toks = o at *
    by_cases h1 : o.length = 1
    · match o, h1 with
      | [t], _ =>
        obtain ⟨tk, tn, ts, ta, te⟩ := t
        simp only [List.length_singleton] at hT
        have HT := Lib.hid hT
        clear hT
        simp only
        go_enter Tryz.func16, Tryz.ntmps16
        go_wp2_with fail
        refine (HT.out _).mono ?_
        rintro e w1 ⟨va, vc, rfl, ho, t1⟩
        have hcell : ∃ g, va = some ⟨g, 0, none⟩ ∧ g < w1.heap.size ∧ w1.cell? ⟨g, 0, none⟩ = some (.int .i64 tk) ∧ w1.cell? ⟨g, 3, none⟩ = some (.int .i64 ta) ∧ w1.cell? ⟨g, 4, none⟩ = some (.int .i64 te) := by
          rcases ho.2 with ⟨h5, h6⟩ | ⟨g0, cap0, cur0, h5, _, hg, _⟩
          · omega
          · simp only [Value.slice.injEq] at h5
            have hob : (Value.slice va 1 vc).ownBlock = some g0 := by rw [h5.1]; rfl
            have hcc : ∀ i u, (tokCells ⟨tk, tn, ts, ta, te⟩)[i]? = some u → w1.cell? ((⟨g0, 0, none⟩ : Addr).add i) = some u := fun i u hu => ho.cells hob i u (by simpa using hu)
            refine ⟨g0, h5.1, lt_of_block hg, ?_, ?_, ?_⟩
            · have := hcc 0 _ rfl; simpa [Addr.add] using this
            · have := hcc 3 _ rfl; simpa [Addr.add] using this
            · have := hcc 4 _ rfl; simpa [Addr.add] using this
        obtain ⟨g, rfl, hg, c0, c3, c4⟩ := hcell
        clear ho
        by_cases ha : ta = 0
        · have ha1 : (ta : Int) = 0 := by omega
          by_cases hz : te = l.length
          · have hz1 : (te : Int) = (l.length : Int) := by omega
            go_wp2
            go_ret
            exact ⟨rfl, t1⟩
          · have hz1 : (te : Int) ≠ (l.length : Int) := by omega
            go_wp2
            go_ret
            exact ⟨rfl, t1⟩
        · have ha1 : (ta : Int) ≠ 0 := by omega
          go_wp2
          go_ret
          exact ⟨rfl, t1⟩
    · have hf2 : (match o with | [t] => if t.at_ = 0 ∧ t.end_ = l.length then t.kind else 0 | _ => 0) = 0 := by
        match o, h1 with
        | [], _ => rfl
        | [t], h => exact absurd rfl h
        | _ :: _ :: _, _ => rfl
      rw [hf2]
      have h11 : (o.length : Int) ≠ 1 := by omega
      have HT := Lib.hid hT
      clear hT hf2
      go_enter Tryz.func16, Tryz.ntmps16
      go_wp2_with fail
      refine (HT.out _).mono ?_
      rintro e w1 ⟨va, vc, rfl, ho, t1⟩
      go_wp2
      go_ret
      exact ⟨rfl, t1⟩
end Go.Proofs.YtbcmjinifilamaaGreatDoor
