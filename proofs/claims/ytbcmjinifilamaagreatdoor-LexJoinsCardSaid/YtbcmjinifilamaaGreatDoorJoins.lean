/- LexJoins: Apart; the reference's Apart, Place, Join, Strip; the walk. -/
import Derived.Test.YtbcmjinifilamaaGreatDoorJoin
import Derived.Test.YtbcmjinifilamaaGreatDoorRRight
import Derived.Test.YtbcmjinifilamaaGreatDoorPlace
import Derived.Test.YtbcmjinifilamaaGreatDoorStrip
import Derived.Lib.AppendStr
import Derived.Laws.AppendOwn
import Derived.IntWalk
import Derived.Test.YtbcmjinifilamaaGreatDoorRKind
import Derived.Test.YtbcmjinifilamaaGreatDoorRText
import Derived.Test.YtbcmjinifilamaaGreatDoorRLeaf
import Derived.Deep.QuietTactic
import Derived.BigQuiet
namespace Go.Proofs.YtbcmjinifilamaaGreatDoor
open Go.RowKit

/-- The answer of Apart. -/
def sidesB (a b : ATok) : Value := if rightB a && rightB b then .tuple #[.bool (apartB a b), .int .i64 0] else .tuple #[.bool false, .int .i64 1]

set_option maxRecDepth 100000 in
set_option maxHeartbeats 1600000 in
theorem sides_any (w : World) (he : Env w) (h7 : 7 ≤ w.heap.size) (a b : ATok) (ha : a.wide) (hb : b.wide) :
    Calls Tryz.prog 29 #[a.val, b.val] w fun e w' => e = .returned (sidesB a b) ∧ Below w.heap.size w w' := by
  obtain ⟨W, hW⟩ : ∃ W, W = (w.alloc (.cells #[.int .i64 a.kind, .int .i64 a.n, .string ⟨a.s.toArray⟩, .int .i64 a.at_, .int .i64 a.end_] 43)).alloc (.cells #[.int .i64 b.kind, .int .i64 b.n, .string ⟨b.s.toArray⟩, .int .i64 b.at_, .int .i64 b.end_] 43) := ⟨_, rfl⟩
  have tW : Turned w W (fun _ => False) := by rw [hW]; exact ((Turned.refl w _).alloc _).alloc _
  have kA : W.heap[w.heap.size]? = some (.cells #[.int .i64 a.kind, .int .i64 a.n, .string ⟨a.s.toArray⟩, .int .i64 a.at_, .int .i64 a.end_] 43 (0, 0)) := by
    rw [hW]; exact (Below.heap_alloc _ _ _ (by simp)).trans (heap_alloc_new w _)
  have kB : W.heap[w.heap.size + 1]? = some (.cells #[.int .i64 b.kind, .int .i64 b.n, .string ⟨b.s.toArray⟩, .int .i64 b.at_, .int .i64 b.end_] 43 (0, 0)) := by
    have z : (w.alloc (.cells #[.int .i64 a.kind, .int .i64 a.n, .string ⟨a.s.toArray⟩, .int .i64 a.at_, .int .i64 a.end_] 43)).heap.size = w.heap.size + 1 := by simp
    rw [hW, ← z]; exact heap_alloc_new _ _
  have eW : Env W := he.turned tW h7 (fun _ hf => hf.elim)
  have h7W : 7 ≤ W.heap.size := Nat.le_trans h7 tW.size
  have bW : Below w.heap.size w W := tW.below (Nat.le_refl _) (fun _ hf => hf.elim)
  have hNew := newScanner_any W eW h7W
  have keep : ∀ V S' sb (t : ATok), Scan W.heap.size V S' → Below W.heap.size W V → S'.sb = sb → t.wide →
      Calls Tryz.prog 50 #[.pointer (some ⟨sb, 0, none⟩), t.val] V fun e w' => e = .returned (.bool (rightB t)) ∧ (∃ S2, S2.sb = sb ∧ Scan W.heap.size w' S2) ∧ Below W.heap.size W w' := by
    intro V S' sb t hs hb hsb hw
    rw [← hsb]
    refine (right_any W.heap.size V S' hs (eW.below hb h7W) h7W t hw).mono ?_
    rintro e w' ⟨rfl, S2, h2, h3, h4⟩
    exact ⟨rfl, ⟨S2, h2, h3⟩, hb.trans (h4.below hs)⟩
  have keepA : ∀ V S' sb, rightB a = true → rightB b = true → Scan W.heap.size V S' → Below W.heap.size W V → S'.sb = sb →
      Calls Tryz.prog 51 #[.pointer (some ⟨sb, 0, none⟩), a.val, b.val] V fun e w' => e = .returned (.bool (apartB a b)) ∧ Below W.heap.size W w' := by
    intro V S' sb h1 h2 hs hbl hsb
    rw [← hsb]
    refine (apart_any W.heap.size V S' hs (eW.below hbl h7W) h7W a b ha hb (rightB_len h1) (rightB_len h2)).mono ?_
    rintro e w' ⟨rfl, S2, h2, h3, h4⟩
    exact ⟨rfl, hbl.trans (h4.below hs)⟩
  have lB := lt_of_block kB
  have Cof : ∀ V, Below W.heap.size W V → V.heap[w.heap.size]? = W.heap[w.heap.size]? ∧ V.heap[w.heap.size + 1]? = W.heap[w.heap.size + 1]? := fun V hV => ⟨hV.block _ (by omega), hV.block _ lB⟩
  have Fin : ∀ V, Below W.heap.size W V → Below w.heap.size w V := fun V hV => bW.trans (hV.mono tW.size)
  have hra := fun V S' sb => keep V S' sb a
  have hrb := fun V S' sb => keep V S' sb b
  have hS : sidesB a b = if rightB a && rightB b then .tuple #[.bool (apartB a b), .int .i64 0] else .tuple #[.bool false, .int .i64 1] := rfl
  clear keep tW he h7 eW h7W bW
  cases ka : rightB a with
  | false =>
    have HS : Hid (sidesB a b = .tuple #[.bool false, .int .i64 1]) := Lib.hid (by rw [hS, ka]; rfl)
    rw [ka] at hra
    have Hra := Lib.hid hra
    have HNew := Lib.hid hNew
    clear hra hrb hS ka keepA hNew
    obtain ⟨k1, n1, s1, a1, e1⟩ := a
    obtain ⟨k2, n2, s2, a2, e2⟩ := b
    unfold ATok.val at *
    simp only at *
    have Ha := Lib.hid ha
    have Hb := Lib.hid hb
    have HCof := Lib.hid Cof
    have HFin := Lib.hid Fin
    have HkA := Lib.hid kA
    have HkB := Lib.hid kB
    clear ha hb Cof Fin kA kB
    go_enter Tryz.func29, Tryz.ntmps29
    go_wp2_with fail
    rw [← hW]
    refine HNew.out.mono ?_
    rintro e w1 ⟨S, rfl, h1, b1, -⟩
    have c0 := (HCof.out w1 b1).1.trans HkA.out
    have q0 : w1.cell? ⟨w.heap.size, 0, none⟩ = some (.int .i64 k1) := by simp [World.cell?, c0]
    have q1 : w1.cell? ⟨w.heap.size, 1, none⟩ = some (.int .i64 n1) := by simp [World.cell?, c0]
    have q2 : w1.cell? ⟨w.heap.size, 2, none⟩ = some (.string ⟨s1.toArray⟩) := by simp [World.cell?, c0]
    have q3 : w1.cell? ⟨w.heap.size, 3, none⟩ = some (.int .i64 a1) := by simp [World.cell?, c0]
    have q4 : w1.cell? ⟨w.heap.size, 4, none⟩ = some (.int .i64 e1) := by simp [World.cell?, c0]
    clear c0
    go_wp2_with fail
    refine (Hra.out _ S _ h1 b1 rfl Ha.out).mono ?_
    rintro e w2 ⟨rfl, -, b2⟩
    have bE := HFin.out _ b2
    go_wp2
    go_ret2
    exact ⟨by rw [HS.out]; rfl, bE⟩
  | true =>
    cases kb : rightB b with
    | false =>
      have HS : Hid (sidesB a b = .tuple #[.bool false, .int .i64 1]) := Lib.hid (by rw [hS, ka, kb]; rfl)
      rw [ka] at hra
      rw [kb] at hrb
      have Hra := Lib.hid hra
      have Hrb := Lib.hid hrb
      have HNew := Lib.hid hNew
      clear hra hrb hS ka kb keepA hNew
      obtain ⟨k1, n1, s1, a1, e1⟩ := a
      obtain ⟨k2, n2, s2, a2, e2⟩ := b
      unfold ATok.val at *
      simp only at *
      have Ha := Lib.hid ha
      have Hb := Lib.hid hb
      have HCof := Lib.hid Cof
      have HFin := Lib.hid Fin
      have HkA := Lib.hid kA
      have HkB := Lib.hid kB
      clear ha hb Cof Fin kA kB
      go_enter Tryz.func29, Tryz.ntmps29
      go_wp2_with fail
      rw [← hW]
      refine HNew.out.mono ?_
      rintro e w1 ⟨S, rfl, h1, b1, -⟩
      have c0 := (HCof.out w1 b1).1.trans HkA.out
      have q0 : w1.cell? ⟨w.heap.size, 0, none⟩ = some (.int .i64 k1) := by simp [World.cell?, c0]
      have q1 : w1.cell? ⟨w.heap.size, 1, none⟩ = some (.int .i64 n1) := by simp [World.cell?, c0]
      have q2 : w1.cell? ⟨w.heap.size, 2, none⟩ = some (.string ⟨s1.toArray⟩) := by simp [World.cell?, c0]
      have q3 : w1.cell? ⟨w.heap.size, 3, none⟩ = some (.int .i64 a1) := by simp [World.cell?, c0]
      have q4 : w1.cell? ⟨w.heap.size, 4, none⟩ = some (.int .i64 e1) := by simp [World.cell?, c0]
      clear c0
      go_wp2_with fail
      refine (Hra.out _ S _ h1 b1 rfl Ha.out).mono ?_
      rintro e w2 ⟨rfl, ⟨S2, hsb, h2⟩, b2⟩
      have c0 := (HCof.out w2 b2).2.trans HkB.out
      have z0 : w2.cell? ⟨w.heap.size + 1, 0, none⟩ = some (.int .i64 k2) := by simp [World.cell?, c0]
      have z1 : w2.cell? ⟨w.heap.size + 1, 1, none⟩ = some (.int .i64 n2) := by simp [World.cell?, c0]
      have z2 : w2.cell? ⟨w.heap.size + 1, 2, none⟩ = some (.string ⟨s2.toArray⟩) := by simp [World.cell?, c0]
      have z3 : w2.cell? ⟨w.heap.size + 1, 3, none⟩ = some (.int .i64 a2) := by simp [World.cell?, c0]
      have z4 : w2.cell? ⟨w.heap.size + 1, 4, none⟩ = some (.int .i64 e2) := by simp [World.cell?, c0]
      have Hsb := Lib.hid hsb
      clear c0 hsb q0 q1 q2 q3 q4
      go_wp2_with fail
      refine (Hrb.out _ S2 _ h2 b2 Hsb.out Hb.out).mono ?_
      rintro e w3 ⟨rfl, -, b3⟩
      have bE := HFin.out _ b3
      go_wp2
      go_ret2
      exact ⟨by rw [HS.out]; rfl, bE⟩
    | true =>
      have HS : Hid (sidesB a b = .tuple #[.bool (apartB a b), .int .i64 0]) := Lib.hid (by rw [hS, ka, kb]; rfl)
      have hap := fun V S' sb => keepA V S' sb ka kb
      rw [ka] at hra
      rw [kb] at hrb
      have Hra := Lib.hid hra
      have Hrb := Lib.hid hrb
      have HNew := Lib.hid hNew
      have Hap := Lib.hid hap
      clear hra hrb hS ka kb keepA hNew hap
      generalize apartB a b = ab at *
      obtain ⟨k1, n1, s1, a1, e1⟩ := a
      obtain ⟨k2, n2, s2, a2, e2⟩ := b
      unfold ATok.val at *
      simp only at *
      have Ha := Lib.hid ha
      have Hb := Lib.hid hb
      have HCof := Lib.hid Cof
      have HFin := Lib.hid Fin
      have HkA := Lib.hid kA
      have HkB := Lib.hid kB
      clear ha hb Cof Fin kA kB
      go_enter Tryz.func29, Tryz.ntmps29
      go_wp2_with fail
      rw [← hW]
      refine HNew.out.mono ?_
      rintro e w1 ⟨S, rfl, h1, b1, -⟩
      have c0 := (HCof.out w1 b1).1.trans HkA.out
      have q0 : w1.cell? ⟨w.heap.size, 0, none⟩ = some (.int .i64 k1) := by simp [World.cell?, c0]
      have q1 : w1.cell? ⟨w.heap.size, 1, none⟩ = some (.int .i64 n1) := by simp [World.cell?, c0]
      have q2 : w1.cell? ⟨w.heap.size, 2, none⟩ = some (.string ⟨s1.toArray⟩) := by simp [World.cell?, c0]
      have q3 : w1.cell? ⟨w.heap.size, 3, none⟩ = some (.int .i64 a1) := by simp [World.cell?, c0]
      have q4 : w1.cell? ⟨w.heap.size, 4, none⟩ = some (.int .i64 e1) := by simp [World.cell?, c0]
      clear c0
      go_wp2_with fail
      refine (Hra.out _ S _ h1 b1 rfl Ha.out).mono ?_
      rintro e w2 ⟨rfl, ⟨S2, hsb, h2⟩, b2⟩
      have c0 := (HCof.out w2 b2).2.trans HkB.out
      have z0 : w2.cell? ⟨w.heap.size + 1, 0, none⟩ = some (.int .i64 k2) := by simp [World.cell?, c0]
      have z1 : w2.cell? ⟨w.heap.size + 1, 1, none⟩ = some (.int .i64 n2) := by simp [World.cell?, c0]
      have z2 : w2.cell? ⟨w.heap.size + 1, 2, none⟩ = some (.string ⟨s2.toArray⟩) := by simp [World.cell?, c0]
      have z3 : w2.cell? ⟨w.heap.size + 1, 3, none⟩ = some (.int .i64 a2) := by simp [World.cell?, c0]
      have z4 : w2.cell? ⟨w.heap.size + 1, 4, none⟩ = some (.int .i64 e2) := by simp [World.cell?, c0]
      have Hsb := Lib.hid hsb
      clear c0 hsb q0 q1 q2 q3 q4
      go_wp2_with fail
      refine (Hrb.out _ S2 _ h2 b2 Hsb.out Hb.out).mono ?_
      rintro e w3 ⟨rfl, ⟨S3, hsb, h3⟩, b3⟩
      have c0 := (HCof.out w3 b3).1.trans HkA.out
      have q0 : w3.cell? ⟨w.heap.size, 0, none⟩ = some (.int .i64 k1) := by simp [World.cell?, c0]
      have q1 : w3.cell? ⟨w.heap.size, 1, none⟩ = some (.int .i64 n1) := by simp [World.cell?, c0]
      have q2 : w3.cell? ⟨w.heap.size, 2, none⟩ = some (.string ⟨s1.toArray⟩) := by simp [World.cell?, c0]
      have q3 : w3.cell? ⟨w.heap.size, 3, none⟩ = some (.int .i64 a1) := by simp [World.cell?, c0]
      have q4 : w3.cell? ⟨w.heap.size, 4, none⟩ = some (.int .i64 e1) := by simp [World.cell?, c0]
      have c1 := (HCof.out w3 b3).2.trans HkB.out
      have r0 : w3.cell? ⟨w.heap.size + 1, 0, none⟩ = some (.int .i64 k2) := by simp [World.cell?, c1]
      have r1 : w3.cell? ⟨w.heap.size + 1, 1, none⟩ = some (.int .i64 n2) := by simp [World.cell?, c1]
      have r2 : w3.cell? ⟨w.heap.size + 1, 2, none⟩ = some (.string ⟨s2.toArray⟩) := by simp [World.cell?, c1]
      have r3 : w3.cell? ⟨w.heap.size + 1, 3, none⟩ = some (.int .i64 a2) := by simp [World.cell?, c1]
      have r4 : w3.cell? ⟨w.heap.size + 1, 4, none⟩ = some (.int .i64 e2) := by simp [World.cell?, c1]
      have Hsb3 := Lib.hid hsb
      clear c0 c1 hsb z0 z1 z2 z3 z4
      go_wp2_with fail
      refine (Hap.out _ S3 _ h3 b3 Hsb3.out).mono ?_
      rintro e w4 ⟨rfl, b4⟩
      have bE := HFin.out _ b4
      go_wp2
      go_ret2
      exact ⟨by rw [HS.out]; rfl, bE⟩
end Go.Proofs.YtbcmjinifilamaaGreatDoor
namespace Go.Proofs.YtbcmjinifilamaaGreatDoor
open Go.RowKit

theorem apartB_no {a b : ATok} (h : (Lx.toks (spell a ++ spell b)).bad ≠ none) : apartB a b = false := by
  unfold apartB cutsInto
  cases hb : (Lx.toks (spell a ++ spell b)).bad with
  | none => exact absurd hb h
  | some q => rfl

theorem apartB_count {a b : ATok} (h : (Lx.toks (spell a ++ spell b)).bad = none) (h2 : (Lx.toks (spell a ++ spell b)).toks.length ≠ 2) : apartB a b = false := by
  unfold apartB cutsInto
  rw [h]
  simp [h2]

theorem apartB_two {a b : ATok} {u v : Lx.Tok} (h : (Lx.toks (spell a ++ spell b)).bad = none) (h2 : (Lx.toks (spell a ++ spell b)).toks = [u, v]) : apartB a b = ((ofTok u).same a && (ofTok v).same b) := by
  unfold apartB cutsInto
  rw [h, h2]
  simp

set_option maxRecDepth 100000 in
set_option maxHeartbeats 3200000 in
theorem rsides_any (a b : ATok) (w : World) (he : Env w) (h7 : 7 ≤ w.heap.size) (ha : a.wide) (hb : b.wide) :
    Calls Tryz.prog 30 #[a.val, b.val] w fun e w' => e = .returned (sidesB a b) ∧ Turned w w' (fun _ => False) := by
  obtain ⟨W, hW⟩ : ∃ W, W = (w.alloc (.cells #[.int .i64 a.kind, .int .i64 a.n, .string ⟨a.s.toArray⟩, .int .i64 a.at_, .int .i64 a.end_] 43)).alloc (.cells #[.int .i64 b.kind, .int .i64 b.n, .string ⟨b.s.toArray⟩, .int .i64 b.at_, .int .i64 b.end_] 43) := ⟨_, rfl⟩
  have tW : Turned w W (fun _ => False) := by rw [hW]; exact ((Turned.refl w _).alloc _).alloc _
  have kA : W.heap[w.heap.size]? = some (.cells #[.int .i64 a.kind, .int .i64 a.n, .string ⟨a.s.toArray⟩, .int .i64 a.at_, .int .i64 a.end_] 43 (0, 0)) := by
    rw [hW]; exact (Below.heap_alloc _ _ _ (by simp)).trans (heap_alloc_new w _)
  have kB : W.heap[w.heap.size + 1]? = some (.cells #[.int .i64 b.kind, .int .i64 b.n, .string ⟨b.s.toArray⟩, .int .i64 b.at_, .int .i64 b.end_] 43 (0, 0)) := by
    have z : (w.alloc (.cells #[.int .i64 a.kind, .int .i64 a.n, .string ⟨a.s.toArray⟩, .int .i64 a.at_, .int .i64 a.end_] 43)).heap.size = w.heap.size + 1 := by simp
    rw [hW, ← z]; exact heap_alloc_new _ _
  have hE : ∀ V, Turned W V (fun _ => False) → Env V ∧ 7 ≤ V.heap.size := fun V hV => ⟨he.turned (tW.trans hV (fun _ _ hf => hf)) h7 (fun k hk => hk.elim), Nat.le_trans h7 (tW.trans hV (fun _ _ hf => hf)).size⟩
  have hRa := fun V (hV : Turned W V (fun _ => False)) => rright_any a V (hE V hV).1 (hE V hV).2 ha
  have hRb := fun V (hV : Turned W V (fun _ => False)) => rright_any b V (hE V hV).1 (hE V hV).2 hb
  have hXa := fun V (hV : Turned W V (fun _ => False)) => text_any a V (hE V hV).1 (hE V hV).2 ha
  have hXb := fun V (hV : Turned W V (fun _ => False)) => text_any b V (hE V hV).1 (hE V hV).2 hb
  have lB := lt_of_block kB
  have Cof : ∀ V, Turned W V (fun _ => False) → ((V.cell? ⟨w.heap.size, 0, none⟩ = some (.int .i64 a.kind) ∧ V.cell? ⟨w.heap.size, 1, none⟩ = some (.int .i64 a.n) ∧ V.cell? ⟨w.heap.size, 2, none⟩ = some (.string ⟨a.s.toArray⟩) ∧ V.cell? ⟨w.heap.size, 3, none⟩ = some (.int .i64 a.at_) ∧ V.cell? ⟨w.heap.size, 4, none⟩ = some (.int .i64 a.end_)) ∧
      (V.cell? ⟨w.heap.size + 1, 0, none⟩ = some (.int .i64 b.kind) ∧ V.cell? ⟨w.heap.size + 1, 1, none⟩ = some (.int .i64 b.n) ∧ V.cell? ⟨w.heap.size + 1, 2, none⟩ = some (.string ⟨b.s.toArray⟩) ∧ V.cell? ⟨w.heap.size + 1, 3, none⟩ = some (.int .i64 b.at_) ∧ V.cell? ⟨w.heap.size + 1, 4, none⟩ = some (.int .i64 b.end_))) ∧ Turned W V (fun _ => False) := fun V hV => by
    have k1 := (hV.block _ (by omega) (fun hf => hf)).trans kA
    have k2 := (hV.block _ lB (fun hf => hf)).trans kB
    refine ⟨⟨⟨?_, ?_, ?_, ?_, ?_⟩, ?_, ?_, ?_, ?_, ?_⟩, hV⟩ <;> simp [World.cell?, k1, k2]
  have hS : sidesB a b = if rightB a && rightB b then .tuple #[.bool (apartB a b), .int .i64 0] else .tuple #[.bool false, .int .i64 1] := rfl
  have hno1 := @apartB_no a b
  have hno2 := @apartB_count a b
  have htwo := fun u v => @apartB_two a b u v
  have hlen : rightB a = true → rightB b = true → (spell a ++ spell b).length ≤ 64 := fun h1 h2 => by
    have := rightB_len h1
    have := rightB_len h2
    rw [List.length_append]; omega
  have hadd := fun (h1 : rightB a = true) (h2 : rightB b = true) (w : World) => run_string_add_lists (P := Tryz.prog) w (spell a) (spell b) (by have := rightB_len h1; omega) (by have := rightB_len h2; omega)
  have hLa := fun (u : ATok) (V : World) => like_any u a V
  have hLb := fun (u : ATok) (V : World) => like_any u b V
  clear he h7 hE kA kB
  cases ka : rightB a with
  | false =>
    have HS : Hid (sidesB a b = .tuple #[.bool false, .int .i64 1]) := Lib.hid (by rw [hS, ka]; rfl)
    rw [ka] at hRa
    have HRa := Lib.hid hRa
    clear hRa hRb hXa hXb hS ka hno1 hno2 htwo hlen hadd hLa hLb ha hb lB
    obtain ⟨k1, n1, s1, a1, e1⟩ := a
    obtain ⟨k2, n2, s2, a2, e2⟩ := b
    unfold ATok.val at *
    simp only at *
    have HCof := Lib.hid Cof
    have TW := Lib.hid tW
    clear Cof tW
    go_enter Tryz.func30, Tryz.ntmps30
    go_wp2_with fail
    rw [← hW]
    refine (HRa.out _ (Turned.refl _ _)).mono ?_
    rintro e w1 ⟨rfl, t1⟩
    have tE := TW.out.trans t1 (fun _ _ hf => hf)
    go_wp2
    go_ret2
    exact ⟨by rw [HS.out]; rfl, tE⟩
  | true =>
    cases kb : rightB b with
    | false =>
      have HS : Hid (sidesB a b = .tuple #[.bool false, .int .i64 1]) := Lib.hid (by rw [hS, ka, kb]; rfl)
      rw [ka] at hRa
      rw [kb] at hRb
      have HRa := Lib.hid hRa
      have HRb := Lib.hid hRb
      clear hRa hRb hXa hXb hS ka kb hno1 hno2 htwo hlen hadd hLa hLb ha hb lB
      obtain ⟨k1, n1, s1, a1, e1⟩ := a
      obtain ⟨k2, n2, s2, a2, e2⟩ := b
      unfold ATok.val at *
      simp only at *
      have HCof := Lib.hid Cof
      have TW := Lib.hid tW
      clear Cof tW
      go_enter Tryz.func30, Tryz.ntmps30
      go_wp2_with fail
      rw [← hW]
      refine (HRa.out _ (Turned.refl _ _)).mono ?_
      rintro e w1 ⟨rfl, t1⟩
      obtain ⟨⟨-, q0, q1, q2, q3, q4⟩, -⟩ := HCof.out _ t1
      go_wp2_with fail
      refine (HRb.out _ t1).mono ?_
      rintro e w2 ⟨rfl, t2⟩
      have tE := TW.out.trans (t1.trans t2 (fun _ _ hf => hf)) (fun _ _ hf => hf)
      go_wp2
      go_ret2
      exact ⟨by rw [HS.out]; rfl, tE⟩
    | true =>
      have HS : Hid (sidesB a b = .tuple #[.bool (apartB a b), .int .i64 0]) := Lib.hid (by rw [hS, ka, kb]; rfl)
      rw [ka] at hRa
      rw [kb] at hRb
      have hX64 := hlen ka kb
      have hadd2 := hadd ka kb
      have HRa := Lib.hid hRa
      have HRb := Lib.hid hRb
      have HXa := Lib.hid hXa
      have HXb := Lib.hid hXb
      have Hadd := Lib.hid hadd2
      have HLa := Lib.hid hLa
      have HLb := Lib.hid hLb
      have Hno1 := Lib.hid hno1
      have Hno2 := Lib.hid hno2
      have Htwo := Lib.hid htwo
      have hcl := toks_count (spell a ++ spell b)
      have hT1 := fun q (h : (Lx.toks (spell a ++ spell b)).bad = some q) V => rtokens_err V (spell a ++ spell b) (by omega) q h
      have hT2 := fun (h : (Lx.toks (spell a ++ spell b)).bad = none) V => rtokens_fine V (spell a ++ spell b) (by omega) h (by omega)
      have HT1 := Lib.hid hT1
      have HT2 := Lib.hid hT2
      have hcut0 := Lx.toks_cut0 (spell a ++ spell b)
      clear hRa hRb hXa hXb hS ka kb hno1 hno2 htwo hlen hadd hadd2 hLa hLb ha hb lB hcl hT1 hT2 hcut0
      generalize apartB a b = ab at *
      generalize hsx : spell a ++ spell b = x at *
      generalize spell a = xa at *
      generalize spell b = xb at *
      clear hsx
      obtain ⟨k1, n1, s1, a1, e1⟩ := a
      obtain ⟨k2, n2, s2, a2, e2⟩ := b
      unfold ATok.val at *
      simp only at *
      have HCof := Lib.hid Cof
      have TW := Lib.hid tW
      clear Cof tW
      cases hbad : (Lx.toks x).bad with
      | some q =>
        have hno := Hno1.out (by rw [hbad]; simp)
        have Hno := Lib.hid hno
        have hT := HT1.out q hbad
        have HT := Lib.hid hT
        clear hno hT hbad
        go_enter Tryz.func30, Tryz.ntmps30
        go_wp2_with fail
        rw [← hW]
        refine (HRa.out _ (Turned.refl _ _)).mono ?_
        rintro e w1 ⟨rfl, t1⟩
        obtain ⟨⟨-, q0, q1, q2, q3, q4⟩, -⟩ := HCof.out _ t1
        go_wp2_with fail
        refine (HRb.out _ t1).mono ?_
        rintro e w2 ⟨rfl, t2⟩
        have t12 := t1.trans t2 (fun _ _ hf => hf)
        clear t1 t2 q0 q1 q2 q3 q4
        obtain ⟨⟨⟨p0, p1, p2, p3, p4⟩, q0, q1, q2, q3, q4⟩, -⟩ := HCof.out _ t12
        have hadd := Hadd.out
        go_wp2_with fail
        refine wp_region_held_drew (S := (fun w' => ((w'.cell? ⟨w.heap.size, 0, none⟩ = some (.int .i64 k1) ∧ w'.cell? ⟨w.heap.size, 1, none⟩ = some (.int .i64 n1) ∧ w'.cell? ⟨w.heap.size, 2, none⟩ = some (.string ⟨s1.toArray⟩) ∧ w'.cell? ⟨w.heap.size, 3, none⟩ = some (.int .i64 a1) ∧ w'.cell? ⟨w.heap.size, 4, none⟩ = some (.int .i64 e1)) ∧
            (w'.cell? ⟨w.heap.size + 1, 0, none⟩ = some (.int .i64 k2) ∧ w'.cell? ⟨w.heap.size + 1, 1, none⟩ = some (.int .i64 n2) ∧ w'.cell? ⟨w.heap.size + 1, 2, none⟩ = some (.string ⟨s2.toArray⟩) ∧ w'.cell? ⟨w.heap.size + 1, 3, none⟩ = some (.int .i64 a2) ∧ w'.cell? ⟨w.heap.size + 1, 4, none⟩ = some (.int .i64 e2))) ∧ Turned W w' (fun _ => False))) (by kernel_rfl) (HCof.out _ t12.drew) (fun hHeld => ?_)
        refine wpAnyH_take (i := 0) (v := ?_) rfl (by kernel_rfl) (by kernel_rfl) (by kernel_rfl) (fun _ _ _ h => h) (Or.inl ⟨by rfl, ?_⟩) (by assumption) ?_
        rotate_left 1
        · (intro w hSw; (try dsimp only at hSw); first | (go_simp; done) | (go_simp; with_reducible rfl))
        simp only [List.getElem_toArray, List.getElem_cons_zero, Act.put, List.setIfInBounds_toArray, List.set_cons_zero, List.set_cons_succ]
        refine wpAnyH_take (i := 2) (v := ?_) rfl (by kernel_rfl) (by kernel_rfl) (by kernel_rfl) (fun _ _ _ h => h) (Or.inl ⟨by rfl, ?_⟩) (by assumption) ?_
        rotate_left 1
        · (intro w hSw; (try dsimp only at hSw); first | (go_simp; done) | (go_simp; with_reducible rfl))
        simp only [List.getElem_toArray, List.getElem_cons_zero, List.getElem_cons_succ, Act.put, List.setIfInBounds_toArray, List.set_cons_zero, List.set_cons_succ]
        refine wpAnyH_ready (rs := [1]) (by kernel_rfl) (by simp) ?_
        refine AllReadyH.cons rfl (fun K hK => ?_) AllReadyH.nil
        go_simp
        go_at_call 35
        refine (HXa.out _ t12.drew).mono ?_
        rintro e3 w3 ⟨rfl, t3⟩
        have t13 := t12.drew.trans t3 (fun _ _ hf => hf)
        go_wp2_with fail
        refine hK.out _ _ (HCof.out _ t13) (fun hHeld2 => ?_)
        clear hK K hHeld
        refine wpAnyH_ready (rs := [3]) (by kernel_rfl) (by simp) ?_
        refine AllReadyH.cons rfl (fun K hK => ?_) AllReadyH.nil
        go_simp
        go_at_call 35
        refine (HXb.out _ t13).mono ?_
        rintro e4 w4 ⟨rfl, t4⟩
        have t14 := t13.trans t4 (fun _ _ hf => hf)
        go_wp2_with fail
        refine hK.out _ _ (HCof.out _ t14) (fun hHeld3 => ?_)
        clear hK K hHeld2
        refine wpAnyH_take (i := 4) (v := ?_) rfl (by kernel_rfl) (by kernel_rfl) (by kernel_rfl) (fun _ _ _ h => h) (Or.inl ⟨by rfl, ?_⟩) (by assumption) ?_
        rotate_left 1
        · (intro w hSw; (try dsimp only at hSw); first | (go_simp; done) | (go_simp; with_reducible rfl))
        simp only [List.getElem_toArray, List.getElem_cons_zero, List.getElem_cons_succ, Act.put, List.setIfInBounds_toArray, List.set_cons_zero, List.set_cons_succ]
        refine wpAnyH_ready (rs := [5]) (by kernel_rfl) (by simp) ?_
        refine AllReadyH.cons rfl (fun K hK => ?_) AllReadyH.nil
        go_simp
        go_at_call 13
        refine (HT.out _).mono ?_
        rintro e5 w5 ⟨rfl, t5⟩
        have t15 := t14.trans t5 (fun _ _ hf => hf)
        go_wp2_with fail
        refine hK.out _ _ (HCof.out _ t15) (fun hHeld4 => ?_)
        clear hK K hHeld3
        refine wpAnyH_take (i := 6) (v := ?_) rfl (by kernel_rfl) (by kernel_rfl) (by kernel_rfl) (fun _ _ _ h => h) (Or.inl ⟨by rfl, ?_⟩) (by assumption) ?_
        rotate_left 1
        · (intro w hSw; (try dsimp only at hSw); first | (go_simp; done) | (go_simp; with_reducible rfl))
        simp only [List.getElem_toArray, List.getElem_cons_zero, List.getElem_cons_succ, Act.put, List.setIfInBounds_toArray, List.set_cons_zero, List.set_cons_succ]
        refine wpAnyH_take (i := 7) (v := ?_) rfl (by kernel_rfl) (by kernel_rfl) (by kernel_rfl) (fun _ _ _ h => h) (Or.inl ⟨by rfl, ?_⟩) (by assumption) ?_
        rotate_left 1
        · (intro w hSw; (try dsimp only at hSw); first | (go_simp; done) | (go_simp; with_reducible rfl))
        simp only [List.getElem_toArray, List.getElem_cons_zero, List.getElem_cons_succ, Act.put, List.setIfInBounds_toArray, List.set_cons_zero, List.set_cons_succ]
        refine wpAnyH_take (i := 8) (v := ?_) rfl (by kernel_rfl) (by kernel_rfl) (by kernel_rfl) (fun _ _ _ h => h) (Or.inl ⟨by rfl, ?_⟩) (by assumption) ?_
        rotate_left 1
        · (intro w hSw; (try dsimp only at hSw); first | (go_simp; done) | (go_simp; with_reducible rfl))
        simp only [List.getElem_toArray, List.getElem_cons_zero, List.getElem_cons_succ, Act.put, List.setIfInBounds_toArray, List.set_cons_zero, List.set_cons_succ]
        refine wpAnyH_take (i := 9) (v := ?_) rfl (by kernel_rfl) (by kernel_rfl) (by kernel_rfl) (fun _ _ _ h => h) (Or.inl ⟨by rfl, ?_⟩) (by assumption) ?_
        rotate_left 1
        · (intro w hSw; (try dsimp only at hSw); first | (go_simp; done) | (go_simp; with_reducible rfl))
        simp only [List.getElem_toArray, List.getElem_cons_zero, List.getElem_cons_succ, Act.put, List.setIfInBounds_toArray, List.set_cons_zero, List.set_cons_succ]
        refine wpAnyH_take (i := 10) (v := ?_) rfl (by kernel_rfl) (by kernel_rfl) (by kernel_rfl) (fun _ _ _ h => h) (Or.inl ⟨by rfl, ?_⟩) (by assumption) ?_
        rotate_left 1
        · (intro w hSw; (try dsimp only at hSw); first | (go_simp; done) | (go_simp; with_reducible rfl))
        simp only [List.getElem_toArray, List.getElem_cons_zero, List.getElem_cons_succ, Act.put, List.setIfInBounds_toArray, List.set_cons_zero, List.set_cons_succ]
        refine wpAnyH_take (i := 11) (v := ?_) rfl (by kernel_rfl) (by kernel_rfl) (by kernel_rfl) (fun _ _ _ h => h) (Or.inl ⟨by rfl, ?_⟩) (by assumption) ?_
        rotate_left 1
        · (intro w hSw; (try dsimp only at hSw); first | (go_simp; done) | (go_simp; with_reducible rfl))
        simp only [List.getElem_toArray, List.getElem_cons_zero, List.getElem_cons_succ, Act.put, List.setIfInBounds_toArray, List.set_cons_zero, List.set_cons_succ]
        refine wpAnyH_take (i := 12) (v := ?_) rfl (by kernel_rfl) (by kernel_rfl) (by kernel_rfl) (fun _ _ _ h => h) (Or.inl ⟨by rfl, ?_⟩) (by assumption) ?_
        rotate_left 1
        · (intro w hSw; (try dsimp only at hSw); first | (go_simp; done) | (go_simp; with_reducible rfl))
        simp only [List.getElem_toArray, List.getElem_cons_zero, List.getElem_cons_succ, Act.put, List.setIfInBounds_toArray, List.set_cons_zero, List.set_cons_succ]
        refine wpAnyH_done (by kernel_rfl) ?_ _
        have T15 := Lib.hid t15
        clear hHeld4 hadd t12 t3 t13 t4 t14 t5 t15 p0 p1 p2 p3 p4 q0 q1 q2 q3 q4
        obtain ⟨⟨⟨p0, p1, p2, p3, p4⟩, q0, q1, q2, q3, q4⟩, -⟩ := HCof.out _ T15.out
        go_wp2_with fail
        go_quiet (fail)
        have tE := TW.out.trans (T15.out.drewN nq) (fun _ _ hf => hf)
        go_wp2
        go_ret2
        exact ⟨by rw [HS.out, Hno.out]; rfl, tE⟩

      | none =>
        have hT := HT2.out hbad
        by_cases h2 : (Lx.toks x).toks.length = 2
        · obtain ⟨u, v, huv⟩ : ∃ u v, (Lx.toks x).toks = [u, v] := by
            match hx : (Lx.toks x).toks, h2 with
            | [u, v], _ => exact ⟨u, v, rfl⟩
          have hab := Htwo.out u v hbad huv
          rw [huv] at hT
          simp only [List.length_cons, List.length_nil] at hT
          have HT := Lib.hid hT
          clear hT h2 huv hbad
          obtain ⟨uk, un, us, ua, ue⟩ := u
          obtain ⟨vk, vn, vs, va, ve⟩ := v
          have hL1 := HLa.out ⟨uk, un, us, ua, ue⟩
          have hL2 := HLb.out ⟨vk, vn, vs, va, ve⟩
          simp only [ofTok] at hab
          cases hs1 : ATok.same ⟨uk, un, us, ua, ue⟩ ⟨k1, n1, s1, a1, e1⟩ with
          | false =>
            rw [hs1] at hab hL1
            rw [Bool.false_and] at hab
            have Hab := Lib.hid hab
            have HL1 := Lib.hid hL1
            clear hab hL1 hL2 hs1
            go_enter Tryz.func30, Tryz.ntmps30
            go_wp2_with fail
            rw [← hW]
            refine (HRa.out _ (Turned.refl _ _)).mono ?_
            rintro e w1 ⟨rfl, t1⟩
            obtain ⟨⟨-, q0, q1, q2, q3, q4⟩, -⟩ := HCof.out _ t1
            go_wp2_with fail
            refine (HRb.out _ t1).mono ?_
            rintro e w2 ⟨rfl, t2⟩
            have t12 := t1.trans t2 (fun _ _ hf => hf)
            clear t1 t2 q0 q1 q2 q3 q4
            obtain ⟨⟨⟨p0, p1, p2, p3, p4⟩, q0, q1, q2, q3, q4⟩, -⟩ := HCof.out _ t12
            have hadd := Hadd.out
            go_wp2_with fail
            refine wp_region_held_drew (S := (fun w' => ((w'.cell? ⟨w.heap.size, 0, none⟩ = some (.int .i64 k1) ∧ w'.cell? ⟨w.heap.size, 1, none⟩ = some (.int .i64 n1) ∧ w'.cell? ⟨w.heap.size, 2, none⟩ = some (.string ⟨s1.toArray⟩) ∧ w'.cell? ⟨w.heap.size, 3, none⟩ = some (.int .i64 a1) ∧ w'.cell? ⟨w.heap.size, 4, none⟩ = some (.int .i64 e1)) ∧
                (w'.cell? ⟨w.heap.size + 1, 0, none⟩ = some (.int .i64 k2) ∧ w'.cell? ⟨w.heap.size + 1, 1, none⟩ = some (.int .i64 n2) ∧ w'.cell? ⟨w.heap.size + 1, 2, none⟩ = some (.string ⟨s2.toArray⟩) ∧ w'.cell? ⟨w.heap.size + 1, 3, none⟩ = some (.int .i64 a2) ∧ w'.cell? ⟨w.heap.size + 1, 4, none⟩ = some (.int .i64 e2))) ∧ Turned W w' (fun _ => False))) (by kernel_rfl) (HCof.out _ t12.drew) (fun hHeld => ?_)
            refine wpAnyH_take (i := 0) (v := ?_) rfl (by kernel_rfl) (by kernel_rfl) (by kernel_rfl) (fun _ _ _ h => h) (Or.inl ⟨by rfl, ?_⟩) (by assumption) ?_
            rotate_left 1
            · (intro w hSw; (try dsimp only at hSw); first | (go_simp; done) | (go_simp; with_reducible rfl))
            simp only [List.getElem_toArray, List.getElem_cons_zero, Act.put, List.setIfInBounds_toArray, List.set_cons_zero, List.set_cons_succ]
            refine wpAnyH_take (i := 2) (v := ?_) rfl (by kernel_rfl) (by kernel_rfl) (by kernel_rfl) (fun _ _ _ h => h) (Or.inl ⟨by rfl, ?_⟩) (by assumption) ?_
            rotate_left 1
            · (intro w hSw; (try dsimp only at hSw); first | (go_simp; done) | (go_simp; with_reducible rfl))
            simp only [List.getElem_toArray, List.getElem_cons_zero, List.getElem_cons_succ, Act.put, List.setIfInBounds_toArray, List.set_cons_zero, List.set_cons_succ]
            refine wpAnyH_ready (rs := [1]) (by kernel_rfl) (by simp) ?_
            refine AllReadyH.cons rfl (fun K hK => ?_) AllReadyH.nil
            go_simp
            go_at_call 35
            refine (HXa.out _ t12.drew).mono ?_
            rintro e3 w3 ⟨rfl, t3⟩
            have t13 := t12.drew.trans t3 (fun _ _ hf => hf)
            go_wp2_with fail
            refine hK.out _ _ (HCof.out _ t13) (fun hHeld2 => ?_)
            clear hK K hHeld
            refine wpAnyH_ready (rs := [3]) (by kernel_rfl) (by simp) ?_
            refine AllReadyH.cons rfl (fun K hK => ?_) AllReadyH.nil
            go_simp
            go_at_call 35
            refine (HXb.out _ t13).mono ?_
            rintro e4 w4 ⟨rfl, t4⟩
            have t14 := t13.trans t4 (fun _ _ hf => hf)
            go_wp2_with fail
            refine hK.out _ _ (HCof.out _ t14) (fun hHeld3 => ?_)
            clear hK K hHeld2
            refine wpAnyH_take (i := 4) (v := ?_) rfl (by kernel_rfl) (by kernel_rfl) (by kernel_rfl) (fun _ _ _ h => h) (Or.inl ⟨by rfl, ?_⟩) (by assumption) ?_
            rotate_left 1
            · (intro w hSw; (try dsimp only at hSw); first | (go_simp; done) | (go_simp; with_reducible rfl))
            simp only [List.getElem_toArray, List.getElem_cons_zero, List.getElem_cons_succ, Act.put, List.setIfInBounds_toArray, List.set_cons_zero, List.set_cons_succ]
            refine wpAnyH_ready (rs := [5]) (by kernel_rfl) (by simp) ?_
            refine AllReadyH.cons rfl (fun K hK => ?_) AllReadyH.nil
            go_simp
            go_at_call 13
            refine (HT.out _).mono ?_
            rintro e5 w5 ⟨vaa, vc, rfl, ho5, t5⟩
            have t15 := t14.trans t5 (fun _ _ hf => hf)
            go_wp2_with fail
            refine hK.out _ _ (HCof.out _ t15) (fun hHeld4 => ?_)
            clear hK K hHeld3
            refine wpAnyH_take (i := 6) (v := ?_) rfl (by kernel_rfl) (by kernel_rfl) (by kernel_rfl) (fun _ _ _ h => h) (Or.inl ⟨by rfl, ?_⟩) (by assumption) ?_
            rotate_left 1
            · (intro w hSw; (try dsimp only at hSw); first | (go_simp; done) | (go_simp; with_reducible rfl))
            simp only [List.getElem_toArray, List.getElem_cons_zero, List.getElem_cons_succ, Act.put, List.setIfInBounds_toArray, List.set_cons_zero, List.set_cons_succ]
            refine wpAnyH_take (i := 7) (v := ?_) rfl (by kernel_rfl) (by kernel_rfl) (by kernel_rfl) (fun _ _ _ h => h) (Or.inl ⟨by rfl, ?_⟩) (by assumption) ?_
            rotate_left 1
            · (intro w hSw; (try dsimp only at hSw); first | (go_simp; done) | (go_simp; with_reducible rfl))
            simp only [List.getElem_toArray, List.getElem_cons_zero, List.getElem_cons_succ, Act.put, List.setIfInBounds_toArray, List.set_cons_zero, List.set_cons_succ]
            refine wpAnyH_take (i := 8) (v := ?_) rfl (by kernel_rfl) (by kernel_rfl) (by kernel_rfl) (fun _ _ _ h => h) (Or.inl ⟨by rfl, ?_⟩) (by assumption) ?_
            rotate_left 1
            · (intro w hSw; (try dsimp only at hSw); first | (go_simp; done) | (go_simp; with_reducible rfl))
            simp only [List.getElem_toArray, List.getElem_cons_zero, List.getElem_cons_succ, Act.put, List.setIfInBounds_toArray, List.set_cons_zero, List.set_cons_succ]
            refine wpAnyH_take (i := 9) (v := ?_) rfl (by kernel_rfl) (by kernel_rfl) (by kernel_rfl) (fun _ _ _ h => h) (Or.inl ⟨by rfl, ?_⟩) (by assumption) ?_
            rotate_left 1
            · (intro w hSw; (try dsimp only at hSw); first | (go_simp; done) | (go_simp; with_reducible rfl))
            simp only [List.getElem_toArray, List.getElem_cons_zero, List.getElem_cons_succ, Act.put, List.setIfInBounds_toArray, List.set_cons_zero, List.set_cons_succ]
            refine wpAnyH_take (i := 10) (v := ?_) rfl (by kernel_rfl) (by kernel_rfl) (by kernel_rfl) (fun _ _ _ h => h) (Or.inl ⟨by rfl, ?_⟩) (by assumption) ?_
            rotate_left 1
            · (intro w hSw; (try dsimp only at hSw); first | (go_simp; done) | (go_simp; with_reducible rfl))
            simp only [List.getElem_toArray, List.getElem_cons_zero, List.getElem_cons_succ, Act.put, List.setIfInBounds_toArray, List.set_cons_zero, List.set_cons_succ]
            refine wpAnyH_take (i := 11) (v := ?_) rfl (by kernel_rfl) (by kernel_rfl) (by kernel_rfl) (fun _ _ _ h => h) (Or.inl ⟨by rfl, ?_⟩) (by assumption) ?_
            rotate_left 1
            · (intro w hSw; (try dsimp only at hSw); first | (go_simp; done) | (go_simp; with_reducible rfl))
            simp only [List.getElem_toArray, List.getElem_cons_zero, List.getElem_cons_succ, Act.put, List.setIfInBounds_toArray, List.set_cons_zero, List.set_cons_succ]
            refine wpAnyH_take (i := 12) (v := ?_) rfl (by kernel_rfl) (by kernel_rfl) (by kernel_rfl) (fun _ _ _ h => h) (Or.inl ⟨by rfl, ?_⟩) (by assumption) ?_
            rotate_left 1
            · (intro w hSw; (try dsimp only at hSw); first | (go_simp; done) | (go_simp; with_reducible rfl))
            simp only [List.getElem_toArray, List.getElem_cons_zero, List.getElem_cons_succ, Act.put, List.setIfInBounds_toArray, List.set_cons_zero, List.set_cons_succ]
            refine wpAnyH_done (by kernel_rfl) ?_ _
            have T15 := Lib.hid t15
            clear hHeld4 hadd t12 t3 t13 t4 t14 t5 t15 p0 p1 p2 p3 p4 q0 q1 q2 q3 q4
            have r5 := rowOf_owns (l := [ofTok ⟨uk, un, us, ua, ue⟩, ofTok ⟨vk, vn, vs, va, ve⟩]) (v := .slice vaa 2 vc) (by simpa [ofTok_cells, List.flatMap_cons] using ho5)
            obtain ⟨g, off, rfl, lg, xc⟩ := rowA_at r5 0 (by simp)
            obtain ⟨g', off', hva, -, xd⟩ := rowA_at r5 1 (by simp)
            simp only [Option.some.injEq, Addr.mk.injEq, and_true] at hva
            obtain ⟨rfl, rfl⟩ := hva
            have Xc := Lib.hid xc
            have Xd := Lib.hid xd
            clear r5 ho5 xc xd
            have Sof : ∀ w' : World, Turned w5 w' (fun _ => False) → ((((w'.cell? ⟨w.heap.size, 0, none⟩ = some (.int .i64 k1) ∧ w'.cell? ⟨w.heap.size, 1, none⟩ = some (.int .i64 n1) ∧ w'.cell? ⟨w.heap.size, 2, none⟩ = some (.string ⟨s1.toArray⟩) ∧ w'.cell? ⟨w.heap.size, 3, none⟩ = some (.int .i64 a1) ∧ w'.cell? ⟨w.heap.size, 4, none⟩ = some (.int .i64 e1)) ∧
                (w'.cell? ⟨w.heap.size + 1, 0, none⟩ = some (.int .i64 k2) ∧ w'.cell? ⟨w.heap.size + 1, 1, none⟩ = some (.int .i64 n2) ∧ w'.cell? ⟨w.heap.size + 1, 2, none⟩ = some (.string ⟨s2.toArray⟩) ∧ w'.cell? ⟨w.heap.size + 1, 3, none⟩ = some (.int .i64 a2) ∧ w'.cell? ⟨w.heap.size + 1, 4, none⟩ = some (.int .i64 e2))) ∧ (w'.cell? ⟨g, off, none⟩ = some (.int .i64 uk) ∧ w'.cell? ⟨g, off + 1, none⟩ = some (.int .i64 un) ∧ w'.cell? ⟨g, off + 2, none⟩ = some (.string ⟨us.toArray⟩) ∧ w'.cell? ⟨g, off + 3, none⟩ = some (.int .i64 ua) ∧ w'.cell? ⟨g, off + 4, none⟩ = some (.int .i64 ue) ∧ w'.cell? ⟨g, off + 5, none⟩ = some (.int .i64 vk) ∧ w'.cell? ⟨g, off + 6, none⟩ = some (.int .i64 vn) ∧ w'.cell? ⟨g, off + 7, none⟩ = some (.string ⟨vs.toArray⟩) ∧ w'.cell? ⟨g, off + 8, none⟩ = some (.int .i64 va) ∧ w'.cell? ⟨g, off + 9, none⟩ = some (.int .i64 ve))) ∧ Turned w5 w' (fun _ => False)) := by
              intro w' t
              have pc := fun (i : Nat) (u : Value) (hu : (ATok.cells (ofTok ⟨uk, un, us, ua, ue⟩))[i]? = some u) => (t.cell (p := ⟨g, off + 0 * 5 + i, none⟩) lg (fun hf => hf)).trans (Xc.out i u hu)
              have pd := fun (i : Nat) (u : Value) (hu : (ATok.cells (ofTok ⟨vk, vn, vs, va, ve⟩))[i]? = some u) => (t.cell (p := ⟨g, off + 1 * 5 + i, none⟩) lg (fun hf => hf)).trans (Xd.out i u hu)
              simp only [Nat.zero_mul, Nat.add_zero, Nat.one_mul] at pc pd
              exact ⟨⟨(HCof.out _ (T15.out.trans t (fun _ _ hf => hf))).1, pc 0 _ rfl, pc 1 _ rfl, pc 2 _ rfl, pc 3 _ rfl, pc 4 _ rfl, pd 0 _ rfl, pd 1 _ rfl, pd 2 _ rfl, pd 3 _ rfl, pd 4 _ rfl⟩, t⟩
            have HSof := Lib.hid Sof
            obtain ⟨⟨⟨⟨p0, p1, p2, p3, p4⟩, q0, q1, q2, q3, q4⟩, z0, z1, z2, z3, z4, z5, z6, z7, z8, z9⟩, -⟩ := Sof w5 (Turned.refl _ _)
            have tt : Turned w5 w5.drew (fun _ => False) := (Turned.refl w5 _).drew
            clear Sof
            go_wp2_with fail
            refine wp_region_held_drew (S := (fun w' => (((w'.cell? ⟨w.heap.size, 0, none⟩ = some (.int .i64 k1) ∧ w'.cell? ⟨w.heap.size, 1, none⟩ = some (.int .i64 n1) ∧ w'.cell? ⟨w.heap.size, 2, none⟩ = some (.string ⟨s1.toArray⟩) ∧ w'.cell? ⟨w.heap.size, 3, none⟩ = some (.int .i64 a1) ∧ w'.cell? ⟨w.heap.size, 4, none⟩ = some (.int .i64 e1)) ∧
                (w'.cell? ⟨w.heap.size + 1, 0, none⟩ = some (.int .i64 k2) ∧ w'.cell? ⟨w.heap.size + 1, 1, none⟩ = some (.int .i64 n2) ∧ w'.cell? ⟨w.heap.size + 1, 2, none⟩ = some (.string ⟨s2.toArray⟩) ∧ w'.cell? ⟨w.heap.size + 1, 3, none⟩ = some (.int .i64 a2) ∧ w'.cell? ⟨w.heap.size + 1, 4, none⟩ = some (.int .i64 e2))) ∧ (w'.cell? ⟨g, off, none⟩ = some (.int .i64 uk) ∧ w'.cell? ⟨g, off + 1, none⟩ = some (.int .i64 un) ∧ w'.cell? ⟨g, off + 2, none⟩ = some (.string ⟨us.toArray⟩) ∧ w'.cell? ⟨g, off + 3, none⟩ = some (.int .i64 ua) ∧ w'.cell? ⟨g, off + 4, none⟩ = some (.int .i64 ue) ∧ w'.cell? ⟨g, off + 5, none⟩ = some (.int .i64 vk) ∧ w'.cell? ⟨g, off + 6, none⟩ = some (.int .i64 vn) ∧ w'.cell? ⟨g, off + 7, none⟩ = some (.string ⟨vs.toArray⟩) ∧ w'.cell? ⟨g, off + 8, none⟩ = some (.int .i64 va) ∧ w'.cell? ⟨g, off + 9, none⟩ = some (.int .i64 ve))) ∧ Turned w5 w' (fun _ => False))) (by kernel_rfl) (HSof.out _ tt) (fun hHeld => ?_)
            refine wpAnyH_take (i := 0) (v := ?_) rfl (by kernel_rfl) (by kernel_rfl) (by kernel_rfl) (fun _ _ _ h => h) (Or.inl ⟨by rfl, ?_⟩) (by assumption) ?_
            rotate_left 1
            · (intro w hSw; (try dsimp only at hSw); first | (go_simp; done) | (go_simp; with_reducible rfl))
            simp only [List.getElem_toArray, List.getElem_cons_zero, Act.put, List.setIfInBounds_toArray, List.set_cons_zero, List.set_cons_succ]
            refine wpAnyH_take (i := 1) (v := ?_) rfl (by kernel_rfl) (by kernel_rfl) (by kernel_rfl) (fun _ _ _ h => h) (Or.inl ⟨by rfl, ?_⟩) (by assumption) ?_
            rotate_left 1
            · (intro w hSw; (try dsimp only at hSw); first | (go_simp; done) | (go_simp; with_reducible rfl))
            simp only [List.getElem_toArray, List.getElem_cons_zero, List.getElem_cons_succ, Act.put, List.setIfInBounds_toArray, List.set_cons_zero, List.set_cons_succ]
            refine wpAnyH_take (i := 2) (v := ?_) rfl (by kernel_rfl) (by kernel_rfl) (by kernel_rfl) (fun _ _ _ h => h) (Or.inl ⟨by rfl, ?_⟩) (by assumption) ?_
            rotate_left 1
            · (intro w hSw; (try dsimp only at hSw); first | (go_simp; done) | (go_simp; with_reducible rfl))
            simp only [List.getElem_toArray, List.getElem_cons_zero, List.getElem_cons_succ, Act.put, List.setIfInBounds_toArray, List.set_cons_zero, List.set_cons_succ]
            refine wpAnyH_take (i := 3) (v := ?_) rfl (by kernel_rfl) (by kernel_rfl) (by kernel_rfl) (fun _ _ _ h => h) (Or.inl ⟨by rfl, ?_⟩) (by assumption) ?_
            rotate_left 1
            · (intro w hSw; (try dsimp only at hSw); first | (go_simp; done) | (go_simp; with_reducible rfl))
            simp only [List.getElem_toArray, List.getElem_cons_zero, List.getElem_cons_succ, Act.put, List.setIfInBounds_toArray, List.set_cons_zero, List.set_cons_succ]
            refine wpAnyH_take (i := 4) (v := ?_) rfl (by kernel_rfl) (by kernel_rfl) (by kernel_rfl) (fun _ _ _ h => h) (Or.inl ⟨by rfl, ?_⟩) (by assumption) ?_
            rotate_left 1
            · (intro w hSw; (try dsimp only at hSw); first | (go_simp; done) | (go_simp; with_reducible rfl))
            simp only [List.getElem_toArray, List.getElem_cons_zero, List.getElem_cons_succ, Act.put, List.setIfInBounds_toArray, List.set_cons_zero, List.set_cons_succ]
            refine wpAnyH_take (i := 5) (v := ?_) rfl (by kernel_rfl) (by kernel_rfl) (by kernel_rfl) (fun _ _ _ h => h) (Or.inl ⟨by rfl, ?_⟩) (by assumption) ?_
            rotate_left 1
            · (intro w hSw; (try dsimp only at hSw); first | (go_simp; done) | (go_simp; with_reducible rfl))
            simp only [List.getElem_toArray, List.getElem_cons_zero, List.getElem_cons_succ, Act.put, List.setIfInBounds_toArray, List.set_cons_zero, List.set_cons_succ]
            refine wpAnyH_take (i := 6) (v := ?_) rfl (by kernel_rfl) (by kernel_rfl) (by kernel_rfl) (fun _ _ _ h => h) (Or.inl ⟨by rfl, ?_⟩) (by assumption) ?_
            rotate_left 1
            · (intro w hSw; (try dsimp only at hSw); first | (go_simp; done) | (go_simp; with_reducible rfl))
            simp only [List.getElem_toArray, List.getElem_cons_zero, List.getElem_cons_succ, Act.put, List.setIfInBounds_toArray, List.set_cons_zero, List.set_cons_succ]
            refine wpAnyH_take (i := 7) (v := ?_) rfl (by kernel_rfl) (by kernel_rfl) (by kernel_rfl) (fun _ _ _ h => h) (Or.inl ⟨by rfl, ?_⟩) (by assumption) ?_
            rotate_left 1
            · (intro w hSw; (try dsimp only at hSw); first | (go_simp; done) | (go_simp; with_reducible rfl))
            simp only [List.getElem_toArray, List.getElem_cons_zero, List.getElem_cons_succ, Act.put, List.setIfInBounds_toArray, List.set_cons_zero, List.set_cons_succ]
            refine wpAnyH_take (i := 8) (v := ?_) rfl (by kernel_rfl) (by kernel_rfl) (by kernel_rfl) (fun _ _ _ h => h) (Or.inl ⟨by rfl, ?_⟩) (by assumption) ?_
            rotate_left 1
            · (intro w hSw; (try dsimp only at hSw); first | (go_simp; done) | (go_simp; with_reducible rfl))
            simp only [List.getElem_toArray, List.getElem_cons_zero, List.getElem_cons_succ, Act.put, List.setIfInBounds_toArray, List.set_cons_zero, List.set_cons_succ]
            refine wpAnyH_take (i := 9) (v := ?_) rfl (by kernel_rfl) (by kernel_rfl) (by kernel_rfl) (fun _ _ _ h => h) (Or.inl ⟨by rfl, ?_⟩) (by assumption) ?_
            rotate_left 1
            · (intro w hSw; (try dsimp only at hSw); first | (go_simp; done) | (go_simp; with_reducible rfl))
            simp only [List.getElem_toArray, List.getElem_cons_zero, List.getElem_cons_succ, Act.put, List.setIfInBounds_toArray, List.set_cons_zero, List.set_cons_succ]
            refine wpAnyH_take (i := 10) (v := ?_) rfl (by kernel_rfl) (by kernel_rfl) (by kernel_rfl) (fun _ _ _ h => h) (Or.inl ⟨by rfl, ?_⟩) (by assumption) ?_
            rotate_left 1
            · (intro w hSw; (try dsimp only at hSw); first | (go_simp; done) | (go_simp; with_reducible rfl))
            simp only [List.getElem_toArray, List.getElem_cons_zero, List.getElem_cons_succ, Act.put, List.setIfInBounds_toArray, List.set_cons_zero, List.set_cons_succ]
            refine wpAnyH_take (i := 11) (v := ?_) rfl (by kernel_rfl) (by kernel_rfl) (by kernel_rfl) (fun _ _ _ h => h) (Or.inl ⟨by rfl, ?_⟩) (by assumption) ?_
            rotate_left 1
            · (intro w hSw; (try dsimp only at hSw); first | (go_simp; done) | (go_simp; with_reducible rfl))
            simp only [List.getElem_toArray, List.getElem_cons_zero, List.getElem_cons_succ, Act.put, List.setIfInBounds_toArray, List.set_cons_zero, List.set_cons_succ]
            refine wpAnyH_ready (rs := [12]) (by kernel_rfl) (by simp) ?_
            refine AllReadyH.cons rfl (fun K hK => ?_) AllReadyH.nil
            go_simp
            go_at_call 37
            refine (HL1.out _).mono ?_
            rintro e6 w6 ⟨rfl, t6⟩
            go_wp2_with fail
            refine hK.out _ _ (HSof.out _ (tt.trans t6 (fun _ _ hf => hf))) (fun hHeld2 => ?_)
            clear hK K hHeld
            refine wpAnyH_take (i := 13) (v := ?_) rfl (by kernel_rfl) (by kernel_rfl) (by kernel_rfl) (fun _ _ _ h => h) (Or.inl ⟨by rfl, ?_⟩) (by assumption) ?_
            rotate_left 1
            · (intro w hSw; (try dsimp only at hSw); first | (go_simp; done) | (go_simp; with_reducible rfl))
            simp only [List.getElem_toArray, List.getElem_cons_zero, List.getElem_cons_succ, Act.put, List.setIfInBounds_toArray, List.set_cons_zero, List.set_cons_succ]
            refine wpAnyH_take (i := 14) (v := ?_) rfl (by kernel_rfl) (by kernel_rfl) (by kernel_rfl) (fun _ _ _ h => h) (Or.inl ⟨by rfl, ?_⟩) (by assumption) ?_
            rotate_left 1
            · (intro w hSw; (try dsimp only at hSw); first | (go_simp; done) | (go_simp; with_reducible rfl))
            simp only [List.getElem_toArray, List.getElem_cons_zero, List.getElem_cons_succ, Act.put, List.setIfInBounds_toArray, List.set_cons_zero, List.set_cons_succ]
            refine wpAnyH_take (i := 15) (v := undef) rfl (by kernel_rfl) (by kernel_rfl) (by kernel_rfl) (fun _ _ _ h => h) (Or.inr ⟨by rfl, rfl⟩) (by assumption) ?_
            simp only [List.getElem_toArray, List.getElem_cons_zero, List.getElem_cons_succ, Act.put, List.setIfInBounds_toArray, List.set_cons_zero, List.set_cons_succ]
            refine wpAnyH_take (i := 16) (v := undef) rfl (by kernel_rfl) (by kernel_rfl) (by kernel_rfl) (fun _ _ _ h => h) (Or.inr ⟨by rfl, rfl⟩) (by assumption) ?_
            simp only [List.getElem_toArray, List.getElem_cons_zero, List.getElem_cons_succ, Act.put, List.setIfInBounds_toArray, List.set_cons_zero, List.set_cons_succ]
            refine wpAnyH_take (i := 17) (v := undef) rfl (by kernel_rfl) (by kernel_rfl) (by kernel_rfl) (fun _ _ _ h => h) (Or.inr ⟨by rfl, rfl⟩) (by assumption) ?_
            simp only [List.getElem_toArray, List.getElem_cons_zero, List.getElem_cons_succ, Act.put, List.setIfInBounds_toArray, List.set_cons_zero, List.set_cons_succ]
            refine wpAnyH_take (i := 18) (v := undef) rfl (by kernel_rfl) (by kernel_rfl) (by kernel_rfl) (fun _ _ _ h => h) (Or.inr ⟨by rfl, rfl⟩) (by assumption) ?_
            simp only [List.getElem_toArray, List.getElem_cons_zero, List.getElem_cons_succ, Act.put, List.setIfInBounds_toArray, List.set_cons_zero, List.set_cons_succ]
            refine wpAnyH_take (i := 19) (v := undef) rfl (by kernel_rfl) (by kernel_rfl) (by kernel_rfl) (fun _ _ _ h => h) (Or.inr ⟨by rfl, rfl⟩) (by assumption) ?_
            simp only [List.getElem_toArray, List.getElem_cons_zero, List.getElem_cons_succ, Act.put, List.setIfInBounds_toArray, List.set_cons_zero, List.set_cons_succ]
            refine wpAnyH_take (i := 20) (v := ?_) rfl (by kernel_rfl) (by kernel_rfl) (by kernel_rfl) (fun _ _ _ h => h) (Or.inl ⟨by rfl, ?_⟩) (by assumption) ?_
            rotate_left 1
            · (intro w hSw; (try dsimp only at hSw); first | (go_simp; done) | (go_simp; with_reducible rfl))
            simp only [List.getElem_toArray, List.getElem_cons_zero, List.getElem_cons_succ, Act.put, List.setIfInBounds_toArray, List.set_cons_zero, List.set_cons_succ]
            refine wpAnyH_take (i := 21) (v := ?_) rfl (by kernel_rfl) (by kernel_rfl) (by kernel_rfl) (fun _ _ _ h => h) (Or.inl ⟨by rfl, ?_⟩) (by assumption) ?_
            rotate_left 1
            · (intro w hSw; (try dsimp only at hSw); first | (go_simp; done) | (go_simp; with_reducible rfl))
            simp only [List.getElem_toArray, List.getElem_cons_zero, List.getElem_cons_succ, Act.put, List.setIfInBounds_toArray, List.set_cons_zero, List.set_cons_succ]
            refine wpAnyH_take (i := 22) (v := ?_) rfl (by kernel_rfl) (by kernel_rfl) (by kernel_rfl) (fun _ _ _ h => h) (Or.inl ⟨by rfl, ?_⟩) (by assumption) ?_
            rotate_left 1
            · (intro w hSw; (try dsimp only at hSw); first | (go_simp; done) | (go_simp; with_reducible rfl))
            simp only [List.getElem_toArray, List.getElem_cons_zero, List.getElem_cons_succ, Act.put, List.setIfInBounds_toArray, List.set_cons_zero, List.set_cons_succ]
            refine wpAnyH_done (by kernel_rfl) ?_ _
            have tE := TW.out.trans (T15.out.trans (tt.trans t6 (fun _ _ hf => hf)) (fun _ _ hf => hf)) (fun _ _ hf => hf)
            clear hHeld2
            go_wp2
            go_ret2
            exact ⟨by rw [HS.out, Hab.out]; rfl, tE⟩

          | true =>
            rw [hs1] at hab hL1
            rw [Bool.true_and] at hab
            generalize ATok.same ⟨vk, vn, vs, va, ve⟩ ⟨k2, n2, s2, a2, e2⟩ = sm at *
            have Hab := Lib.hid hab
            have HL1 := Lib.hid hL1
            have HL2 := Lib.hid hL2
            clear hab hL1 hL2 hs1
            go_enter Tryz.func30, Tryz.ntmps30
            go_wp2_with fail
            rw [← hW]
            refine (HRa.out _ (Turned.refl _ _)).mono ?_
            rintro e w1 ⟨rfl, t1⟩
            obtain ⟨⟨-, q0, q1, q2, q3, q4⟩, -⟩ := HCof.out _ t1
            go_wp2_with fail
            refine (HRb.out _ t1).mono ?_
            rintro e w2 ⟨rfl, t2⟩
            have t12 := t1.trans t2 (fun _ _ hf => hf)
            clear t1 t2 q0 q1 q2 q3 q4
            obtain ⟨⟨⟨p0, p1, p2, p3, p4⟩, q0, q1, q2, q3, q4⟩, -⟩ := HCof.out _ t12
            have hadd := Hadd.out
            go_wp2_with fail
            refine wp_region_held_drew (S := (fun w' => ((w'.cell? ⟨w.heap.size, 0, none⟩ = some (.int .i64 k1) ∧ w'.cell? ⟨w.heap.size, 1, none⟩ = some (.int .i64 n1) ∧ w'.cell? ⟨w.heap.size, 2, none⟩ = some (.string ⟨s1.toArray⟩) ∧ w'.cell? ⟨w.heap.size, 3, none⟩ = some (.int .i64 a1) ∧ w'.cell? ⟨w.heap.size, 4, none⟩ = some (.int .i64 e1)) ∧
                (w'.cell? ⟨w.heap.size + 1, 0, none⟩ = some (.int .i64 k2) ∧ w'.cell? ⟨w.heap.size + 1, 1, none⟩ = some (.int .i64 n2) ∧ w'.cell? ⟨w.heap.size + 1, 2, none⟩ = some (.string ⟨s2.toArray⟩) ∧ w'.cell? ⟨w.heap.size + 1, 3, none⟩ = some (.int .i64 a2) ∧ w'.cell? ⟨w.heap.size + 1, 4, none⟩ = some (.int .i64 e2))) ∧ Turned W w' (fun _ => False))) (by kernel_rfl) (HCof.out _ t12.drew) (fun hHeld => ?_)
            refine wpAnyH_take (i := 0) (v := ?_) rfl (by kernel_rfl) (by kernel_rfl) (by kernel_rfl) (fun _ _ _ h => h) (Or.inl ⟨by rfl, ?_⟩) (by assumption) ?_
            rotate_left 1
            · (intro w hSw; (try dsimp only at hSw); first | (go_simp; done) | (go_simp; with_reducible rfl))
            simp only [List.getElem_toArray, List.getElem_cons_zero, Act.put, List.setIfInBounds_toArray, List.set_cons_zero, List.set_cons_succ]
            refine wpAnyH_take (i := 2) (v := ?_) rfl (by kernel_rfl) (by kernel_rfl) (by kernel_rfl) (fun _ _ _ h => h) (Or.inl ⟨by rfl, ?_⟩) (by assumption) ?_
            rotate_left 1
            · (intro w hSw; (try dsimp only at hSw); first | (go_simp; done) | (go_simp; with_reducible rfl))
            simp only [List.getElem_toArray, List.getElem_cons_zero, List.getElem_cons_succ, Act.put, List.setIfInBounds_toArray, List.set_cons_zero, List.set_cons_succ]
            refine wpAnyH_ready (rs := [1]) (by kernel_rfl) (by simp) ?_
            refine AllReadyH.cons rfl (fun K hK => ?_) AllReadyH.nil
            go_simp
            go_at_call 35
            refine (HXa.out _ t12.drew).mono ?_
            rintro e3 w3 ⟨rfl, t3⟩
            have t13 := t12.drew.trans t3 (fun _ _ hf => hf)
            go_wp2_with fail
            refine hK.out _ _ (HCof.out _ t13) (fun hHeld2 => ?_)
            clear hK K hHeld
            refine wpAnyH_ready (rs := [3]) (by kernel_rfl) (by simp) ?_
            refine AllReadyH.cons rfl (fun K hK => ?_) AllReadyH.nil
            go_simp
            go_at_call 35
            refine (HXb.out _ t13).mono ?_
            rintro e4 w4 ⟨rfl, t4⟩
            have t14 := t13.trans t4 (fun _ _ hf => hf)
            go_wp2_with fail
            refine hK.out _ _ (HCof.out _ t14) (fun hHeld3 => ?_)
            clear hK K hHeld2
            refine wpAnyH_take (i := 4) (v := ?_) rfl (by kernel_rfl) (by kernel_rfl) (by kernel_rfl) (fun _ _ _ h => h) (Or.inl ⟨by rfl, ?_⟩) (by assumption) ?_
            rotate_left 1
            · (intro w hSw; (try dsimp only at hSw); first | (go_simp; done) | (go_simp; with_reducible rfl))
            simp only [List.getElem_toArray, List.getElem_cons_zero, List.getElem_cons_succ, Act.put, List.setIfInBounds_toArray, List.set_cons_zero, List.set_cons_succ]
            refine wpAnyH_ready (rs := [5]) (by kernel_rfl) (by simp) ?_
            refine AllReadyH.cons rfl (fun K hK => ?_) AllReadyH.nil
            go_simp
            go_at_call 13
            refine (HT.out _).mono ?_
            rintro e5 w5 ⟨vaa, vc, rfl, ho5, t5⟩
            have t15 := t14.trans t5 (fun _ _ hf => hf)
            go_wp2_with fail
            refine hK.out _ _ (HCof.out _ t15) (fun hHeld4 => ?_)
            clear hK K hHeld3
            refine wpAnyH_take (i := 6) (v := ?_) rfl (by kernel_rfl) (by kernel_rfl) (by kernel_rfl) (fun _ _ _ h => h) (Or.inl ⟨by rfl, ?_⟩) (by assumption) ?_
            rotate_left 1
            · (intro w hSw; (try dsimp only at hSw); first | (go_simp; done) | (go_simp; with_reducible rfl))
            simp only [List.getElem_toArray, List.getElem_cons_zero, List.getElem_cons_succ, Act.put, List.setIfInBounds_toArray, List.set_cons_zero, List.set_cons_succ]
            refine wpAnyH_take (i := 7) (v := ?_) rfl (by kernel_rfl) (by kernel_rfl) (by kernel_rfl) (fun _ _ _ h => h) (Or.inl ⟨by rfl, ?_⟩) (by assumption) ?_
            rotate_left 1
            · (intro w hSw; (try dsimp only at hSw); first | (go_simp; done) | (go_simp; with_reducible rfl))
            simp only [List.getElem_toArray, List.getElem_cons_zero, List.getElem_cons_succ, Act.put, List.setIfInBounds_toArray, List.set_cons_zero, List.set_cons_succ]
            refine wpAnyH_take (i := 8) (v := ?_) rfl (by kernel_rfl) (by kernel_rfl) (by kernel_rfl) (fun _ _ _ h => h) (Or.inl ⟨by rfl, ?_⟩) (by assumption) ?_
            rotate_left 1
            · (intro w hSw; (try dsimp only at hSw); first | (go_simp; done) | (go_simp; with_reducible rfl))
            simp only [List.getElem_toArray, List.getElem_cons_zero, List.getElem_cons_succ, Act.put, List.setIfInBounds_toArray, List.set_cons_zero, List.set_cons_succ]
            refine wpAnyH_take (i := 9) (v := ?_) rfl (by kernel_rfl) (by kernel_rfl) (by kernel_rfl) (fun _ _ _ h => h) (Or.inl ⟨by rfl, ?_⟩) (by assumption) ?_
            rotate_left 1
            · (intro w hSw; (try dsimp only at hSw); first | (go_simp; done) | (go_simp; with_reducible rfl))
            simp only [List.getElem_toArray, List.getElem_cons_zero, List.getElem_cons_succ, Act.put, List.setIfInBounds_toArray, List.set_cons_zero, List.set_cons_succ]
            refine wpAnyH_take (i := 10) (v := ?_) rfl (by kernel_rfl) (by kernel_rfl) (by kernel_rfl) (fun _ _ _ h => h) (Or.inl ⟨by rfl, ?_⟩) (by assumption) ?_
            rotate_left 1
            · (intro w hSw; (try dsimp only at hSw); first | (go_simp; done) | (go_simp; with_reducible rfl))
            simp only [List.getElem_toArray, List.getElem_cons_zero, List.getElem_cons_succ, Act.put, List.setIfInBounds_toArray, List.set_cons_zero, List.set_cons_succ]
            refine wpAnyH_take (i := 11) (v := ?_) rfl (by kernel_rfl) (by kernel_rfl) (by kernel_rfl) (fun _ _ _ h => h) (Or.inl ⟨by rfl, ?_⟩) (by assumption) ?_
            rotate_left 1
            · (intro w hSw; (try dsimp only at hSw); first | (go_simp; done) | (go_simp; with_reducible rfl))
            simp only [List.getElem_toArray, List.getElem_cons_zero, List.getElem_cons_succ, Act.put, List.setIfInBounds_toArray, List.set_cons_zero, List.set_cons_succ]
            refine wpAnyH_take (i := 12) (v := ?_) rfl (by kernel_rfl) (by kernel_rfl) (by kernel_rfl) (fun _ _ _ h => h) (Or.inl ⟨by rfl, ?_⟩) (by assumption) ?_
            rotate_left 1
            · (intro w hSw; (try dsimp only at hSw); first | (go_simp; done) | (go_simp; with_reducible rfl))
            simp only [List.getElem_toArray, List.getElem_cons_zero, List.getElem_cons_succ, Act.put, List.setIfInBounds_toArray, List.set_cons_zero, List.set_cons_succ]
            refine wpAnyH_done (by kernel_rfl) ?_ _
            have T15 := Lib.hid t15
            clear hHeld4 hadd t12 t3 t13 t4 t14 t5 t15 p0 p1 p2 p3 p4 q0 q1 q2 q3 q4
            have r5 := rowOf_owns (l := [ofTok ⟨uk, un, us, ua, ue⟩, ofTok ⟨vk, vn, vs, va, ve⟩]) (v := .slice vaa 2 vc) (by simpa [ofTok_cells, List.flatMap_cons] using ho5)
            obtain ⟨g, off, rfl, lg, xc⟩ := rowA_at r5 0 (by simp)
            obtain ⟨g', off', hva, -, xd⟩ := rowA_at r5 1 (by simp)
            simp only [Option.some.injEq, Addr.mk.injEq, and_true] at hva
            obtain ⟨rfl, rfl⟩ := hva
            have Xc := Lib.hid xc
            have Xd := Lib.hid xd
            clear r5 ho5 xc xd
            have Sof : ∀ w' : World, Turned w5 w' (fun _ => False) → ((((w'.cell? ⟨w.heap.size, 0, none⟩ = some (.int .i64 k1) ∧ w'.cell? ⟨w.heap.size, 1, none⟩ = some (.int .i64 n1) ∧ w'.cell? ⟨w.heap.size, 2, none⟩ = some (.string ⟨s1.toArray⟩) ∧ w'.cell? ⟨w.heap.size, 3, none⟩ = some (.int .i64 a1) ∧ w'.cell? ⟨w.heap.size, 4, none⟩ = some (.int .i64 e1)) ∧
                (w'.cell? ⟨w.heap.size + 1, 0, none⟩ = some (.int .i64 k2) ∧ w'.cell? ⟨w.heap.size + 1, 1, none⟩ = some (.int .i64 n2) ∧ w'.cell? ⟨w.heap.size + 1, 2, none⟩ = some (.string ⟨s2.toArray⟩) ∧ w'.cell? ⟨w.heap.size + 1, 3, none⟩ = some (.int .i64 a2) ∧ w'.cell? ⟨w.heap.size + 1, 4, none⟩ = some (.int .i64 e2))) ∧ (w'.cell? ⟨g, off, none⟩ = some (.int .i64 uk) ∧ w'.cell? ⟨g, off + 1, none⟩ = some (.int .i64 un) ∧ w'.cell? ⟨g, off + 2, none⟩ = some (.string ⟨us.toArray⟩) ∧ w'.cell? ⟨g, off + 3, none⟩ = some (.int .i64 ua) ∧ w'.cell? ⟨g, off + 4, none⟩ = some (.int .i64 ue) ∧ w'.cell? ⟨g, off + 5, none⟩ = some (.int .i64 vk) ∧ w'.cell? ⟨g, off + 6, none⟩ = some (.int .i64 vn) ∧ w'.cell? ⟨g, off + 7, none⟩ = some (.string ⟨vs.toArray⟩) ∧ w'.cell? ⟨g, off + 8, none⟩ = some (.int .i64 va) ∧ w'.cell? ⟨g, off + 9, none⟩ = some (.int .i64 ve))) ∧ Turned w5 w' (fun _ => False)) := by
              intro w' t
              have pc := fun (i : Nat) (u : Value) (hu : (ATok.cells (ofTok ⟨uk, un, us, ua, ue⟩))[i]? = some u) => (t.cell (p := ⟨g, off + 0 * 5 + i, none⟩) lg (fun hf => hf)).trans (Xc.out i u hu)
              have pd := fun (i : Nat) (u : Value) (hu : (ATok.cells (ofTok ⟨vk, vn, vs, va, ve⟩))[i]? = some u) => (t.cell (p := ⟨g, off + 1 * 5 + i, none⟩) lg (fun hf => hf)).trans (Xd.out i u hu)
              simp only [Nat.zero_mul, Nat.add_zero, Nat.one_mul] at pc pd
              exact ⟨⟨(HCof.out _ (T15.out.trans t (fun _ _ hf => hf))).1, pc 0 _ rfl, pc 1 _ rfl, pc 2 _ rfl, pc 3 _ rfl, pc 4 _ rfl, pd 0 _ rfl, pd 1 _ rfl, pd 2 _ rfl, pd 3 _ rfl, pd 4 _ rfl⟩, t⟩
            have HSof := Lib.hid Sof
            obtain ⟨⟨⟨⟨p0, p1, p2, p3, p4⟩, q0, q1, q2, q3, q4⟩, z0, z1, z2, z3, z4, z5, z6, z7, z8, z9⟩, -⟩ := Sof w5 (Turned.refl _ _)
            have tt : Turned w5 w5.drew (fun _ => False) := (Turned.refl w5 _).drew
            clear Sof
            go_wp2_with fail
            refine wp_region_held_drew (S := (fun w' => (((w'.cell? ⟨w.heap.size, 0, none⟩ = some (.int .i64 k1) ∧ w'.cell? ⟨w.heap.size, 1, none⟩ = some (.int .i64 n1) ∧ w'.cell? ⟨w.heap.size, 2, none⟩ = some (.string ⟨s1.toArray⟩) ∧ w'.cell? ⟨w.heap.size, 3, none⟩ = some (.int .i64 a1) ∧ w'.cell? ⟨w.heap.size, 4, none⟩ = some (.int .i64 e1)) ∧
                (w'.cell? ⟨w.heap.size + 1, 0, none⟩ = some (.int .i64 k2) ∧ w'.cell? ⟨w.heap.size + 1, 1, none⟩ = some (.int .i64 n2) ∧ w'.cell? ⟨w.heap.size + 1, 2, none⟩ = some (.string ⟨s2.toArray⟩) ∧ w'.cell? ⟨w.heap.size + 1, 3, none⟩ = some (.int .i64 a2) ∧ w'.cell? ⟨w.heap.size + 1, 4, none⟩ = some (.int .i64 e2))) ∧ (w'.cell? ⟨g, off, none⟩ = some (.int .i64 uk) ∧ w'.cell? ⟨g, off + 1, none⟩ = some (.int .i64 un) ∧ w'.cell? ⟨g, off + 2, none⟩ = some (.string ⟨us.toArray⟩) ∧ w'.cell? ⟨g, off + 3, none⟩ = some (.int .i64 ua) ∧ w'.cell? ⟨g, off + 4, none⟩ = some (.int .i64 ue) ∧ w'.cell? ⟨g, off + 5, none⟩ = some (.int .i64 vk) ∧ w'.cell? ⟨g, off + 6, none⟩ = some (.int .i64 vn) ∧ w'.cell? ⟨g, off + 7, none⟩ = some (.string ⟨vs.toArray⟩) ∧ w'.cell? ⟨g, off + 8, none⟩ = some (.int .i64 va) ∧ w'.cell? ⟨g, off + 9, none⟩ = some (.int .i64 ve))) ∧ Turned w5 w' (fun _ => False))) (by kernel_rfl) (HSof.out _ tt) (fun hHeld => ?_)
            refine wpAnyH_take (i := 0) (v := ?_) rfl (by kernel_rfl) (by kernel_rfl) (by kernel_rfl) (fun _ _ _ h => h) (Or.inl ⟨by rfl, ?_⟩) (by assumption) ?_
            rotate_left 1
            · (intro w hSw; (try dsimp only at hSw); first | (go_simp; done) | (go_simp; with_reducible rfl))
            simp only [List.getElem_toArray, List.getElem_cons_zero, Act.put, List.setIfInBounds_toArray, List.set_cons_zero, List.set_cons_succ]
            refine wpAnyH_take (i := 1) (v := ?_) rfl (by kernel_rfl) (by kernel_rfl) (by kernel_rfl) (fun _ _ _ h => h) (Or.inl ⟨by rfl, ?_⟩) (by assumption) ?_
            rotate_left 1
            · (intro w hSw; (try dsimp only at hSw); first | (go_simp; done) | (go_simp; with_reducible rfl))
            simp only [List.getElem_toArray, List.getElem_cons_zero, List.getElem_cons_succ, Act.put, List.setIfInBounds_toArray, List.set_cons_zero, List.set_cons_succ]
            refine wpAnyH_take (i := 2) (v := ?_) rfl (by kernel_rfl) (by kernel_rfl) (by kernel_rfl) (fun _ _ _ h => h) (Or.inl ⟨by rfl, ?_⟩) (by assumption) ?_
            rotate_left 1
            · (intro w hSw; (try dsimp only at hSw); first | (go_simp; done) | (go_simp; with_reducible rfl))
            simp only [List.getElem_toArray, List.getElem_cons_zero, List.getElem_cons_succ, Act.put, List.setIfInBounds_toArray, List.set_cons_zero, List.set_cons_succ]
            refine wpAnyH_take (i := 3) (v := ?_) rfl (by kernel_rfl) (by kernel_rfl) (by kernel_rfl) (fun _ _ _ h => h) (Or.inl ⟨by rfl, ?_⟩) (by assumption) ?_
            rotate_left 1
            · (intro w hSw; (try dsimp only at hSw); first | (go_simp; done) | (go_simp; with_reducible rfl))
            simp only [List.getElem_toArray, List.getElem_cons_zero, List.getElem_cons_succ, Act.put, List.setIfInBounds_toArray, List.set_cons_zero, List.set_cons_succ]
            refine wpAnyH_take (i := 4) (v := ?_) rfl (by kernel_rfl) (by kernel_rfl) (by kernel_rfl) (fun _ _ _ h => h) (Or.inl ⟨by rfl, ?_⟩) (by assumption) ?_
            rotate_left 1
            · (intro w hSw; (try dsimp only at hSw); first | (go_simp; done) | (go_simp; with_reducible rfl))
            simp only [List.getElem_toArray, List.getElem_cons_zero, List.getElem_cons_succ, Act.put, List.setIfInBounds_toArray, List.set_cons_zero, List.set_cons_succ]
            refine wpAnyH_take (i := 5) (v := ?_) rfl (by kernel_rfl) (by kernel_rfl) (by kernel_rfl) (fun _ _ _ h => h) (Or.inl ⟨by rfl, ?_⟩) (by assumption) ?_
            rotate_left 1
            · (intro w hSw; (try dsimp only at hSw); first | (go_simp; done) | (go_simp; with_reducible rfl))
            simp only [List.getElem_toArray, List.getElem_cons_zero, List.getElem_cons_succ, Act.put, List.setIfInBounds_toArray, List.set_cons_zero, List.set_cons_succ]
            refine wpAnyH_take (i := 6) (v := ?_) rfl (by kernel_rfl) (by kernel_rfl) (by kernel_rfl) (fun _ _ _ h => h) (Or.inl ⟨by rfl, ?_⟩) (by assumption) ?_
            rotate_left 1
            · (intro w hSw; (try dsimp only at hSw); first | (go_simp; done) | (go_simp; with_reducible rfl))
            simp only [List.getElem_toArray, List.getElem_cons_zero, List.getElem_cons_succ, Act.put, List.setIfInBounds_toArray, List.set_cons_zero, List.set_cons_succ]
            refine wpAnyH_take (i := 7) (v := ?_) rfl (by kernel_rfl) (by kernel_rfl) (by kernel_rfl) (fun _ _ _ h => h) (Or.inl ⟨by rfl, ?_⟩) (by assumption) ?_
            rotate_left 1
            · (intro w hSw; (try dsimp only at hSw); first | (go_simp; done) | (go_simp; with_reducible rfl))
            simp only [List.getElem_toArray, List.getElem_cons_zero, List.getElem_cons_succ, Act.put, List.setIfInBounds_toArray, List.set_cons_zero, List.set_cons_succ]
            refine wpAnyH_take (i := 8) (v := ?_) rfl (by kernel_rfl) (by kernel_rfl) (by kernel_rfl) (fun _ _ _ h => h) (Or.inl ⟨by rfl, ?_⟩) (by assumption) ?_
            rotate_left 1
            · (intro w hSw; (try dsimp only at hSw); first | (go_simp; done) | (go_simp; with_reducible rfl))
            simp only [List.getElem_toArray, List.getElem_cons_zero, List.getElem_cons_succ, Act.put, List.setIfInBounds_toArray, List.set_cons_zero, List.set_cons_succ]
            refine wpAnyH_take (i := 9) (v := ?_) rfl (by kernel_rfl) (by kernel_rfl) (by kernel_rfl) (fun _ _ _ h => h) (Or.inl ⟨by rfl, ?_⟩) (by assumption) ?_
            rotate_left 1
            · (intro w hSw; (try dsimp only at hSw); first | (go_simp; done) | (go_simp; with_reducible rfl))
            simp only [List.getElem_toArray, List.getElem_cons_zero, List.getElem_cons_succ, Act.put, List.setIfInBounds_toArray, List.set_cons_zero, List.set_cons_succ]
            refine wpAnyH_take (i := 10) (v := ?_) rfl (by kernel_rfl) (by kernel_rfl) (by kernel_rfl) (fun _ _ _ h => h) (Or.inl ⟨by rfl, ?_⟩) (by assumption) ?_
            rotate_left 1
            · (intro w hSw; (try dsimp only at hSw); first | (go_simp; done) | (go_simp; with_reducible rfl))
            simp only [List.getElem_toArray, List.getElem_cons_zero, List.getElem_cons_succ, Act.put, List.setIfInBounds_toArray, List.set_cons_zero, List.set_cons_succ]
            refine wpAnyH_take (i := 11) (v := ?_) rfl (by kernel_rfl) (by kernel_rfl) (by kernel_rfl) (fun _ _ _ h => h) (Or.inl ⟨by rfl, ?_⟩) (by assumption) ?_
            rotate_left 1
            · (intro w hSw; (try dsimp only at hSw); first | (go_simp; done) | (go_simp; with_reducible rfl))
            simp only [List.getElem_toArray, List.getElem_cons_zero, List.getElem_cons_succ, Act.put, List.setIfInBounds_toArray, List.set_cons_zero, List.set_cons_succ]
            refine wpAnyH_ready (rs := [12]) (by kernel_rfl) (by simp) ?_
            refine AllReadyH.cons rfl (fun K hK => ?_) AllReadyH.nil
            go_simp
            go_at_call 37
            refine (HL1.out _).mono ?_
            rintro e6 w6 ⟨rfl, t6⟩
            go_wp2_with fail
            refine hK.out _ _ (HSof.out _ (tt.trans t6 (fun _ _ hf => hf))) (fun hHeld2 => ?_)
            clear hK K hHeld
            refine wpAnyH_take (i := 13) (v := ?_) rfl (by kernel_rfl) (by kernel_rfl) (by kernel_rfl) (fun _ _ _ h => h) (Or.inl ⟨by rfl, ?_⟩) (by assumption) ?_
            rotate_left 1
            · (intro w hSw; (try dsimp only at hSw); first | (go_simp; done) | (go_simp; with_reducible rfl))
            simp only [List.getElem_toArray, List.getElem_cons_zero, List.getElem_cons_succ, Act.put, List.setIfInBounds_toArray, List.set_cons_zero, List.set_cons_succ]
            refine wpAnyH_take (i := 14) (v := ?_) rfl (by kernel_rfl) (by kernel_rfl) (by kernel_rfl) (fun _ _ _ h => h) (Or.inl ⟨by rfl, ?_⟩) (by assumption) ?_
            rotate_left 1
            · (intro w hSw; (try dsimp only at hSw); first | (go_simp; done) | (go_simp; with_reducible rfl))
            simp only [List.getElem_toArray, List.getElem_cons_zero, List.getElem_cons_succ, Act.put, List.setIfInBounds_toArray, List.set_cons_zero, List.set_cons_succ]
            refine wpAnyH_take (i := 15) (v := ?_) rfl (by kernel_rfl) (by kernel_rfl) (by kernel_rfl) (fun _ _ _ h => h) (Or.inl ⟨by rfl, ?_⟩) (by assumption) ?_
            rotate_left 1
            · (intro w hSw; (try dsimp only at hSw); first | (go_simp; done) | (go_simp; with_reducible rfl))
            simp only [List.getElem_toArray, List.getElem_cons_zero, List.getElem_cons_succ, Act.put, List.setIfInBounds_toArray, List.set_cons_zero, List.set_cons_succ]
            refine wpAnyH_take (i := 16) (v := ?_) rfl (by kernel_rfl) (by kernel_rfl) (by kernel_rfl) (fun _ _ _ h => h) (Or.inl ⟨by rfl, ?_⟩) (by assumption) ?_
            rotate_left 1
            · (intro w hSw; (try dsimp only at hSw); first | (go_simp; done) | (go_simp; with_reducible rfl))
            simp only [List.getElem_toArray, List.getElem_cons_zero, List.getElem_cons_succ, Act.put, List.setIfInBounds_toArray, List.set_cons_zero, List.set_cons_succ]
            refine wpAnyH_take (i := 17) (v := ?_) rfl (by kernel_rfl) (by kernel_rfl) (by kernel_rfl) (fun _ _ _ h => h) (Or.inl ⟨by rfl, ?_⟩) (by assumption) ?_
            rotate_left 1
            · (intro w hSw; (try dsimp only at hSw); first | (go_simp; done) | (go_simp; with_reducible rfl))
            simp only [List.getElem_toArray, List.getElem_cons_zero, List.getElem_cons_succ, Act.put, List.setIfInBounds_toArray, List.set_cons_zero, List.set_cons_succ]
            refine wpAnyH_take (i := 18) (v := ?_) rfl (by kernel_rfl) (by kernel_rfl) (by kernel_rfl) (fun _ _ _ h => h) (Or.inl ⟨by rfl, ?_⟩) (by assumption) ?_
            rotate_left 1
            · (intro w hSw; (try dsimp only at hSw); first | (go_simp; done) | (go_simp; with_reducible rfl))
            simp only [List.getElem_toArray, List.getElem_cons_zero, List.getElem_cons_succ, Act.put, List.setIfInBounds_toArray, List.set_cons_zero, List.set_cons_succ]
            refine wpAnyH_ready (rs := [19]) (by kernel_rfl) (by simp) ?_
            refine AllReadyH.cons rfl (fun K hK => ?_) AllReadyH.nil
            go_simp
            go_at_call 37
            refine (HL2.out _).mono ?_
            rintro e7 w7 ⟨rfl, t7⟩
            go_wp2_with fail
            refine hK.out _ _ (HSof.out _ ((tt.trans t6 (fun _ _ hf => hf)).trans t7 (fun _ _ hf => hf))) (fun hHeld3 => ?_)
            clear hK K hHeld2
            refine wpAnyH_take (i := 20) (v := ?_) rfl (by kernel_rfl) (by kernel_rfl) (by kernel_rfl) (fun _ _ _ h => h) (Or.inl ⟨by rfl, ?_⟩) (by assumption) ?_
            rotate_left 1
            · (intro w hSw; (try dsimp only at hSw); first | (go_simp; done) | (go_simp; with_reducible rfl))
            simp only [List.getElem_toArray, List.getElem_cons_zero, List.getElem_cons_succ, Act.put, List.setIfInBounds_toArray, List.set_cons_zero, List.set_cons_succ]
            refine wpAnyH_take (i := 21) (v := ?_) rfl (by kernel_rfl) (by kernel_rfl) (by kernel_rfl) (fun _ _ _ h => h) (Or.inl ⟨by rfl, ?_⟩) (by assumption) ?_
            rotate_left 1
            · (intro w hSw; (try dsimp only at hSw); first | (go_simp; done) | (go_simp; with_reducible rfl))
            simp only [List.getElem_toArray, List.getElem_cons_zero, List.getElem_cons_succ, Act.put, List.setIfInBounds_toArray, List.set_cons_zero, List.set_cons_succ]
            refine wpAnyH_take (i := 22) (v := ?_) rfl (by kernel_rfl) (by kernel_rfl) (by kernel_rfl) (fun _ _ _ h => h) (Or.inl ⟨by rfl, ?_⟩) (by assumption) ?_
            rotate_left 1
            · (intro w hSw; (try dsimp only at hSw); first | (go_simp; done) | (go_simp; with_reducible rfl))
            simp only [List.getElem_toArray, List.getElem_cons_zero, List.getElem_cons_succ, Act.put, List.setIfInBounds_toArray, List.set_cons_zero, List.set_cons_succ]
            refine wpAnyH_done (by kernel_rfl) ?_ _
            have tE := TW.out.trans (T15.out.trans ((tt.trans t6 (fun _ _ hf => hf)).trans t7 (fun _ _ hf => hf)) (fun _ _ hf => hf)) (fun _ _ hf => hf)
            clear hHeld3
            go_wp2
            go_ret2
            exact ⟨by rw [HS.out, Hab.out]; rfl, tE⟩

        · have hno := Hno2.out hbad h2
          have Hno := Lib.hid hno
          have h2i : (((Lx.toks x).toks.length : Int) == 2) = false := by
            rw [Bool.eq_false_iff]; intro h; apply h2; have : ((Lx.toks x).toks.length : Int) = 2 := by simpa using h
            omega
          have HT := Lib.hid hT
          clear hno hT hbad h2
          generalize (Lx.toks x).toks = o at *
          go_enter Tryz.func30, Tryz.ntmps30
          go_wp2_with fail
          rw [← hW]
          refine (HRa.out _ (Turned.refl _ _)).mono ?_
          rintro e w1 ⟨rfl, t1⟩
          obtain ⟨⟨-, q0, q1, q2, q3, q4⟩, -⟩ := HCof.out _ t1
          go_wp2_with fail
          refine (HRb.out _ t1).mono ?_
          rintro e w2 ⟨rfl, t2⟩
          have t12 := t1.trans t2 (fun _ _ hf => hf)
          clear t1 t2 q0 q1 q2 q3 q4
          obtain ⟨⟨⟨p0, p1, p2, p3, p4⟩, q0, q1, q2, q3, q4⟩, -⟩ := HCof.out _ t12
          have hadd := Hadd.out
          go_wp2_with fail
          refine wp_region_held_drew (S := (fun w' => ((w'.cell? ⟨w.heap.size, 0, none⟩ = some (.int .i64 k1) ∧ w'.cell? ⟨w.heap.size, 1, none⟩ = some (.int .i64 n1) ∧ w'.cell? ⟨w.heap.size, 2, none⟩ = some (.string ⟨s1.toArray⟩) ∧ w'.cell? ⟨w.heap.size, 3, none⟩ = some (.int .i64 a1) ∧ w'.cell? ⟨w.heap.size, 4, none⟩ = some (.int .i64 e1)) ∧
              (w'.cell? ⟨w.heap.size + 1, 0, none⟩ = some (.int .i64 k2) ∧ w'.cell? ⟨w.heap.size + 1, 1, none⟩ = some (.int .i64 n2) ∧ w'.cell? ⟨w.heap.size + 1, 2, none⟩ = some (.string ⟨s2.toArray⟩) ∧ w'.cell? ⟨w.heap.size + 1, 3, none⟩ = some (.int .i64 a2) ∧ w'.cell? ⟨w.heap.size + 1, 4, none⟩ = some (.int .i64 e2))) ∧ Turned W w' (fun _ => False))) (by kernel_rfl) (HCof.out _ t12.drew) (fun hHeld => ?_)
          refine wpAnyH_take (i := 0) (v := ?_) rfl (by kernel_rfl) (by kernel_rfl) (by kernel_rfl) (fun _ _ _ h => h) (Or.inl ⟨by rfl, ?_⟩) (by assumption) ?_
          rotate_left 1
          · (intro w hSw; (try dsimp only at hSw); first | (go_simp; done) | (go_simp; with_reducible rfl))
          simp only [List.getElem_toArray, List.getElem_cons_zero, Act.put, List.setIfInBounds_toArray, List.set_cons_zero, List.set_cons_succ]
          refine wpAnyH_take (i := 2) (v := ?_) rfl (by kernel_rfl) (by kernel_rfl) (by kernel_rfl) (fun _ _ _ h => h) (Or.inl ⟨by rfl, ?_⟩) (by assumption) ?_
          rotate_left 1
          · (intro w hSw; (try dsimp only at hSw); first | (go_simp; done) | (go_simp; with_reducible rfl))
          simp only [List.getElem_toArray, List.getElem_cons_zero, List.getElem_cons_succ, Act.put, List.setIfInBounds_toArray, List.set_cons_zero, List.set_cons_succ]
          refine wpAnyH_ready (rs := [1]) (by kernel_rfl) (by simp) ?_
          refine AllReadyH.cons rfl (fun K hK => ?_) AllReadyH.nil
          go_simp
          go_at_call 35
          refine (HXa.out _ t12.drew).mono ?_
          rintro e3 w3 ⟨rfl, t3⟩
          have t13 := t12.drew.trans t3 (fun _ _ hf => hf)
          go_wp2_with fail
          refine hK.out _ _ (HCof.out _ t13) (fun hHeld2 => ?_)
          clear hK K hHeld
          refine wpAnyH_ready (rs := [3]) (by kernel_rfl) (by simp) ?_
          refine AllReadyH.cons rfl (fun K hK => ?_) AllReadyH.nil
          go_simp
          go_at_call 35
          refine (HXb.out _ t13).mono ?_
          rintro e4 w4 ⟨rfl, t4⟩
          have t14 := t13.trans t4 (fun _ _ hf => hf)
          go_wp2_with fail
          refine hK.out _ _ (HCof.out _ t14) (fun hHeld3 => ?_)
          clear hK K hHeld2
          refine wpAnyH_take (i := 4) (v := ?_) rfl (by kernel_rfl) (by kernel_rfl) (by kernel_rfl) (fun _ _ _ h => h) (Or.inl ⟨by rfl, ?_⟩) (by assumption) ?_
          rotate_left 1
          · (intro w hSw; (try dsimp only at hSw); first | (go_simp; done) | (go_simp; with_reducible rfl))
          simp only [List.getElem_toArray, List.getElem_cons_zero, List.getElem_cons_succ, Act.put, List.setIfInBounds_toArray, List.set_cons_zero, List.set_cons_succ]
          refine wpAnyH_ready (rs := [5]) (by kernel_rfl) (by simp) ?_
          refine AllReadyH.cons rfl (fun K hK => ?_) AllReadyH.nil
          go_simp
          go_at_call 13
          refine (HT.out _).mono ?_
          rintro e5 w5 ⟨vaa, vc, rfl, -, t5⟩
          have t15 := t14.trans t5 (fun _ _ hf => hf)
          go_wp2_with fail
          refine hK.out _ _ (HCof.out _ t15) (fun hHeld4 => ?_)
          clear hK K hHeld3
          refine wpAnyH_take (i := 6) (v := ?_) rfl (by kernel_rfl) (by kernel_rfl) (by kernel_rfl) (fun _ _ _ h => h) (Or.inl ⟨by rfl, ?_⟩) (by assumption) ?_
          rotate_left 1
          · (intro w hSw; (try dsimp only at hSw); first | (go_simp; done) | (go_simp; with_reducible rfl))
          simp only [List.getElem_toArray, List.getElem_cons_zero, List.getElem_cons_succ, Act.put, List.setIfInBounds_toArray, List.set_cons_zero, List.set_cons_succ]
          refine wpAnyH_take (i := 7) (v := ?_) rfl (by kernel_rfl) (by kernel_rfl) (by kernel_rfl) (fun _ _ _ h => h) (Or.inl ⟨by rfl, ?_⟩) (by assumption) ?_
          rotate_left 1
          · (intro w hSw; (try dsimp only at hSw); first | (go_simp; done) | (go_simp; with_reducible rfl))
          simp only [List.getElem_toArray, List.getElem_cons_zero, List.getElem_cons_succ, Act.put, List.setIfInBounds_toArray, List.set_cons_zero, List.set_cons_succ]
          refine wpAnyH_take (i := 8) (v := ?_) rfl (by kernel_rfl) (by kernel_rfl) (by kernel_rfl) (fun _ _ _ h => h) (Or.inl ⟨by rfl, ?_⟩) (by assumption) ?_
          rotate_left 1
          · (intro w hSw; (try dsimp only at hSw); first | (go_simp; done) | (go_simp; with_reducible rfl))
          simp only [List.getElem_toArray, List.getElem_cons_zero, List.getElem_cons_succ, Act.put, List.setIfInBounds_toArray, List.set_cons_zero, List.set_cons_succ]
          refine wpAnyH_take (i := 9) (v := ?_) rfl (by kernel_rfl) (by kernel_rfl) (by kernel_rfl) (fun _ _ _ h => h) (Or.inl ⟨by rfl, ?_⟩) (by assumption) ?_
          rotate_left 1
          · (intro w hSw; (try dsimp only at hSw); first | (go_simp; done) | (go_simp; with_reducible rfl))
          simp only [List.getElem_toArray, List.getElem_cons_zero, List.getElem_cons_succ, Act.put, List.setIfInBounds_toArray, List.set_cons_zero, List.set_cons_succ]
          refine wpAnyH_take (i := 10) (v := ?_) rfl (by kernel_rfl) (by kernel_rfl) (by kernel_rfl) (fun _ _ _ h => h) (Or.inl ⟨by rfl, ?_⟩) (by assumption) ?_
          rotate_left 1
          · (intro w hSw; (try dsimp only at hSw); first | (go_simp; done) | (go_simp; with_reducible rfl))
          simp only [List.getElem_toArray, List.getElem_cons_zero, List.getElem_cons_succ, Act.put, List.setIfInBounds_toArray, List.set_cons_zero, List.set_cons_succ]
          refine wpAnyH_take (i := 11) (v := ?_) rfl (by kernel_rfl) (by kernel_rfl) (by kernel_rfl) (fun _ _ _ h => h) (Or.inl ⟨by rfl, ?_⟩) (by assumption) ?_
          rotate_left 1
          · (intro w hSw; (try dsimp only at hSw); first | (go_simp; done) | (go_simp; with_reducible rfl))
          simp only [List.getElem_toArray, List.getElem_cons_zero, List.getElem_cons_succ, Act.put, List.setIfInBounds_toArray, List.set_cons_zero, List.set_cons_succ]
          refine wpAnyH_take (i := 12) (v := ?_) rfl (by kernel_rfl) (by kernel_rfl) (by kernel_rfl) (fun _ _ _ h => h) (Or.inl ⟨by rfl, ?_⟩) (by assumption) ?_
          rotate_left 1
          · (intro w hSw; (try dsimp only at hSw); first | (go_simp; done) | (go_simp; with_reducible rfl))
          simp only [List.getElem_toArray, List.getElem_cons_zero, List.getElem_cons_succ, Act.put, List.setIfInBounds_toArray, List.set_cons_zero, List.set_cons_succ]
          refine wpAnyH_done (by kernel_rfl) ?_ _
          have T15 := Lib.hid t15
          clear hHeld4 hadd t12 t3 t13 t4 t14 t5 t15 p0 p1 p2 p3 p4 q0 q1 q2 q3 q4
          obtain ⟨⟨⟨p0, p1, p2, p3, p4⟩, q0, q1, q2, q3, q4⟩, -⟩ := HCof.out _ T15.out
          go_wp2_with fail
          go_quiet (fail)
          have tE := TW.out.trans (T15.out.drewN nq) (fun _ _ hf => hf)
          go_wp2
          go_ret2
          exact ⟨by rw [HS.out, Hno.out]; rfl, tE⟩

end Go.Proofs.YtbcmjinifilamaaGreatDoor
namespace Go.Proofs.YtbcmjinifilamaaGreatDoor
open Go.RowKit

/-- The column behind so many bytes, and the line. -/
def colB (l : Lx.Bytes) (k : Nat) : Int := k - Lib.lastIndexByte ⟨(l.take k).toArray⟩ 10
def lineB (l : Lx.Bytes) (k : Nat) : Nat := Lib.countByte (l.take k) 10 + 1

theorem lastIdx_take (l : Lx.Bytes) (c : Int) (k m : Nat) : ∀ j, j ≤ k → j ≤ m → k ≤ l.length → m ≤ l.length → Lib.lastIdx ⟨(l.take k).toArray⟩ c j = Lib.lastIdx ⟨(l.take m).toArray⟩ c j
  | 0, _, _, _, _ => rfl
  | j + 1, h1, h2, h3, h4 => by
    have ih := lastIdx_take l c k m j (by omega) (by omega) h3 h4
    have e : (ByteArray.mk (l.take k).toArray).data[j]! = (ByteArray.mk (l.take m).toArray).data[j]! := by
      simp [getElem!_def, show j < k by omega, show j < m by omega]
    unfold Lib.lastIdx
    rw [ih, e]

theorem size_take (l : Lx.Bytes) (k : Nat) (h : k ≤ l.length) : (⟨(l.take k).toArray⟩ : ByteArray).size = k := by
  show (l.take k).toArray.size = k
  simp; omega

theorem last_take (l : Lx.Bytes) (k : Nat) (h : k < l.length) : Lib.lastIndexByte ⟨(l.take (k + 1)).toArray⟩ 10 = if l[k] = 10 then (k : Int) else Lib.lastIndexByte ⟨(l.take k).toArray⟩ 10 := by
  unfold Lib.lastIndexByte
  rw [size_take l (k + 1) h, size_take l k (by omega)]
  have e : ((ByteArray.mk (l.take (k + 1)).toArray).data[k]!) = l[k] := by
    simp [getElem!_def, List.getElem?_eq_getElem h]
  have e2 : ((l[k].toNat : Nat) : Int) = 10 ↔ l[k] = 10 := by
    constructor
    · intro h
      have h2 : l[k].toNat = 10 := by omega
      exact UInt8.toNat_inj.1 h2
    · intro h; rw [h]; rfl
  rw [Lib.lastIdx, e, lastIdx_take l 10 (k + 1) k k (by omega) (Nat.le_refl _) h (by omega)]
  by_cases h10 : l[k] = 10
  · rw [if_pos (e2.2 h10), if_pos h10]
  · rw [if_neg (fun x => h10 (e2.1 x)), if_neg h10]

theorem colB_succ (l : Lx.Bytes) (k : Nat) (h : k < l.length) : colB l (k + 1) = if l[k] = 10 then 1 else colB l k + 1 := by
  unfold colB
  rw [last_take l k h]
  split <;> omega

theorem lineB_succ (l : Lx.Bytes) (k : Nat) (h : k < l.length) : lineB l (k + 1) = if l[k] = 10 then lineB l k + 1 else lineB l k := by
  unfold lineB Lib.countByte
  rw [List.take_succ_eq_append_getElem h, List.count_append, List.count_singleton]
  by_cases h10 : l[k] = 10
  · rw [if_pos h10, if_pos (by rw [h10]; rfl)]
  · rw [if_neg h10, if_neg (by simpa using h10)]

theorem colB_bounds (l : Lx.Bytes) (k : Nat) (h : k ≤ l.length) : 1 ≤ colB l k ∧ colB l k ≤ k + 1 := by
  have := lastIndexByte_le ⟨(l.take k).toArray⟩ 10
  rw [size_take l k h] at this
  unfold colB
  omega

theorem lineB_bounds (l : Lx.Bytes) (k : Nat) : lineB l k ≤ k + 1 := by
  unfold lineB Lib.countByte
  have := List.count_le_length (a := (10 : UInt8)) (l := l.take k)
  have := List.length_take_le k l
  omega

set_option maxRecDepth 100000 in
set_option maxHeartbeats 1600000 in
theorem rplace_any (w : World) (l : Lx.Bytes) (hl : l.length ≤ 4000000000) (at_ : Int) :
    Calls Tryz.prog 26 #[.string ⟨l.toArray⟩, .int .i64 at_] w fun e w' => e = .returned (placeV l at_) ∧ w = w' := by
  by_cases hin : at_ < 0 ∨ (l.length : Int) < at_
  · have hv : placeV l at_ = .tuple #[.int .i64 0, .int .i64 0, .int .i64 1] := by simp only [placeV, if_pos hin]
    rw [hv]
    clear hv
    rcases hin with hin | hin
    · go_enter Tryz.func26, Tryz.ntmps26
      go_wp2_with fail
      go_ret3
      exact ⟨rfl, rfl⟩
    · have h0 : ¬ at_ < 0 := by omega
      go_enter Tryz.func26, Tryz.ntmps26
      go_wp2_with fail
      go_ret3
      exact ⟨rfl, rfl⟩
  · obtain ⟨n, rfl⟩ : ∃ n : Nat, at_ = n := ⟨at_.toNat, by omega⟩
    have hn : n ≤ l.length := by omega
    have hv : placeV l n = .tuple #[.int .i64 (lineB l n), .int .i64 (colB l n), .int .i64 0] := by
      simp only [placeV, if_neg hin, Int.toNat_natCast, lineB, colB, Int.natCast_add]
      rfl
    have Hv := Lib.hid hv
    have h0 : ¬ (n : Int) < 0 := by omega
    have h1 : ¬ (l.length : Int) < n := by omega
    have hz0 : lineB l 0 = 1 := by simp [lineB, Lib.countByte]
    have hz1 : colB l 0 = 1 := by
      have := colB_bounds l 0 (Nat.zero_le _)
      omega
    have Hz0 := Lib.hid hz0
    have Hz1 := Lib.hid hz1
    clear hv hin hz0 hz1
    go_enter Tryz.func26, Tryz.ntmps26
    go_wp2_with fail
    go_loop [7, 8, 9] (fun a c i => ∃ k : Nat, k ≤ n ∧ i = .int .i64 k ∧ a = .int .i64 (lineB l k : Nat) ∧ c = .int .i64 (colB l k)) (fun _ _ i => n - (intOf i).toNat)
    case atStart => exact ⟨0, Nat.zero_le _, rfl, by rw [Hz0.out]; rfl, by rw [Hz1.out]⟩
    case round =>
      obtain ⟨k, hk, rfl, rfl, rfl⟩ := hrel
      by_cases hlt : k < n
      · have hki : (k : Int) < (n : Int) := by omega
        have hkl : k < l.length := by omega
        have hkli : (k : Int) < (l.length : Int) := by omega
        have hc1 := colB_succ l k hkl
        have hl1 := lineB_succ l k hkl
        have hb := colB_bounds l k (by omega)
        have hb2 := lineB_bounds l k
        have hx : (((⟨l.toArray⟩ : ByteArray)[k]'(by simpa [ByteArray.size] using hkl)).toNat : Int) = (l[k].toNat : Int) := rfl
        generalize colB l k = C at *
        generalize lineB l k = L at *
        by_cases h10 : l[k] = 10
        · rw [if_pos h10] at hc1 hl1
          have hq : ((((⟨l.toArray⟩ : ByteArray)[k]'(by simpa [ByteArray.size] using hkl)).toNat : Int) == 10) = true := by rw [hx, h10]; rfl
          have Hc1 := Lib.hid hc1
          have Hl1 := Lib.hid hl1
          clear hc1 hl1 hx h10
          go_wp2
          go_round
          case rel => exact ⟨k + 1, by omega, by go_num, by rw [Hl1.out]; go_num, by rw [Hc1.out]⟩
          case measure => simp [intOf]; omega
        · rw [if_neg h10] at hc1 hl1
          have hq : ((((⟨l.toArray⟩ : ByteArray)[k]'(by simpa [ByteArray.size] using hkl)).toNat : Int) == 10) = false := by
            rw [hx, Bool.eq_false_iff]
            intro h
            apply h10
            have h2 : (l[k].toNat : Int) = 10 := by simpa using h
            exact UInt8.toNat_inj.1 (show l[k].toNat = (10 : UInt8).toNat by show l[k].toNat = 10; omega)
          have Hc1 := Lib.hid hc1
          have Hl1 := Lib.hid hl1
          clear hc1 hl1 hx h10
          go_wp2
          go_round
          case rel => exact ⟨k + 1, by omega, by go_num, by rw [Hl1.out], by rw [Hc1.out]⟩
          case measure => simp [intOf]; omega
      · obtain rfl : k = n := by omega
        go_wp2
        go_ret3
        rw [Hv.out]
        exact ⟨rfl, rfl⟩
end Go.Proofs.YtbcmjinifilamaaGreatDoor
namespace Go.Proofs.YtbcmjinifilamaaGreatDoor
open Go.RowKit

theorem Tryz.infoByte : (Tryz.prog.info? 5).map (fun i => (i.zero, i.size, i.bytes)) = some (some (.int .u8 0), 1, 1) := by kernel_rfl

theorem strCells_append (a b : Lx.Bytes) : Lib.strCells ⟨(a ++ b).toArray⟩ = Lib.strCells ⟨a.toArray⟩ ++ Lib.strCells ⟨b.toArray⟩ := by simp [Lib.strCells]

/-- The text of bytes of the call's own. -/
theorem text_of_owns {w : World} {B : Nat} {v : Value} {l : Lx.Bytes} (hne : v ≠ .slice none 0 0) (h : w.ownsRow B 5 1 v l.length (Lib.strCells ⟨l.toArray⟩)) : (convert 78 9 v).run Tryz.prog w = .ok (.string ⟨l.toArray⟩) w := by
  rcases h.2 with ⟨h1, h2⟩ | ⟨g, cap, cur, rfl, hb⟩
  · exact absurd h1 hne
  · rw [run_convert_bytes_string w _ _ _ _ _ _ Tryz.underlying78 Tryz.underlying5 Tryz.underlying9]
    have hl := run_loadCells_list (P := Tryz.prog) w ⟨g, 0, none⟩ ((l.map (fun b => (b.toNat : Int))).map (Value.int .u8)) (fun j v hv => by
      refine h.cells (g := g) rfl j v ?_
      rw [← hv]
      simp [Lib.strCells]
      rfl)
    rw [List.length_map, List.length_map] at hl
    rw [run_bytesToString w ⟨g, 0, none⟩ l.length cap _ hl, fold_bytes]
    simp

theorem joinPre_succ (l : List ATok) (k : Nat) (h : k < l.length) : joinPre l (k + 1) = joinPre l k ++ (sepB (if k = 0 then none else l[k - 1]?) l[k] ++ spell l[k]) := by
  rw [joinPre, List.getElem?_eq_getElem h]

set_option maxRecDepth 100000 in
set_option maxHeartbeats 3200000 in
theorem rjoin_any (w : World) (he : Env w) (h7 : 7 ≤ w.heap.size) (v : Value) (l : List ATok) (hv : RowOf w v l) (hw : ∀ t ∈ l, t.wide) (hln : l.length ≤ 9223372036854775806) :
    Calls Tryz.prog 24 #[v] w fun e w' => e = .returned (joinV l) ∧ Turned w w' (fun _ => False) := by
  have hE : ∀ W, Turned w W (fun _ => False) → Env W ∧ 7 ≤ W.heap.size := fun W hW => ⟨he.turned hW h7 (fun k hk => hk.elim), Nat.le_trans h7 hW.size⟩
  have hV : ∀ W, Turned w W (fun _ => False) → RowOf W v l := fun W hW => hv.turned hW (fun _ _ _ _ hf => hf)
  have hR := rights_any v l w he h7 hv hw hln
  have hX := fun (t : ATok) (ht : t ∈ l) W (hW : Turned w W (fun _ => False)) => text_any t W (hE W hW).1 (hE W hW).2 (hw t ht)
  have hA := fun (a b : ATok) (ha : a ∈ l) (hb : b ∈ l) W (hW : Turned w W (fun _ => False)) => rsides_any a b W (hE W hW).1 (hE W hW).2 (hw a ha) (hw b hb)
  have hv2 := hv
  obtain ⟨va, vc, hve, -⟩ := hv2
  cases hall : l.all rightB with
  | false =>
    rw [hall] at hR
    have hj : joinV l = .tuple #[.string ⟨#[]⟩, .int .i64 1] := by unfold joinV; rw [if_pos hall]
    have HR := Lib.hid hR
    have Hj := Lib.hid hj
    clear hE hV hR hX hA hv hw hall hj he h7
    subst hve
    go_enter Tryz.func24, Tryz.ntmps24
    go_wp2_with fail
    refine HR.out.mono ?_
    rintro e w1 ⟨rfl, t1⟩
    go_wp2
    go_ret2
    exact ⟨by rw [Hj.out]; rfl, t1⟩
  | true =>
    rw [hall] at hR
    have HR := Lib.hid hR
    by_cases hbig : 20000 < l.length
    · have hj : joinV l = .tuple #[.string ⟨#[]⟩, .int .i64 2] := by unfold joinV; rw [if_neg (by rw [hall]; simp), if_pos hbig]
      have Hj := Lib.hid hj
      have hb : (20000 : Int) < (l.length : Int) := by omega
      clear hE hV hR hX hA hv hw hall hj he h7
      subst hve
      go_enter Tryz.func24, Tryz.ntmps24
      go_wp2_with fail
      refine HR.out.mono ?_
      rintro e w1 ⟨rfl, t1⟩
      go_wp2
      go_ret2
      exact ⟨by rw [Hj.out]; rfl, t1⟩
    · have hb : ¬ (20000 : Int) < (l.length : Int) := by omega
      have hlen := joinPre_len l hall
      have hall2 : ∀ t ∈ l, rightB t = true := List.all_eq_true.1 hall
      have hA2 : ∀ (a b : ATok) (ha : a ∈ l) (hb : b ∈ l) W (hW : Turned w W (fun _ => False)), Calls Tryz.prog 30 #[a.val, b.val] W fun e w' => e = .returned (.tuple #[.bool (apartB a b), .int .i64 0]) ∧ Turned W w' (fun _ => False) := by
        intro a b ha hb W hW
        have h1 : sidesB a b = .tuple #[.bool (apartB a b), .int .i64 0] := by unfold sidesB; rw [hall2 a ha, hall2 b hb]; rfl
        have := hA a b ha hb W hW
        rw [h1] at this
        exact this
      have hjv : joinV l = if 100000 < (joinPre l l.length).length then .tuple #[.string ⟨#[]⟩, .int .i64 2] else .tuple #[.string ⟨(joinPre l l.length).toArray⟩, .int .i64 0] := by
        unfold joinV joinFrom
        rw [if_neg (by rw [hall]; simp), if_neg hbig]
      obtain ⟨i0, hi0, hz0, hz1, hz2⟩ := info_parts Tryz.infoByte
      have HV := Lib.hid hV
      have HX := Lib.hid hX
      have HA := Lib.hid hA2
      have Hlen := Lib.hid hlen
      have Hjv := Lib.hid hjv
      have hl2 : l.length ≤ 20000 := by omega
      clear hE hV hR hX hA hA2 hv hw hall hall2 hlen hjv he h7 hbig
      subst hve
      go_enter Tryz.func24, Tryz.ntmps24
      go_wp2_with fail
      refine HR.out.mono ?_
      rintro e w1 ⟨rfl, t1⟩
      have T1 := Lib.hid t1
      clear t1
      go_wp2_with fail
      have hst : (w1.alloc (.cells #[] 5)).ownsRow w1.heap.size 5 1 (.slice (some ⟨w1.heap.size, 0, none⟩) 0 0) 0 (Lib.strCells ⟨(joinPre l 0).toArray⟩) :=
        ⟨rfl, .inr ⟨_, 0, #[], rfl, Nat.le_refl _, heap_alloc_new w1 _, Nat.le_refl _, Nat.zero_le _, rfl, rfl⟩⟩
      go_loopw [4, 5] (fun o i wr => ∃ k : Nat, k ≤ l.length ∧ i = .int .i64 k ∧ wr.ownsRow w1.heap.size 5 1 o (joinPre l k).length (Lib.strCells ⟨(joinPre l k).toArray⟩) ∧ (∃ g c, o = .slice (some ⟨g, 0, none⟩) (joinPre l k).length c) ∧ Turned w1 wr (fun _ => False)) (fun _ i _ => l.length - (intOf i).toNat)
      case atStart => exact ⟨0, Nat.zero_le _, rfl, hst, ⟨_, _, rfl⟩, (Turned.refl w1 _).alloc _⟩
      case round =>
        obtain ⟨k, hk, rfl, ho, ⟨go, co, rfl⟩, ht⟩ := hrel
        clear hst
        by_cases hlt : k < l.length
        · have hki : (k : Int) < (l.length : Int) := by omega
          obtain ⟨g, off, rfl, lg, xc⟩ := rowA_at (HV.out _ T1.out) k hlt
          have hstep := joinPre_succ l k hlt
          have hXx := HX.out l[k] (List.getElem_mem hlt)
          have hAx := fun (a : ATok) (ha : a ∈ l) => HA.out a l[k] ha (List.getElem_mem hlt)
          have hP := Hlen.out k
          have hP2 := Hlen.out (k + 1)
          rw [hstep] at hP2
          have h33 : 33 * (k + 1) ≤ 660000 := by omega
          simp only [List.length_append] at hP2
          generalize joinPre l k = P at *
          generalize l[k] = x at *
          generalize hsx : spell x = sx at *
          clear hsx
          have pof : ∀ V, Turned w1 V (fun _ => False) → V.cell? ⟨g, off + k * 5, none⟩ = some (.int .i64 x.kind) ∧ V.cell? ⟨g, off + k * 5 + 1, none⟩ = some (.int .i64 x.n) ∧ V.cell? ⟨g, off + k * 5 + 2, none⟩ = some (.string ⟨x.s.toArray⟩) ∧ V.cell? ⟨g, off + k * 5 + 3, none⟩ = some (.int .i64 x.at_) ∧ V.cell? ⟨g, off + k * 5 + 4, none⟩ = some (.int .i64 x.end_) ∧ g < V.heap.size := by
            intro V t
            have pa := fun (i : Nat) (u : Value) (hu : (ATok.cells x)[i]? = some u) => (t.cell (p := ⟨g, off + k * 5 + i, none⟩) lg (fun hf => hf)).trans (xc i u hu)
            exact ⟨pa 0 _ rfl, pa 1 _ rfl, pa 2 _ rfl, pa 3 _ rfl, pa 4 _ rfl, Nat.lt_of_lt_of_le lg t.size⟩
          have Hp := Lib.hid pof
          obtain ⟨p0, p1, p2, p3, p4, lg'⟩ := pof wr ht
          clear pof xc
          by_cases hk0 : k = 0
          · subst hk0
            rw [if_pos rfl] at hstep
            have hst2 : joinPre l (0 + 1) = P ++ sx := by rw [hstep]; rfl
            have Hstep := Lib.hid hst2
            obtain ⟨k1, n1, s1, a1, e1⟩ := x
            unfold ATok.val at hXx
            simp only [Nat.zero_mul, Nat.add_zero] at hXx p0 p1 p2 p3 p4
            have HXx := Lib.hid hXx
            have Ht := Lib.hid ht
            have HO := Lib.hid ho
            clear hstep hst2 hXx hAx ht ho
            go_wp2_with fail
            refine (HXx.out _ (T1.out.trans (Ht.out) (fun _ _ hf => hf))).mono ?_
            rintro e wN ⟨rfl, tN⟩
            have tq := (Ht.out).trans tN (fun _ _ hf => hf)
            have ho2 := ownsRow_turned (HO.out) tN (fun _ _ hf => hf)
            have hsz2 : w1.heap.size ≤ wN.heap.size := tq.size
            have HB2 := Lib.hid (fun k (hk : ((.slice (some ⟨go, 0, none⟩) P.length co) : Value).ownBlock = some k) => (ownsRow_tag ho2 hk).1)
            have TQ := Lib.hid tq
            clear tq tN
            go_wp2_with (at_builtin; refine Lib.wpList_append_own_string _ (by rfl) _ _ _ _ (by rfl) w1.heap.size 5 i0 Tryz.underlying78 Tryz.underlying9 hi0 hz0 hz1 hz2 (.slice (some ⟨go, 0, none⟩) P.length co) (P.length) _ (by rfl) ho2 ⟨sx.toArray⟩ (by rfl) (by rw [bytes_len]; unfold maxLen; omega) (by rw [bytes_len]; omega) hsz2 ?_; intro o3 w6 hown6 hgrow6 hnil6)
            have hform : ∃ g c, o3 = .slice (some ⟨g, 0, none⟩) (P.length + (⟨sx.toArray⟩ : ByteArray).size) c := by
              rcases hown6.2 with ⟨h1, _⟩ | ⟨g, cap, cur, h1, _⟩
              · exact absurd (hnil6.1 h1).1 (by simp)
              · exact ⟨g, cap, h1⟩
            obtain ⟨g6, c6, rfl⟩ := hform
            go_roundw
            case rel =>
              refine ⟨0 + 1, by omega, by go_num, ?_, ⟨g6, c6, ?_⟩, ?_⟩
              · rw [Hstep.out]
                simpa [strCells_append, bytes_len, Nat.add_assoc, List.length_append] using hown6
              · rw [Hstep.out]
                simp [bytes_len, List.length_append]
              · exact Turned.grown TQ.out hgrow6 (fun j hj e => by have := HB2.out _ e; omega)
            case measure => simp [intOf]; omega
          · obtain ⟨j, hj⟩ : ∃ j, k = j + 1 := ⟨k - 1, by omega⟩
            have hjl : j < l.length := by omega
            have hkm : l[k - 1]? = some l[j] := by rw [hj, Nat.add_sub_cancel, List.getElem?_eq_getElem hjl]
            rw [if_neg hk0, hkm] at hstep hP2
            obtain ⟨g2, off2, hva, -, yc⟩ := rowA_at (HV.out _ T1.out) j hjl
            simp only [Option.some.injEq, Addr.mk.injEq, and_true] at hva
            obtain ⟨rfl, rfl⟩ := hva
            have hAy := hAx l[j] (List.getElem_mem hjl)
            generalize l[j] = y at *
            obtain ⟨k1, n1, s1, a1, e1⟩ := x
            obtain ⟨k2, n2, s2, a2, e2⟩ := y
            have Yc := Lib.hid yc
            unfold ATok.val at hXx hAy
            simp only at hXx hAy p0 p1 p2 p3 p4
            have Sof : ∀ w' : World, Turned wr w' (fun _ => False) → ((w'.cell? ⟨g, off + j * 5, none⟩ = some (.int .i64 k2) ∧ w'.cell? ⟨g, off + j * 5 + 1, none⟩ = some (.int .i64 n2) ∧ w'.cell? ⟨g, off + j * 5 + 2, none⟩ = some (.string ⟨s2.toArray⟩) ∧ w'.cell? ⟨g, off + j * 5 + 3, none⟩ = some (.int .i64 a2) ∧ w'.cell? ⟨g, off + j * 5 + 4, none⟩ = some (.int .i64 e2) ∧ w'.cell? ⟨g, off + k * 5, none⟩ = some (.int .i64 k1) ∧ w'.cell? ⟨g, off + k * 5 + 1, none⟩ = some (.int .i64 n1) ∧ w'.cell? ⟨g, off + k * 5 + 2, none⟩ = some (.string ⟨s1.toArray⟩) ∧ w'.cell? ⟨g, off + k * 5 + 3, none⟩ = some (.int .i64 a1) ∧ w'.cell? ⟨g, off + k * 5 + 4, none⟩ = some (.int .i64 e1)) ∧ Turned wr w' (fun _ => False)) := by
              intro w' t
              have tw := ht.trans t (fun _ _ hf => hf)
              have pa := fun (i : Nat) (u : Value) (hu : (ATok.cells ⟨k2, n2, s2, a2, e2⟩)[i]? = some u) => (tw.cell (p := ⟨g, off + j * 5 + i, none⟩) lg (fun hf => hf)).trans (Yc.out i u hu)
              obtain ⟨z0, z1, z2, z3, z4, -⟩ := Hp.out w' tw
              exact ⟨⟨pa 0 _ rfl, pa 1 _ rfl, pa 2 _ rfl, pa 3 _ rfl, pa 4 _ rfl, z0, z1, z2, z3, z4⟩, t⟩
            have HSof := Lib.hid Sof
            obtain ⟨⟨q0, q1, q2, q3, q4, -⟩, -⟩ := Sof wr (Turned.refl _ _)
            have hs1 : IntKind.i64.wrap ((k : Int) - 1) = (j : Int) := by
              rw [IntWalk.i64_in _ (by omega)]; omega
            have hji : (j : Int) < (l.length : Int) := by omega
            have hk0i : (0 : Int) < (k : Int) := by omega
            have hj0 : 0 < k := by omega
            have tt : Turned wr wr.drew (fun _ => False) := (Turned.refl wr _).drew
            have Hj := Lib.hid hj
            have HXx := Lib.hid hXx
            have HAy := Lib.hid hAy
            have Ht := Lib.hid ht
            have HO := Lib.hid ho
            clear hj hkm hXx hAx hAy ht ho yc Sof hk0
            cases hap : apartB ⟨k2, n2, s2, a2, e2⟩ ⟨k1, n1, s1, a1, e1⟩ with
            | true =>
              have hst2 : joinPre l (k + 1) = P ++ sx := by rw [hstep]; simp [sepB, hap]
              have Hstep := Lib.hid hst2
              have hAp := HAy.out
              rw [hap] at hAp
              have HAp := Lib.hid hAp
              clear hst2 hstep hAp hap HAy
              have hP3 : P.length + sx.length ≤ 660000 := by omega
              go_wp2_with fail
              refine wp_region_held_drew (S := (fun w' => (w'.cell? ⟨g, off + j * 5, none⟩ = some (.int .i64 k2) ∧ w'.cell? ⟨g, off + j * 5 + 1, none⟩ = some (.int .i64 n2) ∧ w'.cell? ⟨g, off + j * 5 + 2, none⟩ = some (.string ⟨s2.toArray⟩) ∧ w'.cell? ⟨g, off + j * 5 + 3, none⟩ = some (.int .i64 a2) ∧ w'.cell? ⟨g, off + j * 5 + 4, none⟩ = some (.int .i64 e2) ∧ w'.cell? ⟨g, off + k * 5, none⟩ = some (.int .i64 k1) ∧ w'.cell? ⟨g, off + k * 5 + 1, none⟩ = some (.int .i64 n1) ∧ w'.cell? ⟨g, off + k * 5 + 2, none⟩ = some (.string ⟨s1.toArray⟩) ∧ w'.cell? ⟨g, off + k * 5 + 3, none⟩ = some (.int .i64 a1) ∧ w'.cell? ⟨g, off + k * 5 + 4, none⟩ = some (.int .i64 e1)) ∧ Turned wr w' (fun _ => False))) (by kernel_rfl) (HSof.out _ tt) (fun hHeld => ?_)
              refine wpAnyH_take (i := 0) (v := ?_) rfl (by kernel_rfl) (by kernel_rfl) (by kernel_rfl) (fun _ _ _ h => h) (Or.inl ⟨by rfl, ?_⟩) (by assumption) ?_
              rotate_left 1
              · (intro w hSw; (try dsimp only at hSw); first | (go_simp; done) | (go_simp; with_reducible rfl))
              simp only [List.getElem_toArray, List.getElem_cons_zero, Act.put, List.setIfInBounds_toArray, List.set_cons_zero, List.set_cons_succ]
              refine wpAnyH_take (i := 1) (v := ?_) rfl (by kernel_rfl) (by kernel_rfl) (by kernel_rfl) (fun _ _ _ h => h) (Or.inl ⟨by rfl, ?_⟩) (by assumption) ?_
              rotate_left 1
              · (intro w hSw; (try dsimp only at hSw); first | (go_simp; done) | (go_simp; with_reducible rfl))
              simp only [List.getElem_toArray, List.getElem_cons_zero, List.getElem_cons_succ, Act.put, List.setIfInBounds_toArray, List.set_cons_zero, List.set_cons_succ]
              refine wpAnyH_take (i := 2) (v := ?_) rfl (by kernel_rfl) (by kernel_rfl) (by kernel_rfl) (fun _ _ _ h => h) (Or.inl ⟨by rfl, ?_⟩) (by assumption) ?_
              rotate_left 1
              · (intro w hSw; (try dsimp only at hSw); first | (go_simp; done) | (go_simp; with_reducible rfl))
              simp only [List.getElem_toArray, List.getElem_cons_zero, List.getElem_cons_succ, Act.put, List.setIfInBounds_toArray, List.set_cons_zero, List.set_cons_succ]
              refine wpAnyH_take (i := 3) (v := ?_) rfl (by kernel_rfl) (by kernel_rfl) (by kernel_rfl) (fun _ _ _ h => h) (Or.inl ⟨by rfl, ?_⟩) (by assumption) ?_
              rotate_left 1
              · (intro w hSw; (try dsimp only at hSw); first | (go_simp; done) | (go_simp; with_reducible rfl))
              simp only [List.getElem_toArray, List.getElem_cons_zero, List.getElem_cons_succ, Act.put, List.setIfInBounds_toArray, List.set_cons_zero, List.set_cons_succ]
              refine wpAnyH_take (i := 4) (v := ?_) rfl (by kernel_rfl) (by kernel_rfl) (by kernel_rfl) (fun _ _ _ h => h) (Or.inl ⟨by rfl, ?_⟩) (by assumption) ?_
              rotate_left 1
              · (intro w hSw; (try dsimp only at hSw); first | (go_simp; done) | (go_simp; with_reducible rfl))
              simp only [List.getElem_toArray, List.getElem_cons_zero, List.getElem_cons_succ, Act.put, List.setIfInBounds_toArray, List.set_cons_zero, List.set_cons_succ]
              refine wpAnyH_take (i := 5) (v := ?_) rfl (by kernel_rfl) (by kernel_rfl) (by kernel_rfl) (fun _ _ _ h => h) (Or.inl ⟨by rfl, ?_⟩) (by assumption) ?_
              rotate_left 1
              · (intro w hSw; (try dsimp only at hSw); first | (go_simp; done) | (go_simp; with_reducible rfl))
              simp only [List.getElem_toArray, List.getElem_cons_zero, List.getElem_cons_succ, Act.put, List.setIfInBounds_toArray, List.set_cons_zero, List.set_cons_succ]
              refine wpAnyH_take (i := 6) (v := ?_) rfl (by kernel_rfl) (by kernel_rfl) (by kernel_rfl) (fun _ _ _ h => h) (Or.inl ⟨by rfl, ?_⟩) (by assumption) ?_
              rotate_left 1
              · (intro w hSw; (try dsimp only at hSw); first | (go_simp; done) | (go_simp; with_reducible rfl))
              simp only [List.getElem_toArray, List.getElem_cons_zero, List.getElem_cons_succ, Act.put, List.setIfInBounds_toArray, List.set_cons_zero, List.set_cons_succ]
              refine wpAnyH_take (i := 7) (v := ?_) rfl (by kernel_rfl) (by kernel_rfl) (by kernel_rfl) (fun _ _ _ h => h) (Or.inl ⟨by rfl, ?_⟩) (by assumption) ?_
              rotate_left 1
              · (intro w hSw; (try dsimp only at hSw); first | (go_simp; done) | (go_simp; with_reducible rfl))
              simp only [List.getElem_toArray, List.getElem_cons_zero, List.getElem_cons_succ, Act.put, List.setIfInBounds_toArray, List.set_cons_zero, List.set_cons_succ]
              refine wpAnyH_take (i := 8) (v := ?_) rfl (by kernel_rfl) (by kernel_rfl) (by kernel_rfl) (fun _ _ _ h => h) (Or.inl ⟨by rfl, ?_⟩) (by assumption) ?_
              rotate_left 1
              · (intro w hSw; (try dsimp only at hSw); first | (go_simp; done) | (go_simp; with_reducible rfl))
              simp only [List.getElem_toArray, List.getElem_cons_zero, List.getElem_cons_succ, Act.put, List.setIfInBounds_toArray, List.set_cons_zero, List.set_cons_succ]
              refine wpAnyH_ready (rs := [9]) (by kernel_rfl) (by simp) ?_
              refine AllReadyH.cons rfl (fun K hK => ?_) AllReadyH.nil
              go_simp
              go_at_call 30
              refine (HAp.out _ (T1.out.trans (Ht.out.trans tt (fun _ _ hf => hf)) (fun _ _ hf => hf))).mono ?_
              rintro e3 w3 ⟨rfl, t3⟩
              go_wp2_with fail
              refine hK.out _ _ (HSof.out _ (tt.trans t3 (fun _ _ hf => hf))) (fun hHeld2 => ?_)
              clear hK K hHeld
              refine wpAnyH_take (i := 10) (v := ?_) rfl (by kernel_rfl) (by kernel_rfl) (by kernel_rfl) (fun _ _ _ h => h) (Or.inl ⟨by rfl, ?_⟩) (by assumption) ?_
              rotate_left 1
              · (intro w hSw; (try dsimp only at hSw); first | (go_simp; done) | (go_simp; with_reducible rfl))
              simp only [List.getElem_toArray, List.getElem_cons_zero, List.getElem_cons_succ, Act.put, List.setIfInBounds_toArray, List.set_cons_zero, List.set_cons_succ]
              refine wpAnyH_take (i := 11) (v := ?_) rfl (by kernel_rfl) (by kernel_rfl) (by kernel_rfl) (fun _ _ _ h => h) (Or.inl ⟨by rfl, ?_⟩) (by assumption) ?_
              rotate_left 1
              · (intro w hSw; (try dsimp only at hSw); first | (go_simp; done) | (go_simp; with_reducible rfl))
              simp only [List.getElem_toArray, List.getElem_cons_zero, List.getElem_cons_succ, Act.put, List.setIfInBounds_toArray, List.set_cons_zero, List.set_cons_succ]
              refine wpAnyH_take (i := 12) (v := ?_) rfl (by kernel_rfl) (by kernel_rfl) (by kernel_rfl) (fun _ _ _ h => h) (Or.inl ⟨by rfl, ?_⟩) (by assumption) ?_
              rotate_left 1
              · (intro w hSw; (try dsimp only at hSw); first | (go_simp; done) | (go_simp; with_reducible rfl))
              simp only [List.getElem_toArray, List.getElem_cons_zero, List.getElem_cons_succ, Act.put, List.setIfInBounds_toArray, List.set_cons_zero, List.set_cons_succ]
              refine wpAnyH_take (i := 13) (v := ?_) rfl (by kernel_rfl) (by kernel_rfl) (by kernel_rfl) (fun _ _ _ h => h) (Or.inl ⟨by rfl, ?_⟩) (by assumption) ?_
              rotate_left 1
              · (intro w hSw; (try dsimp only at hSw); first | (go_simp; done) | (go_simp; with_reducible rfl))
              simp only [List.getElem_toArray, List.getElem_cons_zero, List.getElem_cons_succ, Act.put, List.setIfInBounds_toArray, List.set_cons_zero, List.set_cons_succ]
              refine wpAnyH_take (i := 14) (v := ?_) rfl (by kernel_rfl) (by kernel_rfl) (by kernel_rfl) (fun _ _ _ h => h) (Or.inl ⟨by rfl, ?_⟩) (by assumption) ?_
              rotate_left 1
              · (intro w hSw; (try dsimp only at hSw); first | (go_simp; done) | (go_simp; with_reducible rfl))
              simp only [List.getElem_toArray, List.getElem_cons_zero, List.getElem_cons_succ, Act.put, List.setIfInBounds_toArray, List.set_cons_zero, List.set_cons_succ]
              refine wpAnyH_done (by kernel_rfl) ?_ _
              have tz := Ht.out.trans (tt.trans t3 (fun _ _ hf => hf)) (fun _ _ hf => hf)
              have hoz := ownsRow_turned HO.out (tt.trans t3 (fun _ _ hf => hf)) (fun _ _ hf => hf)
              obtain ⟨z0, z1, z2, z3, z4, z5⟩ := Hp.out _ tz
              clear hHeld2 hs1 hji hk0i t3 tt p0 p1 p2 p3 p4 q0 q1 q2 q3 q4
              go_wp2_with fail
              refine (HXx.out _ (T1.out.trans (tz) (fun _ _ hf => hf))).mono ?_
              rintro e wN ⟨rfl, tN⟩
              have tq := (tz).trans tN (fun _ _ hf => hf)
              have ho2 := ownsRow_turned (hoz) tN (fun _ _ hf => hf)
              have hsz2 : w1.heap.size ≤ wN.heap.size := tq.size
              have HB2 := Lib.hid (fun k (hk : ((.slice (some ⟨go, 0, none⟩) P.length co) : Value).ownBlock = some k) => (ownsRow_tag ho2 hk).1)
              have TQ := Lib.hid tq
              clear tq tN
              go_wp2_with (at_builtin; refine Lib.wpList_append_own_string _ (by rfl) _ _ _ _ (by rfl) w1.heap.size 5 i0 Tryz.underlying78 Tryz.underlying9 hi0 hz0 hz1 hz2 (.slice (some ⟨go, 0, none⟩) P.length co) (P.length) _ (by rfl) ho2 ⟨sx.toArray⟩ (by rfl) (by rw [bytes_len]; unfold maxLen; omega) (by rw [bytes_len]; omega) hsz2 ?_; intro o3 w6 hown6 hgrow6 hnil6)
              have hform : ∃ g c, o3 = .slice (some ⟨g, 0, none⟩) (P.length + (⟨sx.toArray⟩ : ByteArray).size) c := by
                rcases hown6.2 with ⟨h1, _⟩ | ⟨g, cap, cur, h1, _⟩
                · exact absurd (hnil6.1 h1).1 (by simp)
                · exact ⟨g, cap, h1⟩
              obtain ⟨g6, c6, rfl⟩ := hform
              go_roundw
              case rel =>
                refine ⟨k + 1, by omega, by go_num, ?_, ⟨g6, c6, ?_⟩, ?_⟩
                · rw [Hstep.out]
                  simpa [strCells_append, bytes_len, Nat.add_assoc, List.length_append] using hown6
                · rw [Hstep.out]
                  simp [bytes_len, List.length_append]
                · exact Turned.grown TQ.out hgrow6 (fun j hj e => by have := HB2.out _ e; omega)
              case measure => simp [intOf]; omega
            | false =>
              have hst2 : joinPre l (k + 1) = (P ++ [32]) ++ sx := by rw [hstep]; simp [sepB, hap]
              have Hstep := Lib.hid hst2
              have hAp := HAy.out
              rw [hap] at hAp
              have HAp := Lib.hid hAp
              have hP3 : P.length + 1 + sx.length ≤ 660000 := by
                have : (sepB (some ⟨k2, n2, s2, a2, e2⟩) ⟨k1, n1, s1, a1, e1⟩).length = 1 := by simp [sepB, hap]
                omega
              clear hst2 hstep hAp hap HAy
              go_wp2_with fail
              refine wp_region_held_drew (S := (fun w' => (w'.cell? ⟨g, off + j * 5, none⟩ = some (.int .i64 k2) ∧ w'.cell? ⟨g, off + j * 5 + 1, none⟩ = some (.int .i64 n2) ∧ w'.cell? ⟨g, off + j * 5 + 2, none⟩ = some (.string ⟨s2.toArray⟩) ∧ w'.cell? ⟨g, off + j * 5 + 3, none⟩ = some (.int .i64 a2) ∧ w'.cell? ⟨g, off + j * 5 + 4, none⟩ = some (.int .i64 e2) ∧ w'.cell? ⟨g, off + k * 5, none⟩ = some (.int .i64 k1) ∧ w'.cell? ⟨g, off + k * 5 + 1, none⟩ = some (.int .i64 n1) ∧ w'.cell? ⟨g, off + k * 5 + 2, none⟩ = some (.string ⟨s1.toArray⟩) ∧ w'.cell? ⟨g, off + k * 5 + 3, none⟩ = some (.int .i64 a1) ∧ w'.cell? ⟨g, off + k * 5 + 4, none⟩ = some (.int .i64 e1)) ∧ Turned wr w' (fun _ => False))) (by kernel_rfl) (HSof.out _ tt) (fun hHeld => ?_)
              refine wpAnyH_take (i := 0) (v := ?_) rfl (by kernel_rfl) (by kernel_rfl) (by kernel_rfl) (fun _ _ _ h => h) (Or.inl ⟨by rfl, ?_⟩) (by assumption) ?_
              rotate_left 1
              · (intro w hSw; (try dsimp only at hSw); first | (go_simp; done) | (go_simp; with_reducible rfl))
              simp only [List.getElem_toArray, List.getElem_cons_zero, Act.put, List.setIfInBounds_toArray, List.set_cons_zero, List.set_cons_succ]
              refine wpAnyH_take (i := 1) (v := ?_) rfl (by kernel_rfl) (by kernel_rfl) (by kernel_rfl) (fun _ _ _ h => h) (Or.inl ⟨by rfl, ?_⟩) (by assumption) ?_
              rotate_left 1
              · (intro w hSw; (try dsimp only at hSw); first | (go_simp; done) | (go_simp; with_reducible rfl))
              simp only [List.getElem_toArray, List.getElem_cons_zero, List.getElem_cons_succ, Act.put, List.setIfInBounds_toArray, List.set_cons_zero, List.set_cons_succ]
              refine wpAnyH_take (i := 2) (v := ?_) rfl (by kernel_rfl) (by kernel_rfl) (by kernel_rfl) (fun _ _ _ h => h) (Or.inl ⟨by rfl, ?_⟩) (by assumption) ?_
              rotate_left 1
              · (intro w hSw; (try dsimp only at hSw); first | (go_simp; done) | (go_simp; with_reducible rfl))
              simp only [List.getElem_toArray, List.getElem_cons_zero, List.getElem_cons_succ, Act.put, List.setIfInBounds_toArray, List.set_cons_zero, List.set_cons_succ]
              refine wpAnyH_take (i := 3) (v := ?_) rfl (by kernel_rfl) (by kernel_rfl) (by kernel_rfl) (fun _ _ _ h => h) (Or.inl ⟨by rfl, ?_⟩) (by assumption) ?_
              rotate_left 1
              · (intro w hSw; (try dsimp only at hSw); first | (go_simp; done) | (go_simp; with_reducible rfl))
              simp only [List.getElem_toArray, List.getElem_cons_zero, List.getElem_cons_succ, Act.put, List.setIfInBounds_toArray, List.set_cons_zero, List.set_cons_succ]
              refine wpAnyH_take (i := 4) (v := ?_) rfl (by kernel_rfl) (by kernel_rfl) (by kernel_rfl) (fun _ _ _ h => h) (Or.inl ⟨by rfl, ?_⟩) (by assumption) ?_
              rotate_left 1
              · (intro w hSw; (try dsimp only at hSw); first | (go_simp; done) | (go_simp; with_reducible rfl))
              simp only [List.getElem_toArray, List.getElem_cons_zero, List.getElem_cons_succ, Act.put, List.setIfInBounds_toArray, List.set_cons_zero, List.set_cons_succ]
              refine wpAnyH_take (i := 5) (v := ?_) rfl (by kernel_rfl) (by kernel_rfl) (by kernel_rfl) (fun _ _ _ h => h) (Or.inl ⟨by rfl, ?_⟩) (by assumption) ?_
              rotate_left 1
              · (intro w hSw; (try dsimp only at hSw); first | (go_simp; done) | (go_simp; with_reducible rfl))
              simp only [List.getElem_toArray, List.getElem_cons_zero, List.getElem_cons_succ, Act.put, List.setIfInBounds_toArray, List.set_cons_zero, List.set_cons_succ]
              refine wpAnyH_take (i := 6) (v := ?_) rfl (by kernel_rfl) (by kernel_rfl) (by kernel_rfl) (fun _ _ _ h => h) (Or.inl ⟨by rfl, ?_⟩) (by assumption) ?_
              rotate_left 1
              · (intro w hSw; (try dsimp only at hSw); first | (go_simp; done) | (go_simp; with_reducible rfl))
              simp only [List.getElem_toArray, List.getElem_cons_zero, List.getElem_cons_succ, Act.put, List.setIfInBounds_toArray, List.set_cons_zero, List.set_cons_succ]
              refine wpAnyH_take (i := 7) (v := ?_) rfl (by kernel_rfl) (by kernel_rfl) (by kernel_rfl) (fun _ _ _ h => h) (Or.inl ⟨by rfl, ?_⟩) (by assumption) ?_
              rotate_left 1
              · (intro w hSw; (try dsimp only at hSw); first | (go_simp; done) | (go_simp; with_reducible rfl))
              simp only [List.getElem_toArray, List.getElem_cons_zero, List.getElem_cons_succ, Act.put, List.setIfInBounds_toArray, List.set_cons_zero, List.set_cons_succ]
              refine wpAnyH_take (i := 8) (v := ?_) rfl (by kernel_rfl) (by kernel_rfl) (by kernel_rfl) (fun _ _ _ h => h) (Or.inl ⟨by rfl, ?_⟩) (by assumption) ?_
              rotate_left 1
              · (intro w hSw; (try dsimp only at hSw); first | (go_simp; done) | (go_simp; with_reducible rfl))
              simp only [List.getElem_toArray, List.getElem_cons_zero, List.getElem_cons_succ, Act.put, List.setIfInBounds_toArray, List.set_cons_zero, List.set_cons_succ]
              refine wpAnyH_ready (rs := [9]) (by kernel_rfl) (by simp) ?_
              refine AllReadyH.cons rfl (fun K hK => ?_) AllReadyH.nil
              go_simp
              go_at_call 30
              refine (HAp.out _ (T1.out.trans (Ht.out.trans tt (fun _ _ hf => hf)) (fun _ _ hf => hf))).mono ?_
              rintro e3 w3 ⟨rfl, t3⟩
              go_wp2_with fail
              refine hK.out _ _ (HSof.out _ (tt.trans t3 (fun _ _ hf => hf))) (fun hHeld2 => ?_)
              clear hK K hHeld
              refine wpAnyH_take (i := 10) (v := ?_) rfl (by kernel_rfl) (by kernel_rfl) (by kernel_rfl) (fun _ _ _ h => h) (Or.inl ⟨by rfl, ?_⟩) (by assumption) ?_
              rotate_left 1
              · (intro w hSw; (try dsimp only at hSw); first | (go_simp; done) | (go_simp; with_reducible rfl))
              simp only [List.getElem_toArray, List.getElem_cons_zero, List.getElem_cons_succ, Act.put, List.setIfInBounds_toArray, List.set_cons_zero, List.set_cons_succ]
              refine wpAnyH_take (i := 11) (v := ?_) rfl (by kernel_rfl) (by kernel_rfl) (by kernel_rfl) (fun _ _ _ h => h) (Or.inl ⟨by rfl, ?_⟩) (by assumption) ?_
              rotate_left 1
              · (intro w hSw; (try dsimp only at hSw); first | (go_simp; done) | (go_simp; with_reducible rfl))
              simp only [List.getElem_toArray, List.getElem_cons_zero, List.getElem_cons_succ, Act.put, List.setIfInBounds_toArray, List.set_cons_zero, List.set_cons_succ]
              refine wpAnyH_take (i := 12) (v := ?_) rfl (by kernel_rfl) (by kernel_rfl) (by kernel_rfl) (fun _ _ _ h => h) (Or.inl ⟨by rfl, ?_⟩) (by assumption) ?_
              rotate_left 1
              · (intro w hSw; (try dsimp only at hSw); first | (go_simp; done) | (go_simp; with_reducible rfl))
              simp only [List.getElem_toArray, List.getElem_cons_zero, List.getElem_cons_succ, Act.put, List.setIfInBounds_toArray, List.set_cons_zero, List.set_cons_succ]
              refine wpAnyH_take (i := 13) (v := ?_) rfl (by kernel_rfl) (by kernel_rfl) (by kernel_rfl) (fun _ _ _ h => h) (Or.inl ⟨by rfl, ?_⟩) (by assumption) ?_
              rotate_left 1
              · (intro w hSw; (try dsimp only at hSw); first | (go_simp; done) | (go_simp; with_reducible rfl))
              simp only [List.getElem_toArray, List.getElem_cons_zero, List.getElem_cons_succ, Act.put, List.setIfInBounds_toArray, List.set_cons_zero, List.set_cons_succ]
              refine wpAnyH_take (i := 14) (v := ?_) rfl (by kernel_rfl) (by kernel_rfl) (by kernel_rfl) (fun _ _ _ h => h) (Or.inl ⟨by rfl, ?_⟩) (by assumption) ?_
              rotate_left 1
              · (intro w hSw; (try dsimp only at hSw); first | (go_simp; done) | (go_simp; with_reducible rfl))
              simp only [List.getElem_toArray, List.getElem_cons_zero, List.getElem_cons_succ, Act.put, List.setIfInBounds_toArray, List.set_cons_zero, List.set_cons_succ]
              refine wpAnyH_done (by kernel_rfl) ?_ _
              have tz := Ht.out.trans (tt.trans t3 (fun _ _ hf => hf)) (fun _ _ hf => hf)
              have hoz := ownsRow_turned HO.out (tt.trans t3 (fun _ _ hf => hf)) (fun _ _ hf => hf)
              have hoz2 := hoz.alloc (.cells #[.int .u8 32] 5)
              have tz2 := tz.alloc (.cells #[.int .u8 32] 5)
              have hB3 := tz2.size
              have hB4 := fun k (hk : (Value.slice (some ⟨go, 0, none⟩) P.length co).ownBlock = some k) => (ownsRow_tag hoz hk).1
              have kN := heap_alloc_new w3 (.cells #[.int .u8 32] 5)
              have hnews := World.news_of_block kN
              have hZ : ∀ V, (w3.alloc (.cells #[.int .u8 32] 5)).grownBy V (Value.slice (some ⟨go, 0, none⟩) P.length co).ownBlock → Turned w1 V (fun _ => False) := fun V hg => Turned.grown tz2 hg (fun j hj e => by have := hB4 _ e; omega)
              have HZ := Lib.hid hZ
              have HN := Lib.hid hnews
              clear hHeld2 hs1 hji hk0i t3 tt p0 p1 p2 p3 p4 q0 q1 q2 q3 q4 kN hnews hB4 tz hoz tz2 hZ
              go_wp2_with (at_builtin; refine wpList_append_own _ (by rfl) _ _ _ (by rfl) w1.heap.size 5 i0 (.int .u8 0) 1 1 Tryz.underlying78 hi0 hz0 hz1 hz2 rfl (by omega) (.slice (some ⟨go, 0, none⟩) P.length co) P.length _ (by rfl) hoz2 ⟨w3.heap.size, 0, none⟩ 1 1 [.int .u8 32] (by rfl) (by rfl) HN.out (by simp [Value.oneCell']) (by unfold maxLen; omega) (by omega) hB3 ?_; intro o5 w5 hown5 hgrow5 hnil5; have tz5 := HZ.out _ hgrow5; obtain ⟨z0, z1, z2, z3, z4, z5⟩ := Hp.out _ tz5)
              have hform5 : ∃ g c, o5 = .slice (some ⟨g, 0, none⟩) (P ++ [32]).length c := by
                rw [List.length_append]
                rcases hown5.2 with ⟨h1, _⟩ | ⟨g, cap, cur, h1, _⟩
                · exact absurd (hnil5.1 h1).1 (by simp)
                · exact ⟨g, cap, h1⟩
              obtain ⟨g5, c5, rfl⟩ := hform5
              have hown5q : w5.ownsRow w1.heap.size 5 1 (.slice (some ⟨g5, 0, none⟩) (P ++ [32]).length c5) (P ++ [32]).length (Lib.strCells ⟨(P ++ [32]).toArray⟩) := by
                have hq : (P ++ [32]).length = P.length + 1 := by rw [List.length_append]; rfl
                rw [strCells_append, hq]
                rw [hq] at hown5
                exact hown5
              have hQ : (P ++ [32]).length = P.length + 1 := by rw [List.length_append]; rfl
              have hQ3 : (P ++ [32]).length + sx.length ≤ 660000 := by omega
              clear hown5 hgrow5 hnil5 hQ
              generalize P ++ [32] = Q at *
              go_wp2_with fail
              refine (HXx.out _ (T1.out.trans (tz5) (fun _ _ hf => hf))).mono ?_
              rintro e wN ⟨rfl, tN⟩
              have tq := (tz5).trans tN (fun _ _ hf => hf)
              have ho2 := ownsRow_turned (hown5q) tN (fun _ _ hf => hf)
              have hsz2 : w1.heap.size ≤ wN.heap.size := tq.size
              have HB2 := Lib.hid (fun k (hk : ((.slice (some ⟨g5, 0, none⟩) Q.length c5) : Value).ownBlock = some k) => (ownsRow_tag ho2 hk).1)
              have TQ := Lib.hid tq
              clear tq tN
              go_wp2_with (at_builtin; refine Lib.wpList_append_own_string _ (by rfl) _ _ _ _ (by rfl) w1.heap.size 5 i0 Tryz.underlying78 Tryz.underlying9 hi0 hz0 hz1 hz2 (.slice (some ⟨g5, 0, none⟩) Q.length c5) (Q.length) _ (by rfl) ho2 ⟨sx.toArray⟩ (by rfl) (by rw [bytes_len]; unfold maxLen; omega) (by rw [bytes_len]; omega) hsz2 ?_; intro o3 w6 hown6 hgrow6 hnil6)
              have hform : ∃ g c, o3 = .slice (some ⟨g, 0, none⟩) (Q.length + (⟨sx.toArray⟩ : ByteArray).size) c := by
                rcases hown6.2 with ⟨h1, _⟩ | ⟨g, cap, cur, h1, _⟩
                · exact absurd (hnil6.1 h1).1 (by simp)
                · exact ⟨g, cap, h1⟩
              obtain ⟨g6, c6, rfl⟩ := hform
              go_roundw
              case rel =>
                refine ⟨k + 1, by omega, by go_num, ?_, ⟨g6, c6, ?_⟩, ?_⟩
                · rw [Hstep.out]
                  simpa [strCells_append, bytes_len, Nat.add_assoc, List.length_append] using hown6
                · rw [Hstep.out]
                  simp [bytes_len, List.length_append]
                · exact Turned.grown TQ.out hgrow6 (fun j hj e => by have := HB2.out _ e; omega)
              case measure => simp [intOf]; omega
        · obtain rfl : k = l.length := by omega
          have hJl := Hlen.out l.length
          have htx := text_of_owns (by simp) ho
          generalize joinPre l l.length = J at *
          have htE := T1.out.trans ht (fun _ _ hf => hf)
          by_cases hJ : 100000 < J.length
          · have hj := Hjv.out
            rw [if_pos hJ] at hj
            have Hj := Lib.hid hj
            have hJi : (100000 : Int) < (J.length : Int) := by omega
            clear hj htx ho
            go_wp2
            go_ret2
            exact ⟨by rw [Hj.out]; rfl, htE⟩
          · have hj := Hjv.out
            rw [if_neg hJ] at hj
            have Hj := Lib.hid hj
            have hJi : ¬ (100000 : Int) < (J.length : Int) := by omega
            clear hj ho
            go_wp2
            go_ret2
            exact ⟨by rw [Hj.out]; rfl, htE⟩
end Go.Proofs.YtbcmjinifilamaaGreatDoor
namespace Lx

/-- How far the reference has stripped: q bytes, nx tokens, these comments. -/
structure Stripped (l : Bytes) (q nx : Nat) (done : List (Nat × Nat)) : Prop where
  le : q ≤ l.length
  nle : nx ≤ (toks l).toks.length
  toks : (toks l).toks.drop nx = (cuts q (l.drop q)).toks
  coms : (Lx.toks l).coms = done ++ (cuts q (l.drop q)).coms
  bad : (cuts q (l.drop q)).bad = none

theorem stripBy_append (l : Bytes) (a b : List (Nat × Nat)) : stripBy l (a ++ b) = stripBy (stripBy l a) b := by simp [stripBy]

/-- What comes next. -/
inductive Next (l : Bytes) (q nx : Nat) (done : List (Nat × Nat)) : Prop where
  | tok (t : Tok) (h : (toks l).toks[nx]? = some t) (ha : t.at_ = q) (he : q < t.end_ ∧ t.end_ ≤ l.length) (hs : Stripped l t.end_ (nx + 1) done)
  | blank (h : ∀ t, (toks l).toks[nx]? = some t → t.at_ ≠ q) (hb : ∃ hq : q < l.length, isBlank l[q] = true) (hs : Stripped l (q + 1) nx done)
  | comment (n : Nat) (h : ∀ t, (toks l).toks[nx]? = some t → t.at_ ≠ q) (hb : ∃ hq : q < l.length, isBlank l[q] = false) (h2 : (l.drop q).take 2 = [40, 42]) (hc : com 1 (l.drop (q + 2)) = some n) (hl : q + (n + 2) ≤ l.length) (hs : Stripped l (q + (n + 2)) nx (done ++ [(q, q + (n + 2))]))

theorem stripped_next {l : Bytes} {q nx : Nat} {done : List (Nat × Nat)} (h : Stripped l q nx done) (hq : q < l.length) : Next l q nx done := by
  have hd := drop_cons hq
  have hb := h.bad
  have ht := h.toks
  have hco := h.coms
  have hcc := cuts_cons q l[q] (l.drop (q + 1))
  rw [← hd] at hcc
  have hlen := cut1_len (l.drop q)
  have hfar : ∀ k, 0 < k → q + k ≤ l.length → (toks l).toks.drop nx = (cuts (q + k) (l.drop (q + k))).toks → ∀ t, (toks l).toks[nx]? = some t → t.at_ ≠ q := by
    intro k hk hkl hx t htk
    have h1 : ((toks l).toks.drop nx)[0]? = some t := by rw [List.getElem?_drop]; exact htk
    rw [hx] at h1
    have h2 := (toks_within _ (q + k) (l.drop (q + k)) (Nat.le_refl _)).1 t (List.mem_of_getElem? h1)
    omega
  cases hc : cut1 (l.drop q) with
  | bad => rw [hcc, hc] at hb; simp at hb
  | skip =>
    rw [hc] at hcc
    simp only at hcc
    rw [hcc] at hb ht hco
    have hbl : isBlank l[q] = true := by
      cases hx : isBlank l[q] with
      | true => rfl
      | false =>
        rw [hd] at hc
        exact absurd hc (cut1_not_skip (by simp [hx]))
    exact .blank (hfar 1 (by omega) (by omega) ht) ⟨hq, hbl⟩ ⟨by omega, h.nle, ht, hco, hb⟩
  | comment k =>
    rw [hc] at hcc hlen
    have hl := hlen (by simp)
    simp only [Cut.len, List.length_drop] at hl
    simp only [Out.com, List.drop_drop] at hcc
    rw [hcc] at hb ht hco
    have hbl : isBlank l[q] = false := by
      cases hx : isBlank l[q] with
      | false => rfl
      | true => rw [hd, cut1_blank hx] at hc; cases hc
    have h2 : (l.drop q).take 2 = [40, 42] := by
      have hx := hc
      rw [hd, cut1] at hx
      rw [if_neg (by simp [hbl])] at hx
      unfold cutName cutNumber cutSymbols cutSign at hx
      simp only at hx
      split at hx
      · split at hx <;> cases hx
      split at hx
      · split at hx <;> cases hx
      split at hx
      · split at hx <;> cases hx
      split at hx
      · rename_i h2; rw [hd]; exact h2
      · split at hx <;> cases hx
    have hcm := cut1_com h2
    rw [hc, List.drop_drop] at hcm
    cases hn : com 1 (l.drop (q + 2)) with
    | none => rw [hn] at hcm; cases hcm
    | some n =>
      rw [hn] at hcm
      simp only [Cut.comment.injEq] at hcm
      subst hcm
      refine .comment n (hfar (n + 2) (by omega) (by omega) ht) ⟨hq, hbl⟩ h2 hn (by omega) ⟨by omega, h.nle, ht, ?_, hb⟩
      rw [hco]
      simp
  | tok k m s len =>
    rw [hc] at hcc hlen
    have hl := hlen (by simp)
    simp only [Cut.len, List.length_drop] at hl
    simp only [Out.tok, List.drop_drop] at hcc
    rw [hcc] at hb ht hco
    simp only at hb ht hco
    have hx : (toks l).toks[nx]? = some ⟨k, m, s, q, q + len⟩ := by
      have : ((toks l).toks.drop nx)[0]? = some ⟨k, m, s, q, q + len⟩ := by rw [ht]; rfl
      rwa [List.getElem?_drop] at this
    have hnx := (List.getElem?_eq_some_iff.1 hx).1
    refine .tok _ hx rfl ⟨by simp only; omega, by simp only; omega⟩ ⟨by simp only; omega, hnx, ?_, hco, hb⟩
    simp only
    have : (toks l).toks.drop (nx + 1) = ((toks l).toks.drop nx).drop 1 := by rw [List.drop_drop]
    rw [this, ht]
    rfl

theorem stripped_start {l : Bytes} (h : (toks l).bad = none) : Stripped l 0 0 [] := ⟨Nat.zero_le _, Nat.zero_le _, rfl, rfl, h⟩

theorem stripped_end {l : Bytes} {nx : Nat} {done : List (Nat × Nat)} (h : Stripped l l.length nx done) : stripBy l done = strip l := by
  have := h.coms
  rw [List.drop_length, cuts_nil] at this
  simp only [List.append_nil] at this
  unfold strip
  rw [this]
end Lx
namespace Go.Proofs.YtbcmjinifilamaaGreatDoor
open Go.RowKit

set_option maxRecDepth 100000 in
set_option maxHeartbeats 3200000 in
theorem rstrip_any (l : Lx.Bytes) (hl : l.length ≤ 20000) (w : World) :
    Calls Tryz.prog 28 #[.string ⟨l.toArray⟩] w fun e w' => e = .returned (stripV l) ∧ Turned w w' (fun _ => False) := by
  have hcl := toks_count l
  cases hbad : (Lx.toks l).bad with
  | some q =>
    have hv : stripV l = .tuple #[.string ⟨#[]⟩, .int .i64 10] := by unfold stripV; rw [if_neg (by omega), hbad]
    have Hv := Lib.hid hv
    have hT := fun V => rtokens_err V l (by omega) q hbad
    have HT := Lib.hid hT
    clear hv hT hbad hcl
    go_enter Tryz.func28, Tryz.ntmps28
    go_wp2_with fail
    refine (HT.out _).mono ?_
    rintro e w1 ⟨rfl, t1⟩
    go_wp2
    go_ret2
    exact ⟨by rw [Hv.out]; rfl, t1⟩
  | none =>
    have hv : stripV l = .tuple #[.string ⟨(Lx.strip l).toArray⟩, .int .i64 0] := by unfold stripV; rw [if_neg (by omega), hbad]; simp only; rw [if_neg (by omega)]
    have Hv := Lib.hid hv
    have hT := fun V => rtokens_fine V l (by omega) hbad (by omega)
    have HT := Lib.hid hT
    have hst0 := Lx.stripped_start hbad
    have Hst0 := Lib.hid hst0
    have Hcl := Lib.hid hcl
    clear hv hT hbad hst0
    have hconv := fun w2 => Lib.run_convert_string_bytes (P := Tryz.prog) w2 9 78 5 ⟨l.toArray⟩ Tryz.underlying9 Tryz.underlying78 Tryz.underlying5
    simp only [es_of] at hconv
    go_enter Tryz.func28, Tryz.ntmps28
    go_wp2_with fail
    refine (HT.out _).mono ?_
    rintro e w2 ⟨va, vc, rfl, ho2, t2⟩
    have r2 := rowOf_owns (l := (Lx.toks l).toks.map ofTok) (v := .slice va (Lx.toks l).toks.length vc) (by rw [List.length_map, flat_ofTok]; exact ho2)
    have hR := fun (j : Nat) (t : Lx.Tok) (hj : (Lx.toks l).toks[j]? = some t) => r2
    clear hR
    have hTW := turned_bytesWorld w2 l
    have hBA := bytesAt_new w2 l
    have hHl : w.heap.size ≤ w2.heap.size := t2.size
    have rW := RowOf.turned r2 hTW (fun _ _ _ _ hf => hf)
    have hglt : ∀ g off, va = some ⟨g, off, none⟩ → (Lx.toks l).toks ≠ [] → g < w2.heap.size := by
      intro g off hva hne
      obtain ⟨a, cap, hv, hr⟩ := r2
      obtain ⟨g', off', ha, hg, -⟩ := hr (by simpa using hne)
      simp only [Value.slice.injEq] at hv
      rw [← hv.1, hva] at ha
      simp only [Option.some.injEq, Addr.mk.injEq, and_true] at ha
      omega
    have tW := t2.trans hTW (fun _ _ hf => hf)
    have hcell : ∀ (j : Nat) (t : Lx.Tok), (Lx.toks l).toks[j]? = some t → ∀ V, Turned (Lib.bytesWorld w2 5 ⟨l.toArray⟩) V (fun i => i = w2.heap.size) → ∃ g off, va = some ⟨g, off, none⟩ ∧ g < V.heap.size ∧
        V.cell? ⟨g, off + j * 5 + 3, none⟩ = some (.int .i64 t.at_) ∧ V.cell? ⟨g, off + j * 5 + 4, none⟩ = some (.int .i64 t.end_) := by
      intro j t hj V tV
      have hne : (Lx.toks l).toks ≠ [] := by intro h; rw [h] at hj; simp at hj
      obtain ⟨a, cp, hv, hr⟩ := rW
      obtain ⟨g, off, ha, hg, hcc⟩ := hr (by simpa using hne)
      simp only [Value.slice.injEq] at hv
      have hva := hv.1.trans ha
      have hgH := hglt g off hva hne
      have hjt : ((Lx.toks l).toks.map ofTok)[j]? = some (ofTok t) := by rw [List.getElem?_map, hj]; rfl
      refine ⟨g, off, hva, Nat.lt_of_lt_of_le hg tV.size, ?_, ?_⟩
      · rw [tV.cell (p := ⟨g, off + j * 5 + 3, none⟩) hg (by simp only; omega)]
        exact hcc j _ hjt 3 _ rfl
      · rw [tV.cell (p := ⟨g, off + j * 5 + 4, none⟩) hg (by simp only; omega)]
        exact hcc j _ hjt 4 _ rfl
    have Hcell := Lib.hid hcell
    have TW := Lib.hid tW
    clear r2 ho2 hglt t2 tW rW hcell
    have hc := hconv w2
    clear hconv
    generalize grownCap w2 l.length 0 5 = cap at *
    generalize Lib.bytesWorld w2 5 ⟨l.toArray⟩ = W at *
    generalize w2.heap.size = H at *
    clear hTW
    go_wp2_with fail
    go_loopw [8, 9] (fun nxv qv wr => ∃ nx q : Nat, ∃ done : List (Nat × Nat), nxv = .int .i64 nx ∧ qv = .int .i64 q ∧ Lx.Stripped l q nx done ∧ BytesAt wr H (Lx.stripBy l done) ∧ Turned W wr (fun j => j = H)) (fun _ qv _ => l.length - (intOf qv).toNat)
    case atStart => exact ⟨0, 0, [], rfl, rfl, Hst0.out, hBA, Turned.refl _ _⟩
    case round =>
      obtain ⟨nx, q, done, rfl, rfl, hs, hba, ht⟩ := hrel
      have hqle := hs.le
      have hnle := hs.nle
      by_cases hlt : q < l.length
      · have hqi : (q : Int) < (l.length : Int) := by omega
        have hnext := Lx.stripped_next hs hlt
        have hq1 : q + 1 ≤ 20000 := by omega
        have hn1 : nx + 1 ≤ 20001 := by omega
        have Hs := Lib.hid hs
        clear hs
        cases hnext with
        | tok t h hat hend hs2 =>
          obtain ⟨g, off, rfl, hg, c3, c4⟩ := Hcell.out nx t h wr ht
          have hnl : (nx : Int) < ((Lx.toks l).toks.length : Int) := by have := (List.getElem?_eq_some_iff.1 h).1; omega
          rw [hat] at c3
          obtain ⟨tk, tn, ts, ta, te⟩ := t
          simp only at hat hend hs2 c3 c4
          have HS2 := Lib.hid hs2
          clear hs2 h hat
          generalize (Lx.toks l).toks.length = n at *
          go_wp2
          go_roundw
          case rel => exact ⟨nx + 1, te, done, by go_num, by go_num, HS2.out, hba, ht⟩
          case measure => simp [intOf]; omega
        | blank h hb hs2 =>
          have hway : (∃ t : Lx.Tok, (nx : Int) < ((Lx.toks l).toks.length : Int) ∧ ((t.at_ : Int) == (q : Int)) = false ∧ ∃ g off, va = some ⟨g, off, none⟩ ∧ g < wr.heap.size ∧ wr.cell? ⟨g, off + nx * 5 + 3, none⟩ = some (.int .i64 t.at_)) ∨ ¬ (nx : Int) < ((Lx.toks l).toks.length : Int) := by
            by_cases hnl : nx < (Lx.toks l).toks.length
            · have hx := List.getElem?_eq_getElem hnl
              have hne := h _ hx
              obtain ⟨g, off, hva, hg, c3, -⟩ := Hcell.out nx _ hx wr ht
              exact .inl ⟨_, by omega, by rw [Bool.eq_false_iff]; intro e; apply hne; have : ((Lx.toks l).toks[nx].at_ : Int) = (q : Int) := by simpa using e
                                          omega, g, off, hva, hg, c3⟩
            · exact .inr (by omega)
          obtain ⟨_, hbl⟩ := hb
          have cB : ∀ w, Calls Tryz.prog 59 #[.int .u8 ((⟨l.toArray⟩ : ByteArray)[q]'(by simpa [ByteArray.size] using hlt)).toNat] w fun e w' => e = .returned (.bool true) ∧ w' = w := fun w => by
            have := rblank_any l[q] w
            rw [hbl] at this
            exact this
          have HS2 := Lib.hid hs2
          clear h hbl hs2
          generalize (Lx.toks l).toks.length = n at *
          rcases hway with ⟨t, hnl, hne, g, off, rfl, hg, c3⟩ | hnl
          · generalize t.at_ = ta at *
            go_wp2_with fail
            refine (cB _).mono ?_
            rintro e w5 ⟨rfl, rfl⟩
            go_wp2
            go_roundw
            case rel => exact ⟨nx, q + 1, done, by go_num, by go_num, HS2.out, hba, ht⟩
            case measure => simp [intOf]; omega
          · go_wp2_with fail
            refine (cB _).mono ?_
            rintro e w5 ⟨rfl, rfl⟩
            go_wp2
            go_roundw
            case rel => exact ⟨nx, q + 1, done, by go_num, by go_num, HS2.out, hba, ht⟩
            case measure => simp [intOf]; omega
        | comment n h hb h2 hcm hlz hs2 =>
          have hway : (∃ t : Lx.Tok, (nx : Int) < ((Lx.toks l).toks.length : Int) ∧ ((t.at_ : Int) == (q : Int)) = false ∧ ∃ g off, va = some ⟨g, off, none⟩ ∧ g < wr.heap.size ∧ wr.cell? ⟨g, off + nx * 5 + 3, none⟩ = some (.int .i64 t.at_)) ∨ ¬ (nx : Int) < ((Lx.toks l).toks.length : Int) := by
            by_cases hnl : nx < (Lx.toks l).toks.length
            · have hx := List.getElem?_eq_getElem hnl
              have hne := h _ hx
              obtain ⟨g, off, hva, hg, c3, -⟩ := Hcell.out nx _ hx wr ht
              exact .inl ⟨_, by omega, by rw [Bool.eq_false_iff]; intro e; apply hne; have : ((Lx.toks l).toks[nx].at_ : Int) = (q : Int) := by simpa using e
                                          omega, g, off, hva, hg, c3⟩
            · exact .inr (by omega)
          obtain ⟨_, hbl⟩ := hb
          have cB : ∀ w, Calls Tryz.prog 59 #[.int .u8 ((⟨l.toArray⟩ : ByteArray)[q]'(by simpa [ByteArray.size] using hlt)).toNat] w fun e w' => e = .returned (.bool false) ∧ w' = w := fun w => by
            have := rblank_any l[q] w
            rw [hbl] at this
            exact this
          have hcr : comR l q = ((q + (n + 2) : Nat) : Int) := by
            unfold comR
            rw [hcm]
            simp only
            congr 1
            omega
          have cC : ∀ w, Calls Tryz.prog 60 #[.string ⟨l.toArray⟩, .int .i64 q] w fun e w' => e = .returned (.int .i64 ((q + (n + 2) : Nat) : Int)) ∧ w' = w := fun w => by
            have := rcomment_any l q (by omega) h2 w
            rw [hcr] at this
            exact this
          have hstep : Lx.stripBy l (done ++ [(q, q + (n + 2))]) = Lx.blankOut (Lx.stripBy l done) q (q + (n + 2)) := Lx.stripBy_append l done _
          have hln : (Lx.stripBy l done).length = l.length := Lx.stripBy_len _ _
          have hself := Lx.blankOut_self (Lx.stripBy l done) q
          have hqz : q ≤ q + (n + 2) := Nat.le_add_right _ _
          have hqz2 : q < q + (n + 2) := by omega
          generalize Lx.stripBy l done = cur at *
          generalize q + (n + 2) = z at *
          have HS2 := Lib.hid hs2
          have Hstep := Lib.hid hstep
          have Hln := Lib.hid hln
          have Hself := Lib.hid hself
          clear h hbl hs2 hcr h2 hcm hstep hln hself
          generalize (Lx.toks l).toks.length = n at *
          rcases hway with ⟨t, hnl, hne, g, off, rfl, hg, c3⟩ | hnl
          · generalize t.at_ = ta at *
            go_wp2_with fail
            refine (cB _).mono ?_
            rintro e w5 ⟨rfl, rfl⟩
            go_wp2_with fail
            refine (cC _).mono ?_
            rintro e w6 ⟨rfl, rfl⟩
            go_wp2_with fail
            go_loopw [11] (fun i wv => ∃ m : Nat, q ≤ m ∧ m ≤ z ∧ i = .int .i64 m ∧ BytesAt wv H (Lx.blankOut cur q m) ∧ Turned W wv (fun j => j = H)) (fun i _ => z - (intOf i).toNat)
            case atStart => exact ⟨q, Nat.le_refl _, hqz, rfl, by rw [Hself.out]; exact hba, ht⟩
            case round =>
              obtain ⟨m, ham, hmz, rfl, hbm, htm⟩ := hrel
              by_cases hmlt : m < z
              · have hmi : (m : Int) < (z : Int) := by omega
                have hml : m < (Lx.blankOut cur q m).length := by rw [Lx.blankOut_len, Hln.out]; omega
                have hmll : (m : Int) < (l.length : Int) := by omega
                have x0 := hbm.cell m hml
                have xf := hbm.free m hml
                have hbs := Lx.blankOut_step cur q m ham (by rw [Hln.out]; omega)
                have lH := hbm.lt
                have hset := hbm.set m hml 32
                have tset : Turned W (wr.setCell ⟨H, m, none⟩ (.int .u8 (32 : UInt8).toNat)) (fun j => j = H) := htm.setCell (p := ⟨H, m, none⟩) (fun _ => rfl) _
                generalize (Lx.blankOut cur q m).getD m 0 = y at *
                by_cases h10 : y = 10
                · subst h10
                  rw [if_pos rfl] at hbs
                  have Hbs := Lib.hid hbs
                  clear hbs hset tset
                  go_wp2
                  go_roundw
                  case rel => exact ⟨m + 1, by omega, by omega, by go_num, by rw [Hbs.out]; exact hbm, htm⟩
                  case measure => simp [intOf]; omega
                · rw [if_neg h10] at hbs
                  have hy1 : ((y.toNat : Int) == 10) = false := by
                    rw [Bool.eq_false_iff]; intro e; apply h10; apply UInt8.toNat_inj.1; have e2 : (y.toNat : Int) = 10 := by simpa using e
                    show y.toNat = 10; omega
                  have hy2 : ((y.toNat : Int) != 10) = true := by simp only [bne, hy1, Bool.not_false]
                  have Hbs := Lib.hid hbs
                  have Hset := Lib.hid hset
                  have Tset := Lib.hid tset
                  clear hbs hset tset h10
                  go_wp2
                  go_roundw
                  case rel => exact ⟨m + 1, by omega, by omega, by go_num, by rw [Hbs.out]; exact Hset.out, Tset.out⟩
                  case measure => simp [intOf]; omega
              · obtain rfl : m = z := by omega
                have hmi : ¬ (m : Int) < (m : Int) := by omega
                go_wp2
                go_roundw
                case rel => exact ⟨nx, m, done ++ [(q, m)], by go_num, by go_num, HS2.out, by rw [Hstep.out]; exact hbm, htm⟩
                case measure => simp [intOf]; omega
          · go_wp2_with fail
            refine (cB _).mono ?_
            rintro e w5 ⟨rfl, rfl⟩
            go_wp2_with fail
            refine (cC _).mono ?_
            rintro e w6 ⟨rfl, rfl⟩
            go_wp2_with fail
            go_loopw [11] (fun i wv => ∃ m : Nat, q ≤ m ∧ m ≤ z ∧ i = .int .i64 m ∧ BytesAt wv H (Lx.blankOut cur q m) ∧ Turned W wv (fun j => j = H)) (fun i _ => z - (intOf i).toNat)
            case atStart => exact ⟨q, Nat.le_refl _, hqz, rfl, by rw [Hself.out]; exact hba, ht⟩
            case round =>
              obtain ⟨m, ham, hmz, rfl, hbm, htm⟩ := hrel
              by_cases hmlt : m < z
              · have hmi : (m : Int) < (z : Int) := by omega
                have hml : m < (Lx.blankOut cur q m).length := by rw [Lx.blankOut_len, Hln.out]; omega
                have hmll : (m : Int) < (l.length : Int) := by omega
                have x0 := hbm.cell m hml
                have xf := hbm.free m hml
                have hbs := Lx.blankOut_step cur q m ham (by rw [Hln.out]; omega)
                have lH := hbm.lt
                have hset := hbm.set m hml 32
                have tset : Turned W (wr.setCell ⟨H, m, none⟩ (.int .u8 (32 : UInt8).toNat)) (fun j => j = H) := htm.setCell (p := ⟨H, m, none⟩) (fun _ => rfl) _
                generalize (Lx.blankOut cur q m).getD m 0 = y at *
                by_cases h10 : y = 10
                · subst h10
                  rw [if_pos rfl] at hbs
                  have Hbs := Lib.hid hbs
                  clear hbs hset tset
                  go_wp2
                  go_roundw
                  case rel => exact ⟨m + 1, by omega, by omega, by go_num, by rw [Hbs.out]; exact hbm, htm⟩
                  case measure => simp [intOf]; omega
                · rw [if_neg h10] at hbs
                  have hy1 : ((y.toNat : Int) == 10) = false := by
                    rw [Bool.eq_false_iff]; intro e; apply h10; apply UInt8.toNat_inj.1; have e2 : (y.toNat : Int) = 10 := by simpa using e
                    show y.toNat = 10; omega
                  have hy2 : ((y.toNat : Int) != 10) = true := by simp only [bne, hy1, Bool.not_false]
                  have Hbs := Lib.hid hbs
                  have Hset := Lib.hid hset
                  have Tset := Lib.hid tset
                  clear hbs hset tset h10
                  go_wp2
                  go_roundw
                  case rel => exact ⟨m + 1, by omega, by omega, by go_num, by rw [Hbs.out]; exact Hset.out, Tset.out⟩
                  case measure => simp [intOf]; omega
              · obtain rfl : m = z := by omega
                have hmi : ¬ (m : Int) < (m : Int) := by omega
                go_wp2
                go_roundw
                case rel => exact ⟨nx, m, done ++ [(q, m)], by go_num, by go_num, HS2.out, by rw [Hstep.out]; exact hbm, htm⟩
                case measure => simp [intOf]; omega
      · obtain rfl : q = l.length := by omega
        have hfin := Lx.stripped_end hs
        have hln : (Lx.stripBy l done).length = l.length := Lx.stripBy_len _ _
        have htx := hba.text (cap := cap)
        rw [hln, hfin] at htx
        have tE := TW.out.trans ht (fun i hi e => by omega)
        clear hba hfin hln hs
        go_wp2
        go_ret2
        rw [Hv.out]
        exact ⟨rfl, tE⟩
end Go.Proofs.YtbcmjinifilamaaGreatDoor
namespace Go.Proofs.YtbcmjinifilamaaGreatDoor
open Go.RowKit

theorem below_drew {B : Nat} {w V : World} (h : Below B w V) : Below B w V.drew := ⟨h.os, h.tape, h.output, h.size, h.block⟩

theorem joinV_form (l : List ATok) : ∃ s e, joinV l = .tuple #[.string s, .int .i64 e] := by
  unfold joinV
  split
  · exact ⟨_, _, rfl⟩
  · split
    · exact ⟨_, _, rfl⟩
    · split
      · exact ⟨_, _, rfl⟩
      · exact ⟨_, _, rfl⟩

theorem placeV_form (l : Lx.Bytes) (z : Int) : ∃ a b c, placeV l z = .tuple #[.int .i64 a, .int .i64 b, .int .i64 c] := by
  unfold placeV
  split
  · exact ⟨_, _, _, rfl⟩
  · exact ⟨_, _, _, rfl⟩

theorem stripV_form (l : Lx.Bytes) : ∃ s e, stripV l = .tuple #[.string s, .int .i64 e] := by
  unfold stripV
  split
  · exact ⟨_, _, rfl⟩
  · split
    · exact ⟨_, _, rfl⟩
    · split
      · exact ⟨_, _, rfl⟩
      · exact ⟨_, _, rfl⟩

theorem sidesB_form (a b : ATok) : ∃ x e, sidesB a b = .tuple #[.bool x, .int .i64 e] := by
  unfold sidesB
  split
  · exact ⟨_, _, rfl⟩
  · exact ⟨_, _, rfl⟩

set_option maxRecDepth 100000 in
set_option maxHeartbeats 3200000 in
theorem lexJoins_any (w : World) (he : Env w) (h7 : 7 ≤ w.heap.size) (v : Value) (l : List ATok) (t : Lx.Bytes) (z : Int) (hv : RowOf w v l) (hw : ∀ t ∈ l, t.wide) (hs : ∀ t ∈ l, t.s.length ≤ 140737488351232) (hln : l.length ≤ 9223372036854775807)
    (htl : t.length ≤ 140737488351232) :
    Calls Tryz.prog 4 #[v, .string ⟨t.toArray⟩, .int .i64 z] w fun e w' => e = .returned (.bool true) ∧ Below w.heap.size w w' := by
  have H7 := Lib.hid h7
  have HLR : Hid (∀ s ∈ [t], s.length ≤ 140737488351232) := Lib.hid (by
    intro s hs
    rw [List.mem_singleton.1 hs]; exact htl)
  have hE : ∀ W, Below w.heap.size w W → Env W ∧ 7 ≤ W.heap.size := fun W hW => ⟨he.below hW h7, Nat.le_trans h7 hW.size⟩
  have hV : ∀ W, Below w.heap.size w W → RowOf W v l := fun W hW => hv.turned (Turned.ofBelow hW (D := fun _ => False) (fun k hk hle => by omega)) (fun _ _ _ _ hf => hf)
  have hFew := fun W (hW : Below w.heap.size w W) => few_any v l W (hV W hW) hs hln
  have HFew := Lib.hid hFew
  have hv2 := hv
  obtain ⟨va, vc, hve, -⟩ := hv2
  clear h7 hFew
  cases hfew : fewB l with
  | false =>
    have Hfew := Lib.hid hfew
    clear hfew hV hE hv hw hs
    subst hve
    go_enter Tryz.func4, Tryz.ntmps4
    go_wp2_with fail
    refine (sane_any w he H7.out).mono ?_
    rintro e w1 ⟨rfl, b1⟩
    go_wp2_with fail
    refine (HFew.out _ b1).mono ?_
    rintro e w2 ⟨rfl, t2⟩
    rw [Hfew.out]
    have b2 := b1.trans (t2.below (B := w.heap.size) b1.size (fun _ hf => hf.elim))
    go_wp2
    go_ret
    exact ⟨rfl, b2⟩
  | true =>
    have hl2 : l.length ≤ 2000 := by
      unfold fewB at hfew
      simp only [Bool.and_eq_true, decide_eq_true_eq] at hfew
      exact hfew.1
    have Hfew := Lib.hid hfew
    by_cases htl2 : t.length ≤ 20000
    · have hJ := fun W (hW : Below w.heap.size w W) => join_any W (hE W hW).1 (hE W hW).2 v l (hV W hW) hw (by omega)
      have hRJ := fun W (hW : Below w.heap.size w W) => rjoin_any W (hE W hW).1 (hE W hW).2 v l (hV W hW) hw (by omega)
      have hP := fun W => place_any W t (by omega) z
      have hRP := fun W => rplace_any W t (by omega) z
      have hS := fun W (hW : Below w.heap.size w W) => strip_any W (hE W hW).1 (hE W hW).2 t
      have hRS := fun W => rstrip_any t htl2 W
      have hA := fun (a b : ATok) (ha : a ∈ l) (hb : b ∈ l) W (hW : Below w.heap.size w W) => sides_any W (hE W hW).1 (hE W hW).2 a b (hw a ha) (hw b hb)
      have hRA := fun (a b : ATok) (ha : a ∈ l) (hb : b ∈ l) W (hW : Below w.heap.size w W) => rsides_any a b W (hE W hW).1 (hE W hW).2 (hw a ha) (hw b hb)
      obtain ⟨js, je, hjv⟩ := joinV_form l
      obtain ⟨pa, pb, pc, hpv⟩ := placeV_form t z
      obtain ⟨ss, se, hsv⟩ := stripV_form t
      rw [hjv] at hJ hRJ
      rw [hpv] at hP hRP
      rw [hsv] at hS hRS
      have HJ := Lib.hid hJ
      have HRJ := Lib.hid hRJ
      have HP := Lib.hid hP
      have HRP := Lib.hid hRP
      have HS := Lib.hid hS
      have HRS := Lib.hid hRS
      have HA := Lib.hid hA
      have HRA := Lib.hid hRA
      have HV := Lib.hid hV
      clear hfew hs hJ hRJ hP hRP hS hRS hA hRA hjv hpv hsv hV hE hv hw
      subst hve
      go_enter Tryz.func4, Tryz.ntmps4
      go_wp2_with fail
      refine (sane_any w he H7.out).mono ?_
      rintro e w1 ⟨rfl, b1⟩
      go_wp2_with fail
      refine (HFew.out _ b1).mono ?_
      rintro e w2 ⟨rfl, t2⟩
      rw [Hfew.out]
      have b2 := b1.trans (t2.below (B := w.heap.size) b1.size (fun _ hf => hf.elim))
      clear b1 t2
      go_wp2_with fail
      refine (shortK w _ b2 [t] 1 true rfl (by omega) HLR.out (by rw [sum1]; exact decide_eq_true htl2)).mono ?_
      rintro e w3 ⟨rfl, b3⟩
      clear b2
      go_wp2_with fail
      refine (HJ.out _ b3).mono ?_
      rintro e w4 ⟨rfl, c4⟩
      have b4 := b3.trans (c4.mono b3.size)
      clear b3 c4
      go_wp2_with fail
      refine (HRJ.out _ b4).mono ?_
      rintro e w5 ⟨rfl, t5⟩
      have b5 := b4.trans (t5.below (B := w.heap.size) b4.size (fun _ hf => hf.elim))
      clear b4 t5
      go_wp2_with fail
      refine (HP.out _).mono ?_
      rintro e w6 ⟨rfl, c6⟩
      have b6 := b5.trans (c6.mono b5.size)
      clear b5 c6
      go_wp2_with fail
      refine (HRP.out _).mono ?_
      rintro e w7 ⟨rfl, rfl⟩
      go_wp2_with fail
      refine (HS.out _ b6).mono ?_
      rintro e w8 ⟨rfl, c8⟩
      have b8 := b6.trans (c8.mono b6.size)
      clear b6 c8
      go_wp2_with fail
      refine (HRS.out _).mono ?_
      rintro e w9 ⟨rfl, t9⟩
      have b9 := b8.trans (t9.below (B := w.heap.size) b8.size (fun _ hf => hf.elim))
      clear b8 t9
      go_wp2_with fail
      have B9 := Lib.hid b9
      clear b9
      go_loopw [21] (fun i wr => ∃ k : Nat, k ≤ l.length ∧ k ≤ 100 ∧ i = .int .i64 k ∧ Below w.heap.size w wr) (fun i _ => l.length - (intOf i).toNat)
      case atStart => exact ⟨0, Nat.zero_le _, Nat.zero_le _, rfl, B9.out⟩
      case round =>
        obtain ⟨k, hk, hk100, rfl, hb⟩ := hrel
        by_cases hlt : k < l.length
        · have hki : (k : Int) < (l.length : Int) := by omega
          by_cases h100 : k < 100
          · have h100i : (k : Int) < 100 := by omega
            have hjl : k - 1 < l.length := by omega
            obtain ⟨g, off, rfl, lg, xc⟩ := rowA_at (HV.out _ (Below.refl _ _)) k hlt
            obtain ⟨g2, off2, hva, -, yc⟩ := rowA_at (HV.out _ (Below.refl _ _)) (k - 1) hjl
            simp only [Option.some.injEq, Addr.mk.injEq, and_true] at hva
            obtain ⟨rfl, rfl⟩ := hva
            have hAy := HA.out l[k - 1] l[k] (List.getElem_mem hjl) (List.getElem_mem hlt)
            have hRAy := HRA.out l[k - 1] l[k] (List.getElem_mem hjl) (List.getElem_mem hlt)
            obtain ⟨sx, sy, hsb⟩ := sidesB_form l[k - 1] l[k]
            rw [hsb] at hAy hRAy
            generalize l[k - 1] = y at *
            generalize l[k] = x at *
            have hs1 : IntKind.i64.wrap ((k : Int) - 1) = (k : Int) - 1 := IntWalk.i64_in _ (by omega)
            obtain ⟨j, hj⟩ : ∃ j, k - 1 = j := ⟨_, rfl⟩
            rw [hj] at yc
            have hmx : max ((k : Int) - 1) 0 = (j : Int) := by omega
            have hji : (j : Int) < (l.length : Int) := by omega
            have hjn : j < l.length := by omega
            obtain ⟨k1, n1, s1, a1, e1⟩ := x
            obtain ⟨k2, n2, s2, a2, e2⟩ := y
            have Xc := Lib.hid xc
            have Yc := Lib.hid yc
            unfold ATok.val at hAy hRAy
            simp only at hAy hRAy
            have Sof : ∀ w' : World, Below w.heap.size w w' → ((w'.cell? ⟨g, off + j * 5, none⟩ = some (.int .i64 k2) ∧ w'.cell? ⟨g, off + j * 5 + 1, none⟩ = some (.int .i64 n2) ∧ w'.cell? ⟨g, off + j * 5 + 2, none⟩ = some (.string ⟨s2.toArray⟩) ∧ w'.cell? ⟨g, off + j * 5 + 3, none⟩ = some (.int .i64 a2) ∧ w'.cell? ⟨g, off + j * 5 + 4, none⟩ = some (.int .i64 e2) ∧ w'.cell? ⟨g, off + k * 5, none⟩ = some (.int .i64 k1) ∧ w'.cell? ⟨g, off + k * 5 + 1, none⟩ = some (.int .i64 n1) ∧ w'.cell? ⟨g, off + k * 5 + 2, none⟩ = some (.string ⟨s1.toArray⟩) ∧ w'.cell? ⟨g, off + k * 5 + 3, none⟩ = some (.int .i64 a1) ∧ w'.cell? ⟨g, off + k * 5 + 4, none⟩ = some (.int .i64 e1)) ∧ Below w.heap.size w w') := by
              intro w' b
              have pa := fun (i : Nat) (u : Value) (hu : (ATok.cells ⟨k2, n2, s2, a2, e2⟩)[i]? = some u) => (b.cell (p := ⟨g, off + j * 5 + i, none⟩) lg).trans (Yc.out i u hu)
              have pb := fun (i : Nat) (u : Value) (hu : (ATok.cells ⟨k1, n1, s1, a1, e1⟩)[i]? = some u) => (b.cell (p := ⟨g, off + k * 5 + i, none⟩) lg).trans (Xc.out i u hu)
              exact ⟨⟨pa 0 _ rfl, pa 1 _ rfl, pa 2 _ rfl, pa 3 _ rfl, pa 4 _ rfl, pb 0 _ rfl, pb 1 _ rfl, pb 2 _ rfl, pb 3 _ rfl, pb 4 _ rfl⟩, b⟩
            have HSof := Lib.hid Sof
            have HAy := Lib.hid hAy
            have HRAy := Lib.hid hRAy
            have Hj := Lib.hid hj
            have lg' : g < wr.heap.size := Nat.lt_of_lt_of_le lg hb.size
            clear hAy hRAy hsb xc yc Sof hj
            go_wp2_with fail
            refine wp_region_held_drew (S := (fun w' => (w'.cell? ⟨g, off + j * 5, none⟩ = some (.int .i64 k2) ∧ w'.cell? ⟨g, off + j * 5 + 1, none⟩ = some (.int .i64 n2) ∧ w'.cell? ⟨g, off + j * 5 + 2, none⟩ = some (.string ⟨s2.toArray⟩) ∧ w'.cell? ⟨g, off + j * 5 + 3, none⟩ = some (.int .i64 a2) ∧ w'.cell? ⟨g, off + j * 5 + 4, none⟩ = some (.int .i64 e2) ∧ w'.cell? ⟨g, off + k * 5, none⟩ = some (.int .i64 k1) ∧ w'.cell? ⟨g, off + k * 5 + 1, none⟩ = some (.int .i64 n1) ∧ w'.cell? ⟨g, off + k * 5 + 2, none⟩ = some (.string ⟨s1.toArray⟩) ∧ w'.cell? ⟨g, off + k * 5 + 3, none⟩ = some (.int .i64 a1) ∧ w'.cell? ⟨g, off + k * 5 + 4, none⟩ = some (.int .i64 e1)) ∧ Below w.heap.size w w')) (by kernel_rfl) (HSof.out _ (below_drew hb)) (fun hHeld => ?_)
            refine wpAnyH_take (i := 0) (v := ?_) rfl (by kernel_rfl) (by kernel_rfl) (by kernel_rfl) (fun _ _ _ h => h) (Or.inl ⟨by rfl, ?_⟩) (by assumption) ?_
            rotate_left 1
            · (intro w hSw; (try dsimp only at hSw); first | (go_simp; done) | (go_simp; with_reducible rfl))
            simp only [List.getElem_toArray, List.getElem_cons_zero, Act.put, List.setIfInBounds_toArray, List.set_cons_zero, List.set_cons_succ]
            refine wpAnyH_take (i := 1) (v := ?_) rfl (by kernel_rfl) (by kernel_rfl) (by kernel_rfl) (fun _ _ _ h => h) (Or.inl ⟨by rfl, ?_⟩) (by assumption) ?_
            rotate_left 1
            · (intro w hSw; (try dsimp only at hSw); first | (go_simp; done) | (go_simp; with_reducible rfl))
            simp only [List.getElem_toArray, List.getElem_cons_zero, List.getElem_cons_succ, Act.put, List.setIfInBounds_toArray, List.set_cons_zero, List.set_cons_succ]
            refine wpAnyH_take (i := 2) (v := ?_) rfl (by kernel_rfl) (by kernel_rfl) (by kernel_rfl) (fun _ _ _ h => h) (Or.inl ⟨by rfl, ?_⟩) (by assumption) ?_
            rotate_left 1
            · (intro w hSw; (try dsimp only at hSw); first | (go_simp; done) | (go_simp; with_reducible rfl))
            simp only [List.getElem_toArray, List.getElem_cons_zero, List.getElem_cons_succ, Act.put, List.setIfInBounds_toArray, List.set_cons_zero, List.set_cons_succ]
            refine wpAnyH_take (i := 3) (v := ?_) rfl (by kernel_rfl) (by kernel_rfl) (by kernel_rfl) (fun _ _ _ h => h) (Or.inl ⟨by rfl, ?_⟩) (by assumption) ?_
            rotate_left 1
            · (intro w hSw; (try dsimp only at hSw); first | (go_simp; done) | (go_simp; with_reducible rfl))
            simp only [List.getElem_toArray, List.getElem_cons_zero, List.getElem_cons_succ, Act.put, List.setIfInBounds_toArray, List.set_cons_zero, List.set_cons_succ]
            refine wpAnyH_take (i := 4) (v := ?_) rfl (by kernel_rfl) (by kernel_rfl) (by kernel_rfl) (fun _ _ _ h => h) (Or.inl ⟨by rfl, ?_⟩) (by assumption) ?_
            rotate_left 1
            · (intro w hSw; (try dsimp only at hSw); first | (go_simp; done) | (go_simp; with_reducible rfl))
            simp only [List.getElem_toArray, List.getElem_cons_zero, List.getElem_cons_succ, Act.put, List.setIfInBounds_toArray, List.set_cons_zero, List.set_cons_succ]
            refine wpAnyH_take (i := 5) (v := ?_) rfl (by kernel_rfl) (by kernel_rfl) (by kernel_rfl) (fun _ _ _ h => h) (Or.inl ⟨by rfl, ?_⟩) (by assumption) ?_
            rotate_left 1
            · (intro w hSw; (try dsimp only at hSw); first | (go_simp; done) | (go_simp; with_reducible rfl))
            simp only [List.getElem_toArray, List.getElem_cons_zero, List.getElem_cons_succ, Act.put, List.setIfInBounds_toArray, List.set_cons_zero, List.set_cons_succ]
            refine wpAnyH_take (i := 6) (v := ?_) rfl (by kernel_rfl) (by kernel_rfl) (by kernel_rfl) (fun _ _ _ h => h) (Or.inl ⟨by rfl, ?_⟩) (by assumption) ?_
            rotate_left 1
            · (intro w hSw; (try dsimp only at hSw); first | (go_simp; done) | (go_simp; with_reducible rfl))
            simp only [List.getElem_toArray, List.getElem_cons_zero, List.getElem_cons_succ, Act.put, List.setIfInBounds_toArray, List.set_cons_zero, List.set_cons_succ]
            refine wpAnyH_take (i := 7) (v := ?_) rfl (by kernel_rfl) (by kernel_rfl) (by kernel_rfl) (fun _ _ _ h => h) (Or.inl ⟨by rfl, ?_⟩) (by assumption) ?_
            rotate_left 1
            · (intro w hSw; (try dsimp only at hSw); first | (go_simp; done) | (go_simp; with_reducible rfl))
            simp only [List.getElem_toArray, List.getElem_cons_zero, List.getElem_cons_succ, Act.put, List.setIfInBounds_toArray, List.set_cons_zero, List.set_cons_succ]
            refine wpAnyH_take (i := 8) (v := ?_) rfl (by kernel_rfl) (by kernel_rfl) (by kernel_rfl) (fun _ _ _ h => h) (Or.inl ⟨by rfl, ?_⟩) (by assumption) ?_
            rotate_left 1
            · (intro w hSw; (try dsimp only at hSw); first | (go_simp; done) | (go_simp; with_reducible rfl))
            simp only [List.getElem_toArray, List.getElem_cons_zero, List.getElem_cons_succ, Act.put, List.setIfInBounds_toArray, List.set_cons_zero, List.set_cons_succ]
            refine wpAnyH_take (i := 9) (v := ?_) rfl (by kernel_rfl) (by kernel_rfl) (by kernel_rfl) (fun _ _ _ h => h) (Or.inl ⟨by rfl, ?_⟩) (by assumption) ?_
            rotate_left 1
            · (intro w hSw; (try dsimp only at hSw); first | (go_simp; done) | (go_simp; with_reducible rfl))
            simp only [List.getElem_toArray, List.getElem_cons_zero, List.getElem_cons_succ, Act.put, List.setIfInBounds_toArray, List.set_cons_zero, List.set_cons_succ]
            refine wpAnyH_ready (rs := [10]) (by kernel_rfl) (by simp) ?_
            refine AllReadyH.cons rfl (fun K hK => ?_) AllReadyH.nil
            go_simp
            go_at_call 29
            refine (HAy.out _ (below_drew hb)).mono ?_
            rintro e10 w10 ⟨rfl, c10⟩
            have b10 := (below_drew hb).trans (c10.mono (below_drew hb).size)
            go_wp2_with fail
            refine hK.out _ _ (HSof.out _ b10) (fun hHeld2 => ?_)
            clear hK K hHeld
            refine wpAnyH_take (i := 11) (v := ?_) rfl (by kernel_rfl) (by kernel_rfl) (by kernel_rfl) (fun _ _ _ h => h) (Or.inl ⟨by rfl, ?_⟩) (by assumption) ?_
            rotate_left 1
            · (intro w hSw; (try dsimp only at hSw); first | (go_simp; done) | (go_simp; with_reducible rfl))
            simp only [List.getElem_toArray, List.getElem_cons_zero, List.getElem_cons_succ, Act.put, List.setIfInBounds_toArray, List.set_cons_zero, List.set_cons_succ]
            refine wpAnyH_take (i := 12) (v := ?_) rfl (by kernel_rfl) (by kernel_rfl) (by kernel_rfl) (fun _ _ _ h => h) (Or.inl ⟨by rfl, ?_⟩) (by assumption) ?_
            rotate_left 1
            · (intro w hSw; (try dsimp only at hSw); first | (go_simp; done) | (go_simp; with_reducible rfl))
            simp only [List.getElem_toArray, List.getElem_cons_zero, List.getElem_cons_succ, Act.put, List.setIfInBounds_toArray, List.set_cons_zero, List.set_cons_succ]
            refine wpAnyH_take (i := 13) (v := ?_) rfl (by kernel_rfl) (by kernel_rfl) (by kernel_rfl) (fun _ _ _ h => h) (Or.inl ⟨by rfl, ?_⟩) (by assumption) ?_
            rotate_left 1
            · (intro w hSw; (try dsimp only at hSw); first | (go_simp; done) | (go_simp; with_reducible rfl))
            simp only [List.getElem_toArray, List.getElem_cons_zero, List.getElem_cons_succ, Act.put, List.setIfInBounds_toArray, List.set_cons_zero, List.set_cons_succ]
            refine wpAnyH_take (i := 14) (v := ?_) rfl (by kernel_rfl) (by kernel_rfl) (by kernel_rfl) (fun _ _ _ h => h) (Or.inl ⟨by rfl, ?_⟩) (by assumption) ?_
            rotate_left 1
            · (intro w hSw; (try dsimp only at hSw); first | (go_simp; done) | (go_simp; with_reducible rfl))
            simp only [List.getElem_toArray, List.getElem_cons_zero, List.getElem_cons_succ, Act.put, List.setIfInBounds_toArray, List.set_cons_zero, List.set_cons_succ]
            refine wpAnyH_take (i := 15) (v := ?_) rfl (by kernel_rfl) (by kernel_rfl) (by kernel_rfl) (fun _ _ _ h => h) (Or.inl ⟨by rfl, ?_⟩) (by assumption) ?_
            rotate_left 1
            · (intro w hSw; (try dsimp only at hSw); first | (go_simp; done) | (go_simp; with_reducible rfl))
            simp only [List.getElem_toArray, List.getElem_cons_zero, List.getElem_cons_succ, Act.put, List.setIfInBounds_toArray, List.set_cons_zero, List.set_cons_succ]
            refine wpAnyH_done (by kernel_rfl) ?_ _
            clear hHeld2
            go_wp2_with fail
            have lg10 : g < w10.heap.size := Nat.lt_of_lt_of_le lg b10.size
            refine wp_region_held_drew (S := (fun w' => (w'.cell? ⟨g, off + j * 5, none⟩ = some (.int .i64 k2) ∧ w'.cell? ⟨g, off + j * 5 + 1, none⟩ = some (.int .i64 n2) ∧ w'.cell? ⟨g, off + j * 5 + 2, none⟩ = some (.string ⟨s2.toArray⟩) ∧ w'.cell? ⟨g, off + j * 5 + 3, none⟩ = some (.int .i64 a2) ∧ w'.cell? ⟨g, off + j * 5 + 4, none⟩ = some (.int .i64 e2) ∧ w'.cell? ⟨g, off + k * 5, none⟩ = some (.int .i64 k1) ∧ w'.cell? ⟨g, off + k * 5 + 1, none⟩ = some (.int .i64 n1) ∧ w'.cell? ⟨g, off + k * 5 + 2, none⟩ = some (.string ⟨s1.toArray⟩) ∧ w'.cell? ⟨g, off + k * 5 + 3, none⟩ = some (.int .i64 a1) ∧ w'.cell? ⟨g, off + k * 5 + 4, none⟩ = some (.int .i64 e1)) ∧ Below w.heap.size w w')) (by kernel_rfl) (HSof.out _ (below_drew b10)) (fun hHeld => ?_)
            refine wpAnyH_take (i := 0) (v := ?_) rfl (by kernel_rfl) (by kernel_rfl) (by kernel_rfl) (fun _ _ _ h => h) (Or.inl ⟨by rfl, ?_⟩) (by assumption) ?_
            rotate_left 1
            · (intro w hSw; (try dsimp only at hSw); first | (go_simp; done) | (go_simp; with_reducible rfl))
            simp only [List.getElem_toArray, List.getElem_cons_zero, Act.put, List.setIfInBounds_toArray, List.set_cons_zero, List.set_cons_succ]
            refine wpAnyH_take (i := 1) (v := ?_) rfl (by kernel_rfl) (by kernel_rfl) (by kernel_rfl) (fun _ _ _ h => h) (Or.inl ⟨by rfl, ?_⟩) (by assumption) ?_
            rotate_left 1
            · (intro w hSw; (try dsimp only at hSw); first | (go_simp; done) | (go_simp; with_reducible rfl))
            simp only [List.getElem_toArray, List.getElem_cons_zero, List.getElem_cons_succ, Act.put, List.setIfInBounds_toArray, List.set_cons_zero, List.set_cons_succ]
            refine wpAnyH_take (i := 2) (v := ?_) rfl (by kernel_rfl) (by kernel_rfl) (by kernel_rfl) (fun _ _ _ h => h) (Or.inl ⟨by rfl, ?_⟩) (by assumption) ?_
            rotate_left 1
            · (intro w hSw; (try dsimp only at hSw); first | (go_simp; done) | (go_simp; with_reducible rfl))
            simp only [List.getElem_toArray, List.getElem_cons_zero, List.getElem_cons_succ, Act.put, List.setIfInBounds_toArray, List.set_cons_zero, List.set_cons_succ]
            refine wpAnyH_take (i := 3) (v := ?_) rfl (by kernel_rfl) (by kernel_rfl) (by kernel_rfl) (fun _ _ _ h => h) (Or.inl ⟨by rfl, ?_⟩) (by assumption) ?_
            rotate_left 1
            · (intro w hSw; (try dsimp only at hSw); first | (go_simp; done) | (go_simp; with_reducible rfl))
            simp only [List.getElem_toArray, List.getElem_cons_zero, List.getElem_cons_succ, Act.put, List.setIfInBounds_toArray, List.set_cons_zero, List.set_cons_succ]
            refine wpAnyH_take (i := 4) (v := ?_) rfl (by kernel_rfl) (by kernel_rfl) (by kernel_rfl) (fun _ _ _ h => h) (Or.inl ⟨by rfl, ?_⟩) (by assumption) ?_
            rotate_left 1
            · (intro w hSw; (try dsimp only at hSw); first | (go_simp; done) | (go_simp; with_reducible rfl))
            simp only [List.getElem_toArray, List.getElem_cons_zero, List.getElem_cons_succ, Act.put, List.setIfInBounds_toArray, List.set_cons_zero, List.set_cons_succ]
            refine wpAnyH_take (i := 5) (v := ?_) rfl (by kernel_rfl) (by kernel_rfl) (by kernel_rfl) (fun _ _ _ h => h) (Or.inl ⟨by rfl, ?_⟩) (by assumption) ?_
            rotate_left 1
            · (intro w hSw; (try dsimp only at hSw); first | (go_simp; done) | (go_simp; with_reducible rfl))
            simp only [List.getElem_toArray, List.getElem_cons_zero, List.getElem_cons_succ, Act.put, List.setIfInBounds_toArray, List.set_cons_zero, List.set_cons_succ]
            refine wpAnyH_take (i := 6) (v := ?_) rfl (by kernel_rfl) (by kernel_rfl) (by kernel_rfl) (fun _ _ _ h => h) (Or.inl ⟨by rfl, ?_⟩) (by assumption) ?_
            rotate_left 1
            · (intro w hSw; (try dsimp only at hSw); first | (go_simp; done) | (go_simp; with_reducible rfl))
            simp only [List.getElem_toArray, List.getElem_cons_zero, List.getElem_cons_succ, Act.put, List.setIfInBounds_toArray, List.set_cons_zero, List.set_cons_succ]
            refine wpAnyH_take (i := 7) (v := ?_) rfl (by kernel_rfl) (by kernel_rfl) (by kernel_rfl) (fun _ _ _ h => h) (Or.inl ⟨by rfl, ?_⟩) (by assumption) ?_
            rotate_left 1
            · (intro w hSw; (try dsimp only at hSw); first | (go_simp; done) | (go_simp; with_reducible rfl))
            simp only [List.getElem_toArray, List.getElem_cons_zero, List.getElem_cons_succ, Act.put, List.setIfInBounds_toArray, List.set_cons_zero, List.set_cons_succ]
            refine wpAnyH_take (i := 8) (v := ?_) rfl (by kernel_rfl) (by kernel_rfl) (by kernel_rfl) (fun _ _ _ h => h) (Or.inl ⟨by rfl, ?_⟩) (by assumption) ?_
            rotate_left 1
            · (intro w hSw; (try dsimp only at hSw); first | (go_simp; done) | (go_simp; with_reducible rfl))
            simp only [List.getElem_toArray, List.getElem_cons_zero, List.getElem_cons_succ, Act.put, List.setIfInBounds_toArray, List.set_cons_zero, List.set_cons_succ]
            refine wpAnyH_take (i := 9) (v := ?_) rfl (by kernel_rfl) (by kernel_rfl) (by kernel_rfl) (fun _ _ _ h => h) (Or.inl ⟨by rfl, ?_⟩) (by assumption) ?_
            rotate_left 1
            · (intro w hSw; (try dsimp only at hSw); first | (go_simp; done) | (go_simp; with_reducible rfl))
            simp only [List.getElem_toArray, List.getElem_cons_zero, List.getElem_cons_succ, Act.put, List.setIfInBounds_toArray, List.set_cons_zero, List.set_cons_succ]
            refine wpAnyH_ready (rs := [10]) (by kernel_rfl) (by simp) ?_
            refine AllReadyH.cons rfl (fun K hK => ?_) AllReadyH.nil
            go_simp
            go_at_call 30
            refine (HRAy.out _ (below_drew b10)).mono ?_
            rintro e11 w11 ⟨rfl, t11⟩
            have b11 := (below_drew b10).trans (t11.below (B := w.heap.size) (below_drew b10).size (fun _ hf => hf.elim))
            go_wp2_with fail
            refine hK.out _ _ (HSof.out _ b11) (fun hHeld2 => ?_)
            clear hK K hHeld
            refine wpAnyH_take (i := 11) (v := ?_) rfl (by kernel_rfl) (by kernel_rfl) (by kernel_rfl) (fun _ _ _ h => h) (Or.inl ⟨by rfl, ?_⟩) (by assumption) ?_
            rotate_left 1
            · (intro w hSw; (try dsimp only at hSw); first | (go_simp; done) | (go_simp; with_reducible rfl))
            simp only [List.getElem_toArray, List.getElem_cons_zero, List.getElem_cons_succ, Act.put, List.setIfInBounds_toArray, List.set_cons_zero, List.set_cons_succ]
            refine wpAnyH_take (i := 12) (v := ?_) rfl (by kernel_rfl) (by kernel_rfl) (by kernel_rfl) (fun _ _ _ h => h) (Or.inl ⟨by rfl, ?_⟩) (by assumption) ?_
            rotate_left 1
            · (intro w hSw; (try dsimp only at hSw); first | (go_simp; done) | (go_simp; with_reducible rfl))
            simp only [List.getElem_toArray, List.getElem_cons_zero, List.getElem_cons_succ, Act.put, List.setIfInBounds_toArray, List.set_cons_zero, List.set_cons_succ]
            refine wpAnyH_take (i := 13) (v := ?_) rfl (by kernel_rfl) (by kernel_rfl) (by kernel_rfl) (fun _ _ _ h => h) (Or.inl ⟨by rfl, ?_⟩) (by assumption) ?_
            rotate_left 1
            · (intro w hSw; (try dsimp only at hSw); first | (go_simp; done) | (go_simp; with_reducible rfl))
            simp only [List.getElem_toArray, List.getElem_cons_zero, List.getElem_cons_succ, Act.put, List.setIfInBounds_toArray, List.set_cons_zero, List.set_cons_succ]
            refine wpAnyH_take (i := 14) (v := ?_) rfl (by kernel_rfl) (by kernel_rfl) (by kernel_rfl) (fun _ _ _ h => h) (Or.inl ⟨by rfl, ?_⟩) (by assumption) ?_
            rotate_left 1
            · (intro w hSw; (try dsimp only at hSw); first | (go_simp; done) | (go_simp; with_reducible rfl))
            simp only [List.getElem_toArray, List.getElem_cons_zero, List.getElem_cons_succ, Act.put, List.setIfInBounds_toArray, List.set_cons_zero, List.set_cons_succ]
            refine wpAnyH_take (i := 15) (v := ?_) rfl (by kernel_rfl) (by kernel_rfl) (by kernel_rfl) (fun _ _ _ h => h) (Or.inl ⟨by rfl, ?_⟩) (by assumption) ?_
            rotate_left 1
            · (intro w hSw; (try dsimp only at hSw); first | (go_simp; done) | (go_simp; with_reducible rfl))
            simp only [List.getElem_toArray, List.getElem_cons_zero, List.getElem_cons_succ, Act.put, List.setIfInBounds_toArray, List.set_cons_zero, List.set_cons_succ]
            refine wpAnyH_done (by kernel_rfl) ?_ _
            clear hHeld2
            go_wp2_with fail
            clear hs1 hmx hji
            go_wp2
            go_roundw
            case rel => exact ⟨k + 1, by omega, by omega, by go_num, b11⟩
            case measure => simp [intOf]; omega
          · have h100i : ¬ (k : Int) < 100 := by omega
            go_wp2
            go_ret
            exact ⟨rfl, hb⟩
        · have hki : ¬ (k : Int) < (l.length : Int) := by omega
          go_wp2
          go_ret
          exact ⟨rfl, hb⟩
    · clear hV hE hv hw hs hfew
      subst hve
      go_enter Tryz.func4, Tryz.ntmps4
      go_wp2_with fail
      refine (sane_any w he H7.out).mono ?_
      rintro e w1 ⟨rfl, b1⟩
      go_wp2_with fail
      refine (HFew.out _ b1).mono ?_
      rintro e w2 ⟨rfl, t2⟩
      rw [Hfew.out]
      have b2 := b1.trans (t2.below (B := w.heap.size) b1.size (fun _ hf => hf.elim))
      clear b1 t2
      go_wp2_with fail
      refine (shortK w _ b2 [t] 1 false rfl (by omega) HLR.out (by rw [sum1]; exact decide_eq_false htl2)).mono ?_
      rintro e w3 ⟨rfl, b3⟩
      go_wp2
      go_ret
      exact ⟨rfl, b3⟩
end Go.Proofs.YtbcmjinifilamaaGreatDoor
