/- Which two tokens can stand side by side. -/
import Derived.Test.YtinogdeolnldhaaDoorRight
namespace Go.Proofs.YtinogdeolnldhaaDoor
open Go.RowKit

/-- A row of two tokens in a block from H on. -/
def Row2 (H : Nat) (a b : ATok) (w : World) (v : Value) : Prop := RowOf w v [a, b] ∧ ∀ x n c, v = .slice (some x) n c → H ≤ x.block

theorem Row2.turned {H : Nat} {a b : ATok} {w w' : World} {v : Value} (h : Row2 H a b w v) (t : Turned w w' (fun _ => False)) : Row2 H a b w' v := ⟨h.1.turned t (fun _ _ _ _ hf => hf), h.2⟩
theorem row2_mk {H : Nat} {a b : ATok} (W : World) (h : H ≤ W.heap.size) : Row2 H a b (W.alloc (.cells #[.int .i64 a.kind, .int .i64 a.n, .string ⟨a.s.toArray⟩, .int .i64 a.at_, .int .i64 a.end_, .int .i64 b.kind, .int .i64 b.n, .string ⟨b.s.toArray⟩, .int .i64 b.at_, .int .i64 b.end_] 48)) (.slice (some ⟨W.heap.size, 0, none⟩) 2 2) :=
  ⟨row_two W a b, fun x n c e => by simp only [Value.slice.injEq, Option.some.injEq] at e; rw [← e.1]; exact h⟩
theorem row2_mk_drew {H : Nat} {a b : ATok} (W : World) (h : H ≤ W.heap.size) : Row2 H a b (W.alloc (.cells #[.int .i64 a.kind, .int .i64 a.n, .string ⟨a.s.toArray⟩, .int .i64 a.at_, .int .i64 a.end_, .int .i64 b.kind, .int .i64 b.n, .string ⟨b.s.toArray⟩, .int .i64 b.at_, .int .i64 b.end_] 48)).drew (.slice (some ⟨W.heap.size, 0, none⟩) 2 2) :=
  (row2_mk W h).turned (Turned.refl _ _).drew

theorem cutInto2 {B H : Nat} {w V : World} {S : Scn} {a b : ATok} {v : Value} (h : Scan B w S) (hH : w.heap.size = H) (t : Turned w V (fun _ => False)) (l : Lx.Bytes) (hl : l.length ≤ 100000) (row : Row2 H a b V v) :
    Calls Tryd.prog 68 #[.pointer (some ⟨S.sb, 0, none⟩), .string ⟨l.toArray⟩, v] V fun e w' => e = .returned (.bool (cutsInto l [a, b])) ∧ Still B w S w' ∧ Turned V w' S.own :=
  (isCutInto_any B V S (h.turned t (fun _ _ hf => hf)) l hl v [a, b] row.1 (fun x n c e hk => by have := row.2 x n c e; have := h.own_lt hk; omega) (by simp)).mono fun e w' ⟨he, S2, h1, h2, h3⟩ =>
    ⟨he, ⟨S2, h1, h2, ⟨(t.mono (fun _ _ hf => hf.elim)).trans h3.turned (fun _ _ hk => hk), fun k hk ho => h3.own k (Nat.lt_of_lt_of_le hk t.size) ho⟩⟩, h3.turned⟩

set_option maxRecDepth 100000 in
set_option maxHeartbeats 1600000 in
theorem apart_any (B : Nat) (w : World) (S : Scn) (h : Scan B w S) (he : Env w) (h7 : 7 ≤ B) (a b : ATok) (ha : a.wide) (hb : b.wide) (hl1 : (spell a).length ≤ 32) (hl2 : (spell b).length ≤ 32) :
    Calls Tryd.prog 43 #[.pointer (some ⟨S.sb, 0, none⟩), a.val, b.val] w fun e w' => e = .returned (.bool (apartB a b)) ∧ Still B w S w' := by
  have h8 : 7 ≤ w.heap.size := by have := h.lt; have := h.hB; omega
  have hE : ∀ W, Turned w W S.own → Env W ∧ 7 ≤ W.heap.size := fun W hW => ⟨he.turned hW h8 (fun k hk => Nat.le_trans h7 (h.own_tag hk).1), Nat.le_trans h8 hW.size⟩
  have HE := Lib.hid hE
  obtain ⟨k1, n1, s1, a1, e1⟩ := a
  obtain ⟨k2, n2, s2, a2, e2⟩ := b
  have hL : (spell ⟨k1, n1, s1, a1, e1⟩ ++ spell ⟨k2, n2, s2, a2, e2⟩).length ≤ 100000 := by rw [List.length_append]; omega
  have HL := Lib.hid hL
  clear hL
  have hadd := fun (w : World) => run_string_add_lists (P := Tryd.prog) w (spell ⟨k1, n1, s1, a1, e1⟩) (spell ⟨k2, n2, s2, a2, e2⟩) (by omega) (by omega)
  have Ha := Lib.hid ha
  have Hb := Lib.hid hb
  clear hE he ha hb h8
  unfold ATok.val
  go_enter Tryd.func43, Tryd.ntmps43
  go_wp2_with fail
  have hA : Turned w ((w.alloc (.cells #[.int .i64 k1, .int .i64 n1, .string ⟨s1.toArray⟩, .int .i64 a1, .int .i64 e1] 48)).alloc (.cells #[.int .i64 k2, .int .i64 n2, .string ⟨s2.toArray⟩, .int .i64 a2, .int .i64 e2] 48)) (fun _ => False) := ((Turned.refl w _).alloc _).alloc _
  have zA : (w.alloc (.cells #[.int .i64 k1, .int .i64 n1, .string ⟨s1.toArray⟩, .int .i64 a1, .int .i64 e1] 48)).heap.size = w.heap.size + 1 := by simp
  have kA : ((w.alloc (.cells #[.int .i64 k1, .int .i64 n1, .string ⟨s1.toArray⟩, .int .i64 a1, .int .i64 e1] 48)).alloc (.cells #[.int .i64 k2, .int .i64 n2, .string ⟨s2.toArray⟩, .int .i64 a2, .int .i64 e2] 48)).heap[w.heap.size]? = some (.cells #[.int .i64 k1, .int .i64 n1, .string ⟨s1.toArray⟩, .int .i64 a1, .int .i64 e1] 48 (0, 0)) :=
    (Below.heap_alloc _ _ _ (by omega)).trans (heap_alloc_new w _)
  have kB : ((w.alloc (.cells #[.int .i64 k1, .int .i64 n1, .string ⟨s1.toArray⟩, .int .i64 a1, .int .i64 e1] 48)).alloc (.cells #[.int .i64 k2, .int .i64 n2, .string ⟨s2.toArray⟩, .int .i64 a2, .int .i64 e2] 48)).heap[w.heap.size + 1]? = some (.cells #[.int .i64 k2, .int .i64 n2, .string ⟨s2.toArray⟩, .int .i64 a2, .int .i64 e2] 48 (0, 0)) := by
    rw [← zA]; exact heap_alloc_new _ _
  generalize (w.alloc (.cells #[.int .i64 k1, .int .i64 n1, .string ⟨s1.toArray⟩, .int .i64 a1, .int .i64 e1] 48)).alloc (.cells #[.int .i64 k2, .int .i64 n2, .string ⟨s2.toArray⟩, .int .i64 a2, .int .i64 e2] 48) = W at *
  clear zA
  have lA := lt_of_block kA
  have lB := lt_of_block kB
  generalize hHe : w.heap.size = H at *
  have HH := Lib.hid hHe
  clear hHe
  have hA1 : Turned w W S.own := hA.mono (fun _ _ hf => hf.elim)
  have hz : H ≤ W.heap.size := Nat.le_of_lt lA
  have tt : Turned W W.drew (fun _ => False) := (Turned.refl W _).drew
  have nH : ¬ S.own H := fun hk => by have := h.own_lt hk; have := HH.out; omega
  have nH1 : ¬ S.own (H + 1) := fun hk => by have := h.own_lt hk; have := HH.out; omega
  have Sof : ∀ w' : World, Turned W w' S.own → (w'.cell? ⟨H, 0, none⟩ = some (.int .i64 k1) ∧ w'.cell? ⟨H, 1, none⟩ = some (.int .i64 n1) ∧ w'.cell? ⟨H, 2, none⟩ = some (.string ⟨s1.toArray⟩) ∧ w'.cell? ⟨H, 3, none⟩ = some (.int .i64 a1) ∧ w'.cell? ⟨H, 4, none⟩ = some (.int .i64 e1) ∧
      w'.cell? ⟨H + 1, 0, none⟩ = some (.int .i64 k2) ∧ w'.cell? ⟨H + 1, 1, none⟩ = some (.int .i64 n2) ∧ w'.cell? ⟨H + 1, 2, none⟩ = some (.string ⟨s2.toArray⟩) ∧ w'.cell? ⟨H + 1, 3, none⟩ = some (.int .i64 a2) ∧ w'.cell? ⟨H + 1, 4, none⟩ = some (.int .i64 e2) ∧ Turned W w' S.own) := by
    intro w' t
    have k1 := (t.block H lA nH).trans kA
    have k2 := (t.block (H + 1) lB nH1).trans kB
    refine ⟨?_, ?_, ?_, ?_, ?_, ?_, ?_, ?_, ?_, ?_, t⟩ <;> simp [World.cell?, k1, k2]
  have HSof := Lib.hid Sof
  have HkA := Lib.hid kA
  have HkB := Lib.hid kB
  have hR : apartB ⟨k1, n1, s1, a1, e1⟩ ⟨k2, n2, s2, a2, e2⟩ = cutsInto (spell ⟨k1, n1, s1, a1, e1⟩ ++ spell ⟨k2, n2, s2, a2, e2⟩) [⟨k1, n1, s1, a1, e1⟩, ⟨k2, n2, s2, a2, e2⟩] := rfl
  have HR := Lib.hid hR
  obtain ⟨p0, p1, p2, p3, p4, q0, q1, q2, q3, q4, _⟩ := Sof W (Turned.refl _ _)
  clear hR Sof kA kB
  go_region_held3 (fun w' => w'.cell? ⟨H, 0, none⟩ = some (.int .i64 k1) ∧ w'.cell? ⟨H, 1, none⟩ = some (.int .i64 n1) ∧ w'.cell? ⟨H, 2, none⟩ = some (.string ⟨s1.toArray⟩) ∧ w'.cell? ⟨H, 3, none⟩ = some (.int .i64 a1) ∧ w'.cell? ⟨H, 4, none⟩ = some (.int .i64 e1) ∧
      w'.cell? ⟨H + 1, 0, none⟩ = some (.int .i64 k2) ∧ w'.cell? ⟨H + 1, 1, none⟩ = some (.int .i64 n2) ∧ w'.cell? ⟨H + 1, 2, none⟩ = some (.string ⟨s2.toArray⟩) ∧ w'.cell? ⟨H + 1, 3, none⟩ = some (.int .i64 a2) ∧ w'.cell? ⟨H + 1, 4, none⟩ = some (.int .i64 e2) ∧ Turned W w' S.own)
    ((go_split_ands; first | exact HSof.out _ (by assumption) | exact HSof.out _ (Turned.drew (by assumption)) | exact HSof.out _ (Turned.alloc (by assumption) _) | exact HSof.out _ (Turned.trans (by assumption) tfin (fun _ _ hf => hf)) | exact HSof.out _ (Turned.trans (by assumption) t1 (fun _ _ hf => hf.elim))))
    (first
      | (go_at_call 46; go_split_ands; refine (spelling_any ⟨_, _, _, _, _⟩ _ (HE.out _ (Turned.trans hA1 (by assumption) (fun _ _ hf => hf))).1 (HE.out _ (Turned.trans hA1 (by assumption) (fun _ _ hf => hf))).2 (by first | exact Ha.out | exact Hb.out)).mono ?_; rintro e w1 ⟨rfl, t1⟩; (first | (replace row := Row2.turned row t1) | (have row := Row2.turned (row2_mk_drew (a := ⟨k1, n1, s1, a1, e1⟩) (b := ⟨k2, n2, s2, a2, e2⟩) W hz) t1) | (have row := Row2.turned (row2_mk (a := ⟨k1, n1, s1, a1, e1⟩) (b := ⟨k2, n2, s2, a2, e2⟩) _ (Nat.le_trans hz tt.size)) t1) | skip); (first | (replace tt := Turned.trans tt t1 (fun _ _ hf => hf)) | (replace tt := Turned.trans (Turned.alloc tt _) t1 (fun _ _ hf => hf))))
      | (go_at_call 68; (first | (with_reducible refine (cutInto2 h HH.out (hA.trans tt (fun _ _ hf => hf)) _ HL.out row).mono ?_) | (refine (cutInto2 h HH.out (hA.trans (Turned.alloc tt _) (fun _ _ hf => hf)) _ HL.out (row2_mk (a := ⟨k1, n1, s1, a1, e1⟩) (b := ⟨k2, n2, s2, a2, e2⟩) _ (Nat.le_trans hz tt.size))).mono ?_)); rintro e w3 ⟨rfl, hst, tfin⟩))
  all_goals (go_wp2; go_ret; exact ⟨by rw [HR.out]; first | rfl | simp, hst⟩)
end Go.Proofs.YtinogdeolnldhaaDoor
