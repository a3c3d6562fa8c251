/- What holds between the calls of Join. -/
import Derived.Test.YtinogdeolnldhaaDoorKeep
namespace Go.Proofs.YtinogdeolnldhaaDoor
open Go.RowKit

/-- A builder that holds bs, beside a scanner. -/
def JS (B bb sb : Nat) (w : World) (bs : Lx.Bytes) (W : World) : Prop :=
  Lib.IsBuilderF 75 5 B bb (Lib.byteCells bs) W ∧ (∃ S', S'.sb = sb ∧ Scan B W S') ∧ Below B w W

theorem builderF_tag {T e : TypeId} {B b : Nat} {bs : List Value} {w : World} (h : Lib.IsBuilderF T e B b bs w) : ∃ c, w.heap[b]? = some (.cells c T (0, 0)) := by
  rcases h with ⟨_, v, hb, _⟩ | ⟨_, v, hb, _⟩ <;> exact ⟨_, hb⟩

theorem JS.alloc {B bb sb : Nat} {w W : World} {bs : Lx.Bytes} (h : JS B bb sb w bs W) (hB : B ≤ w.heap.size) (o : Obj) : JS B bb sb w bs (W.alloc o) :=
  ⟨h.1.alloc o, h.2.1.elim (fun S' hs => ⟨S', hs.1, hs.2.alloc o⟩), h.2.2.alloc (o := o) (Nat.le_trans hB h.2.2.size)⟩

theorem JS.turned0 {B bb sb : Nat} {w W W' : World} {bs : Lx.Bytes} (h : JS B bb sb w bs W) (hB : B ≤ w.heap.size) (t : Turned W W' (fun _ => False)) : JS B bb sb w bs W' := by
  obtain ⟨hf, ⟨S', hsb, hs⟩, hb⟩ := h
  exact ⟨builderF_scan hf hs (t.mono (fun _ _ hf => hf.elim)), ⟨S', hsb, hs.turned t (fun _ _ hf => hf)⟩, hb.trans (t.below (Nat.le_trans hB hb.size) (fun _ hf => hf.elim))⟩

theorem JS.spell {B bb sb : Nat} {w W : World} {bs : Lx.Bytes} (h : JS B bb sb w bs W) (he : Env w) (h7 : 7 ≤ B) (hB : B ≤ w.heap.size) (t : ATok) (hw : t.wide) :
    Calls Tryd.prog 46 #[t.val] W fun e w' => e = .returned (.string ⟨(spell t).toArray⟩) ∧ JS B bb sb w bs w' ∧ Turned W w' (fun _ => False) := by
  refine (spelling_any t W (he.below h.2.2 h7) (Nat.le_trans h7 (Nat.le_trans hB h.2.2.size)) hw).mono ?_
  rintro e w' ⟨he', t'⟩
  exact ⟨he', h.turned0 hB t', t'⟩

theorem JS.write {B bb sb : Nat} {w W : World} {bs : Lx.Bytes} (h : JS B bb sb w bs W) (hB : B ≤ w.heap.size) (s : Lx.Bytes) (hl : bs.length + s.length ≤ 140737488355328) :
    Calls Tryd.prog 45 #[.pointer (some ⟨bb, 0, none⟩), .string ⟨s.toArray⟩] W fun e w' => e = .returned (.tuple #[.int .i64 s.length, .nilIface]) ∧ JS B bb sb w (bs ++ s) w' ∧ Turned W w' (wr8 W bb) := by
  obtain ⟨hf, ⟨S', hsb, hs⟩, hb⟩ := h
  refine (Tryd.bWriteString B bb _ ⟨s.toArray⟩ W hf (by rw [Lib.byteCells_length]; exact hl) (Nat.le_trans hB hb.size)).mono ?_
  rintro e w' ⟨he', hf', bl, ok⟩
  obtain ⟨c, hc⟩ := builderF_tag hf
  refine ⟨he', ⟨.inr ?_, ⟨S', hsb, hs.kept hc bl ok⟩, hb.trans bl⟩, turned_of_kept bl ok⟩
  have : Lib.byteCells (bs ++ s) = Lib.byteCells bs ++ Lib.strCells ⟨s.toArray⟩ := by simp [Lib.byteCells, Lib.strCells]
  rw [this]
  exact hf'

theorem JS.byte {B bb sb : Nat} {w W : World} {bs : Lx.Bytes} (h : JS B bb sb w bs W) (hB : B ≤ w.heap.size) (hl : bs.length + 1 ≤ 140737488355328) :
    Calls Tryd.prog 44 #[.pointer (some ⟨bb, 0, none⟩), .int .u8 32] W fun e w' => e = .returned .nilIface ∧ JS B bb sb w (bs ++ [32]) w' ∧ Turned W w' (wr8 W bb) := by
  obtain ⟨hf, ⟨S', hsb, hs⟩, hb⟩ := h
  refine (Tryd.bWriteByte B bb _ 32 W hf (by rw [Lib.byteCells_length]; exact hl) (Nat.le_trans hB hb.size)).mono ?_
  rintro e w' ⟨he', hf', bl, ok⟩
  obtain ⟨c, hc⟩ := builderF_tag hf
  refine ⟨he', ⟨.inr ?_, ⟨S', hsb, hs.kept hc bl ok⟩, hb.trans bl⟩, turned_of_kept bl ok⟩
  have : Lib.byteCells (bs ++ [32]) = Lib.byteCells bs ++ [.int .u8 32] := by simp [Lib.byteCells]
  rw [this]
  exact hf'

/-- A fresh block, beside: it is not the scanner's. -/
theorem JS.apart {B bb sb : Nat} {w W : World} {bs : Lx.Bytes} {o : Obj} (h : JS B bb sb w bs W) (he : Env w) (h7 : 7 ≤ B) (hB : B ≤ w.heap.size) (V : World) (hV : Turned (W.alloc o) V (fun _ => False)) (a b : ATok) (ha : a.wide) (hb : b.wide) (hl1 : (_root_.Go.Proofs.YtinogdeolnldhaaDoor.spell a).length ≤ 32) (hl2 : (_root_.Go.Proofs.YtinogdeolnldhaaDoor.spell b).length ≤ 32) :
    Calls Tryd.prog 43 #[.pointer (some ⟨sb, 0, none⟩), a.val, b.val] V fun e w' => e = .returned (.bool (apartB a b)) ∧ JS B bb sb w bs w' ∧ w'.heap[W.heap.size]? = some o := by
  obtain ⟨hf, _, hbl⟩ := (h.alloc hB o).turned0 hB hV
  obtain ⟨_, ⟨S0, hsb0, hs0⟩, hbl0⟩ := h
  subst hsb0
  have hs : Scan B V S0 := (hs0.alloc o).turned hV (fun _ _ hf => hf)
  have hno : ¬ S0.own W.heap.size := fun hk => by have := hs0.own_lt hk; omega
  have hV1 : V.heap[W.heap.size]? = some o := (hV.block _ (lt_of_block (heap_alloc_new W o)) (fun hf => hf)).trans (heap_alloc_new W o)
  refine (apart_any B V S0 hs (he.below hbl h7) h7 a b ha hb hl1 hl2).mono ?_
  rintro e w' ⟨he', S2, h2, h3, h4⟩
  exact ⟨he', ⟨builderF_scan hf hs h4.turned, ⟨S2, h2, h3⟩, hbl.trans (h4.below hs)⟩, (h4.turned.block _ (lt_of_block hV1) hno).trans hV1⟩
end Go.Proofs.YtinogdeolnldhaaDoor
