/- The reference: Tokens. -/
import Derived.Test.YtbcmjinifilamaaGreatDoorROneA
import Derived.Test.YtbcmjinifilamaaGreatDoorTok
namespace Go.Proofs.YtbcmjinifilamaaGreatDoor
open Go.RowKit

theorem bytes_len (l : Lx.Bytes) : (⟨l.toArray⟩ : ByteArray).size = l.length := by simp [ByteArray.size]

theorem rtok_long {l : Lx.Bytes} {B : Nat} (w' : World) (hl : 100000 < l.length) : TokPost B ⟨l.toArray⟩ (.returned (.tuple #[.slice none 0 0, .int .i64 0, .int .i64 2])) w' := by
  unfold TokPost
  rw [bytes_len, if_pos hl]
theorem rtok_bad {l : Lx.Bytes} {B k : Nat} (w' : World) (hl : l.length ≤ 100000) (hb : (Lx.toks l).bad = some k) : TokPost B ⟨l.toArray⟩ (.returned (.tuple #[.slice none 0 0, .int .i64 k, .int .i64 10])) w' := by
  unfold TokPost
  rw [bytes_len, if_neg (by omega), show (⟨l.toArray⟩ : ByteArray).data.toList = l from rfl, hb]
theorem rtok_many {l : Lx.Bytes} {B : Nat} (w' : World) (hl : l.length ≤ 100000) (hb : (Lx.toks l).bad = none) (hm : 20000 < (Lx.toks l).toks.length) : TokPost B ⟨l.toArray⟩ (.returned (.tuple #[.slice none 0 0, .int .i64 0, .int .i64 2])) w' := by
  unfold TokPost
  rw [bytes_len, if_neg (by omega), show (⟨l.toArray⟩ : ByteArray).data.toList = l from rfl, hb]
  simp only
  rw [if_pos hm]
  trivial
theorem rtok_ok {l : Lx.Bytes} {B : Nat} (w' : World) (hl : l.length ≤ 100000) (hb : (Lx.toks l).bad = none) (hm : ¬ 20000 < (Lx.toks l).toks.length) (tv : Value)
    (ho : w'.ownsRow B 43 5 tv (Lx.toks l).toks.length ((Lx.toks l).toks.flatMap tokCells)) : TokPost B ⟨l.toArray⟩ (.returned (.tuple #[tv, .int .i64 0, .int .i64 0])) w' := by
  unfold TokPost
  rw [bytes_len, if_neg (by omega), show (⟨l.toArray⟩ : ByteArray).data.toList = l from rfl, hb]
  simp only
  rw [if_neg hm]
  exact ⟨tv, rfl, ho⟩

/-- What holds ahead of each round. -/
structure Sofar (l : Lx.Bytes) (w wr : World) (v : Value) (q : Nat) (o : List Lx.Tok) : Prop where
  le : q ≤ l.length
  few : o.length ≤ q
  toks : (Lx.toks l).toks = o ++ (Lx.cuts q (l.drop q)).toks
  bad : (Lx.toks l).bad = (Lx.cuts q (l.drop q)).bad
  row : ∃ a cap, v = .slice a o.length cap
  own : wr.ownsRow w.heap.size 43 5 v o.length (o.flatMap tokCells)
  turned : Turned w wr (fun _ => False)

theorem flat_snoc (o : List Lx.Tok) (t : Lx.Tok) : (o ++ [t]).flatMap tokCells = o.flatMap tokCells ++ [.int .i64 t.kind, .int .i64 t.n, .string ⟨t.s.toArray⟩, .int .i64 t.at_, .int .i64 t.end_] := by
  simp [List.flatMap_append, tokCells, str]

set_option maxRecDepth 100000 in
set_option maxHeartbeats 1600000 in
theorem rtokens_any (l : Lx.Bytes) (w : World) :
    Calls Tryz.prog 13 #[.string ⟨l.toArray⟩] w fun e w' => TokPost w.heap.size ⟨l.toArray⟩ e w' ∧ Turned w w' (fun _ => False) := by
  by_cases hl : 100000 < l.length
  · have hi : 100000 < (l.length : Int) := by omega
    go_enter Tryz.func13, Tryz.ntmps13
    go_wp2
    go_ret3
    exact ⟨rtok_long _ hl, Turned.refl _ _⟩
  · obtain ⟨i0, hi0, hz0, hz1, hz2⟩ := info_parts Tryz.infoTok
    have hl2 : l.length ≤ 100000 := by omega
    have hi : (l.length : Int) ≤ 100000 := by omega
    clear hl
    go_enter Tryz.func13, Tryz.ntmps13
    go_wp2_with fail
    have hst : Sofar l w (w.alloc (.cells #[] 43)) (.slice (some ⟨w.heap.size, 0, none⟩) 0 0) 0 [] :=
      ⟨Nat.zero_le _, Nat.le_refl _, by simp [toks_eq], by simp [toks_eq], ⟨_, _, rfl⟩, ⟨rfl, .inr ⟨_, 0, #[], rfl, Nat.le_refl _, heap_alloc_new w _, Nat.le_refl _, Nat.zero_le _, rfl, rfl⟩⟩, (Turned.refl w _).alloc _⟩
    go_loopw [5, 6] (fun v a wr => ∃ q : Nat, ∃ o : List Lx.Tok, a = .int .i64 q ∧ Sofar l w wr v q o) (fun _ a _ => l.length - (intOf a).toNat)
    case atStart => exact ⟨0, [], rfl, hst⟩
    case round =>
      obtain ⟨q, o, rfl, hs⟩ := hrel
      clear hst
      have hq := hs.le
      go_wp2_with fail
      refine (rskip_any l q (by omega) hq wr).mono ?_
      rintro e w1 ⟨⟨k, hkl, hk⟩, rfl⟩
      rcases hk with ⟨rfl, hkeq, hkno⟩ | ⟨rfl, hkb, hkt⟩
      · by_cases hke : k = l.length
        · subst hke
          have he := Lx.cuts_end (l := l) (q := l.length) (Nat.le_refl _)
          have hb : (Lx.toks l).bad = none := by rw [hs.bad, hkeq.2, he]
          have ht : (Lx.toks l).toks = o := by rw [hs.toks, hkeq.1, he]; simp
          obtain ⟨va, vc, rfl⟩ := hs.row
          have hown := hs.own
          by_cases hm : 20000 < o.length
          · have hfin := fun w' => rtok_many (B := w.heap.size) w' hl2 hb (by rw [ht]; exact hm)
            have Hfin := Lib.hid hfin
            have Ht := Lib.hid hs.turned
            have hmi : (20000 : Int) < (o.length : Int) := by omega
            clear hfin hs hb ht he hown hkeq hkno
            go_wp2
            go_ret3
            exact ⟨Hfin.out _, Ht.out⟩
          · have hfin := fun (hw : w1.ownsRow w.heap.size 43 5 (.slice va o.length vc) o.length (o.flatMap tokCells)) => rtok_ok (B := w.heap.size) w1 hl2 hb (by rw [ht]; exact hm) (.slice va o.length vc) (by rw [ht]; exact hw)
            have Hfin := Lib.hid (hfin hown)
            have Ht := Lib.hid hs.turned
            have hmi : ¬ (20000 : Int) < (o.length : Int) := by omega
            clear hfin hs hb ht he hown hkeq hkno
            go_wp2
            go_ret3
            exact ⟨Hfin.out, Ht.out⟩
        · have hklt : k < l.length := by omega
          have hki : (k : Int) ≠ (l.length : Int) := by omega
          obtain ⟨hbl, h2⟩ := hkno hklt hklt
          have hO := rone_any l k (by omega) hklt hbl h2 w1
          have HO := Lib.hid hO
          have HS := Lib.hid hs
          have Hkeq := Lib.hid hkeq
          clear hO hs hkeq hkno hbl h2
          go_wp2_with fail
          refine HO.out.mono ?_
          rintro e w2 ⟨h1, t1⟩
          rcases h1 with ⟨kk, nn, s, len, hcut, rfl⟩ | ⟨hcut, t, rfl⟩
          · obtain ⟨g1, g2, g3, g4⟩ := Lx.cuts_tok hklt hcut
            have hs := HS.out
            have hkeq := Hkeq.out
            have hqk : q ≤ k := ((Lx.toks_within (l.drop q).length q (l.drop q) (Nat.le_refl _)).1 ⟨kk, nn, s, k, k + len⟩ (by rw [hkeq.1.trans g1]; exact List.mem_cons_self)).1
            obtain ⟨va, vc, rfl⟩ := hs.row
            have hof : o.length ≤ k := Nat.le_trans hs.few hqk
            have hnext : ∀ w' v, (∃ a cap, v = .slice a (o.length + 1) cap) → w'.ownsRow w.heap.size 43 5 v (o.length + 1) (o.flatMap tokCells ++ [.int .i64 kk, .int .i64 nn, .string ⟨s.toArray⟩, .int .i64 k, .int .i64 (k + len : Nat)]) → Turned w w' (fun _ => False) → Sofar l w w' v (k + len) (o ++ [⟨kk, nn, s, k, k + len⟩]) := fun w' v hr ho ht =>
              ⟨g4, by rw [List.length_append, List.length_singleton]; omega, by rw [hs.toks, hkeq.1, g1]; simp, by rw [hs.bad, hkeq.2, g2], by rw [List.length_append]; exact hr, by rw [List.length_append, flat_snoc]; exact ho, ht⟩
            have tW := hs.turned.trans t1 (fun _ _ hf => hf)
            have hown : w2.ownsRow w.heap.size 43 5 (.slice va o.length vc) o.length (o.flatMap tokCells) := ownsRow_turned hs.own t1 (fun _ _ hf => hf)
            have hlen : k < k + len := by omega
            have hB : w.heap.size ≤ w2.heap.size := tW.size
            have hbl : ∀ g, (Value.slice va o.length vc).ownBlock = some g → w.heap.size ≤ g ∧ g < w2.heap.size := fun g hg => by
              obtain ⟨a1, c1, a2⟩ := ownsRow_tag hown hg
              exact ⟨a1, lt_of_block a2⟩
            have Hnext := Lib.hid hnext
            have TW := Lib.hid tW
            have HB := Lib.hid hB
            have Hbl := Lib.hid hbl
            have Hof := Lib.hid hof
            have Hqk := Lib.hid hqk
            unfold tokAgg
            simp only
            generalize he5 : k + len = e5 at *
            have hmax : o.length + 1 ≤ maxLen := by unfold maxLen; omega
            have hbytes : (o.length + 1) * 48 ≤ 140737488355328 := by omega
            have hmeas : l.length - e5 < l.length - q := by omega
            clear hcut t1 HS Hkeq HO g1 g2 g3 hs hkeq hnext tW hB hbl hof he5 hqk hlen
            have kA := heap_alloc_new w2 (.cells #[.int .i64 kk, .int .i64 nn, .string ⟨s.toArray⟩, .int .i64 k, .int .i64 e5] 43)
            have kB : ((w2.alloc (.cells #[.int .i64 kk, .int .i64 nn, .string ⟨s.toArray⟩, .int .i64 k, .int .i64 e5] 43)).alloc (.cells #[.int .i64 kk, .int .i64 nn, .string ⟨s.toArray⟩, .int .i64 k, .int .i64 e5] 43)).heap[w2.heap.size + 1]? = some (.cells #[.int .i64 kk, .int .i64 nn, .string ⟨s.toArray⟩, .int .i64 k, .int .i64 e5] 43 (0, 0)) := by
              have := heap_alloc_new (w2.alloc (.cells #[.int .i64 kk, .int .i64 nn, .string ⟨s.toArray⟩, .int .i64 k, .int .i64 e5] 43)) (.cells #[.int .i64 kk, .int .i64 nn, .string ⟨s.toArray⟩, .int .i64 k, .int .i64 e5] 43)
              simpa using this
            have kA2 : ((w2.alloc (.cells #[.int .i64 kk, .int .i64 nn, .string ⟨s.toArray⟩, .int .i64 k, .int .i64 e5] 43)).alloc (.cells #[.int .i64 kk, .int .i64 nn, .string ⟨s.toArray⟩, .int .i64 k, .int .i64 e5] 43)).heap[w2.heap.size]? = some (.cells #[.int .i64 kk, .int .i64 nn, .string ⟨s.toArray⟩, .int .i64 k, .int .i64 e5] 43 (0, 0)) := (Below.heap_alloc _ _ _ (lt_of_block kA)).trans kA
            have hc4 : ∀ w3 : World, ((w2.alloc (.cells #[.int .i64 kk, .int .i64 nn, .string ⟨s.toArray⟩, .int .i64 k, .int .i64 e5] 43)).alloc (.cells #[.int .i64 kk, .int .i64 nn, .string ⟨s.toArray⟩, .int .i64 k, .int .i64 e5] 43)).grownBy w3 (Value.slice va o.length vc).ownBlock → w3.cell? ⟨w2.heap.size, 4, none⟩ = some (.int .i64 e5) := fun w3 hgrow => by
              have h1 := hgrow.cell_far ⟨w2.heap.size, 4, none⟩ (by simp; omega) (fun e => by have := Hbl.out _ e.symm; simp only at this; omega)
              rw [h1]
              simp [World.cell?, kA2]
            have HC4 := Lib.hid hc4
            clear hc4 kA2 kA
            go_wp2_with (at_builtin; refine wpList_append_lies _ (by rfl) _ _ _ (by rfl) w.heap.size 43 i0 _ 5 48 Tryz.underlying24 hi0 hz0 hz1 hz2 rfl (by omega) (.slice va o.length vc) o.length _ (by rfl) ((hown.alloc _).alloc _) ⟨w2.heap.size + 1, 0, none⟩ 1 1 [.int .i64 kk, .int .i64 nn, .string ⟨s.toArray⟩, .int .i64 k, .int .i64 e5] (by rfl) (by rfl) (World.news_of_block kB) (by simp [Value.oneCell']) (by omega) hmax hbytes (by have := HB.out; simp; omega) (w2.heap.size + 2) (by simp) ?_; intro gg cap w3 hown3 hgrow hat hlt; have c4 := HC4.out _ hgrow)
            go_roundw
            case rel => 
              refine ⟨e5, _, rfl, Hnext.out _ _ ⟨_, _, rfl⟩ hown3 ?_⟩
              exact Turned.grown (((TW.out.alloc _).alloc _)) hgrow (fun j hj e => by have := Hbl.out _ e; omega)
            case measure => simp [intOf]; omega
          · have hb := Lx.cuts_bad_here hklt hcut
            have hfin := fun w' => rtok_bad (B := w.heap.size) w' hl2 (HS.out.bad.trans (Hkeq.out.2.trans hb.2))
            have Hfin := Lib.hid hfin
            have Ht := Lib.hid (HS.out.turned.trans t1 (fun _ _ hf => hf))
            have hv : t.val = .agg #[.int .i64 t.kind, .int .i64 t.n, .string ⟨t.s.toArray⟩, .int .i64 t.at_, .int .i64 t.end_] := rfl
            rw [hv]
            clear hfin hb hcut t1 hv HS Hkeq HO
            go_wp2
            go_ret3
            exact ⟨Hfin.out _, Ht.out.alloc _⟩
      · have hfin := fun w' => rtok_bad (B := w.heap.size) w' hl2 (hs.bad.trans hkb)
        have Hfin := Lib.hid hfin
        have Ht := Lib.hid hs.turned
        clear hfin hkb hkt hs
        go_wp2
        go_ret3
        exact ⟨Hfin.out _, Ht.out⟩
end Go.Proofs.YtbcmjinifilamaaGreatDoor
