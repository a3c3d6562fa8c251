/- The scanner passes a comment. -/
import Derived.Test.YtinogdeolnldhaaDoorNumBad
namespace Go.Proofs.YtinogdeolnldhaaDoor
open Go.RowKit

def comD (d : Nat) (l : Lx.Bytes) : Option Nat := if d = 0 then some 0 else Lx.com d l

theorem hp2 (a b : UInt8) (L : Lx.Bytes) : Lib.hasPrefix L [a, b] = true → ∃ r, L = a :: b :: r := by
  intro h
  match L, h with
  | [], h => cases h
  | [x], h => simp [Lib.hasPrefix, List.isPrefixOf] at h
  | x :: y :: r, h =>
    simp [Lib.hasPrefix, List.isPrefixOf] at h
    exact ⟨r, by rw [h.1, h.2]⟩
theorem com_open (d : Nat) (L : Lx.Bytes) (h : Lib.hasPrefix L [40, 42] = true) : Lx.com d L = (Lx.com (d + 1) (L.drop 2)).map (· + 2) := by
  obtain ⟨r, rfl⟩ := hp2 _ _ _ h
  simp [Lx.com]
theorem com_close (d : Nat) (L : Lx.Bytes) (h : Lib.hasPrefix L [42, 41] = true) : Lx.com d L = if d ≤ 1 then some 2 else (Lx.com (d - 1) (L.drop 2)).map (· + 2) := by
  obtain ⟨r, rfl⟩ := hp2 _ _ _ h
  simp [Lx.com]
theorem com_one (d : Nat) (L : Lx.Bytes) (h0 : L ≠ []) (h1 : Lib.hasPrefix L [40, 42] = false) (h2 : Lib.hasPrefix L [42, 41] = false) : Lx.com d L = (Lx.com d (L.drop 1)).map (· + 1) := by
  match L, h0, h1, h2 with
  | [x], _, _, _ => simp [Lx.com]
  | x :: y :: r, _, h1, h2 =>
    rw [Lx.com]
    · rfl
    · intro r' ex e
      simp at e
      simp [Lib.hasPrefix, List.isPrefixOf, ex, e.1] at h1
    · intro r' ex e
      simp at e
      simp [Lib.hasPrefix, List.isPrefixOf, ex, e.1] at h2

theorem hp2_len (a b : UInt8) (L : Lx.Bytes) (h : Lib.hasPrefix L [a, b] = true) : 2 ≤ L.length := by
  obtain ⟨r, rfl⟩ := hp2 _ _ _ h
  simp

/-- What a round of the loop over a comment does to what is still to come. -/
theorem round_one {x : Option Nat} {t : Lx.Bytes} {d m a : Nat} (hd : 0 < d) (ha : a ≤ m) (h : x = (comD d (t.drop m)).map (· + (m - a))) (h0 : (t.drop m).isEmpty = false) (h1 : Lib.hasPrefix (t.drop m) [40, 42] = false) (h2 : Lib.hasPrefix (t.drop m) [42, 41] = false) :
    x = (comD d (t.drop (m + 1))).map (· + (m + 1 - a)) := by
  rw [h]
  have hne : t.drop m ≠ [] := by intro e; rw [e] at h0; simp at h0
  simp only [comD, if_neg (show ¬ d = 0 by omega)]
  rw [com_one d _ hne h1 h2, List.drop_drop, Option.map_map]
  congr 1
  funext k
  simp only [Function.comp]
  omega
theorem round_open {x : Option Nat} {t : Lx.Bytes} {d m a : Nat} (hd : 0 < d) (ha : a ≤ m) (h : x = (comD d (t.drop m)).map (· + (m - a))) (h1 : Lib.hasPrefix (t.drop m) [40, 42] = true) :
    x = (comD (d + 1) (t.drop (m + 2))).map (· + (m + 2 - a)) := by
  rw [h]
  simp only [comD, if_neg (show ¬ d = 0 by omega), if_neg (show ¬ d + 1 = 0 by omega)]
  rw [com_open d _ h1, List.drop_drop, Option.map_map]
  congr 1
  funext k
  simp only [Function.comp]
  omega
theorem round_close {x : Option Nat} {t : Lx.Bytes} {d m a : Nat} (hd : 0 < d) (ha : a ≤ m) (h : x = (comD d (t.drop m)).map (· + (m - a))) (h1 : Lib.hasPrefix (t.drop m) [42, 41] = true) :
    x = (comD (d - 1) (t.drop (m + 2))).map (· + (m + 2 - a)) := by
  rw [h]
  simp only [comD, if_neg (show ¬ d = 0 by omega)]
  rw [com_close d _ h1, List.drop_drop]
  by_cases hd1 : d ≤ 1
  · rw [if_pos hd1, if_pos (by omega)]
    simp; omega
  · rw [if_neg hd1, if_neg (by omega), Option.map_map]
    congr 1
    funext k
    simp only [Function.comp]
    omega

theorem Tryd.infoSpan : (Tryd.prog.info? 65).map (fun i => (i.zero, i.size, i.bytes)) = some (some (.agg #[.int .i64 0, .int .i64 0]), 2, 16) := by kernel_rfl

set_option maxRecDepth 100000 in
set_option maxHeartbeats 1600000 in
theorem cutComment_ok (B : Nat) (w : World) (S : Scn) (h : Scan B w S) (hs : S.text.size ≤ 140737488351232) (hat : S.at_ + 2 ≤ S.text.size) (hn : (S.coms.length + 1) * 16 ≤ 140737488355328)
    (n : Nat) (hc : Lx.com 1 (S.rest.drop 2) = some n) :
    Calls Tryd.prog 79 #[.pointer (some ⟨S.sb, 0, none⟩)] w (Fine B w S fun tv cv =>
      { S with tv := tv, cv := cv, at_ := S.at_ + 2 + n, coms := S.coms ++ [(S.from_, S.at_ + 2 + n)] }) := by
  have Hc := Lib.hid hc
  clear hc
  have c5 := h.c5
  have f5 := h.frozenAt 5
  have hb1 : (S.at_ : Int) + 2 ≤ 140737488351232 := by omega
  obtain ⟨i0, hi0, hz0, hz1, hz2⟩ := info_parts Tryd.infoSpan
  go_enter Tryd.func79, Tryd.ntmps79
  go_wp2
  go_loopw [2] (fun o wr => ∃ d m : Nat, o = .int .i64 d ∧ d ≤ m ∧ S.at_ + 2 ≤ m ∧ m ≤ S.text.size ∧ Scan B wr { S with at_ := m } ∧ Goes w S wr { S with at_ := m } ∧ some n = (comD d (S.text.data.toList.drop m)).map (· + (m - (S.at_ + 2))))
    (fun _ wr => S.text.size - cellNat wr S.sb 5)
  case atStart =>
    refine ⟨1, S.at_ + 2, rfl, by omega, Nat.le_refl _, hat, ?_, ?_, ?_⟩
    · have := h.setAt (S.at_ + 2)
      rwa [show ((S.at_ + 2 : Nat) : Int) = (S.at_ : Int) + 2 from by simp] at this
    · have := Goes.setAt w S (S.at_ + 2)
      rwa [show ((S.at_ + 2 : Nat) : Int) = (S.at_ : Int) + 2 from by simp] at this
    · have := Hc.out
      unfold Scn.rest at this
      rw [List.drop_drop] at this
      simp [comD, this]
  case round =>
    obtain ⟨d, m, rfl, hdm, hm0, hm1, hsc, hgo, hres⟩ := hrel
    have Hres := Lib.hid hres
    clear c5 f5 hres
    have d5 := hsc.c5
    have d3 := hsc.c3
    have f5 := hsc.frozenAt 5
    simp only at d5 d3 f5
    by_cases hd : 0 < d
    · have hdi : 0 < (d : Int) := by omega
      have i1 : (m : Int) ≤ (S.text.size : Int) := by omega
      have hdm' : (d : Int) ≤ 140737488351232 := by omega
      go_wp2_with fail
      go_quiet (fail)
      rw [Lib.extract_eq, List.take_of_length_le (by simp)]
      generalize hL : S.text.data.toList.drop m = L
      have HL := Lib.hid hL
      clear hL
      have hlen : L.length = S.text.size - m := by rw [← HL.out]; simp
      cases h0 : L.isEmpty
      · cases h1 : Lib.hasPrefix L [40, 42]
        · cases h2 : Lib.hasPrefix L [42, 41]
          · have hL1 : m + 1 ≤ S.text.size := by
              have : L ≠ [] := by intro e; rw [e] at h0; simp at h0
              have := List.length_pos_iff.2 this
              omega
            clear hlen
            go_wp2_with (go_at_call 11; refine (Tryd.strings_HasPrefix _ _ _).mono ?_; rintro e w' ⟨rfl, rfl⟩)
            go_roundw
            case rel =>
              rw [← HL.out] at h0 h1 h2
              refine ⟨d, m + 1, by go_num, by omega, by omega, by omega, (hsc.drewN _).setAt (m + 1), (hgo.drewN _).trans (Goes.setAt _ _ (m + 1)), ?_⟩
              exact round_one hd hm0 Hres.out h0 h1 h2
            case measure =>
              have a1 := ((hsc.drewN nq).setAt (m + 1)).nat5
              have a2 := hsc.nat5
              simp only at a1 a2
              rw [show (Value.int .i64 ((m : Int) + 1)) = Value.int .i64 ((m + 1 : Nat) : Int) from by simp, a1, a2]
              omega
          · have hL1 : m + 2 ≤ S.text.size := by
              have := hp2_len _ _ _ h2
              omega
            clear hlen
            go_wp2_with (go_at_call 11; refine (Tryd.strings_HasPrefix _ _ _).mono ?_; rintro e w' ⟨rfl, rfl⟩)
            go_roundw
            case rel =>
              rw [← HL.out] at h2
              refine ⟨d - 1, m + 2, by (congr 1; omega), by omega, by omega, by omega, (hsc.drewN _).setAt (m + 2), (hgo.drewN _).trans (Goes.setAt _ _ (m + 2)), ?_⟩
              exact round_close hd hm0 Hres.out h2
            case measure =>
              have a1 := ((hsc.drewN nq).setAt (m + 2)).nat5
              have a2 := hsc.nat5
              simp only at a1 a2
              rw [show (Value.int .i64 ((m : Int) + 2)) = Value.int .i64 ((m + 2 : Nat) : Int) from by simp, a1, a2]
              omega
        · have hL1 : m + 2 ≤ S.text.size := by
            have := hp2_len _ _ _ h1
            omega
          clear hlen
          go_wp2_with (go_at_call 11; refine (Tryd.strings_HasPrefix _ _ _).mono ?_; rintro e w' ⟨rfl, rfl⟩)
          go_roundw
          case rel =>
            rw [← HL.out] at h1
            refine ⟨d + 1, m + 2, by go_num, by omega, by omega, by omega, (hsc.drewN _).setAt (m + 2), (hgo.drewN _).trans (Goes.setAt _ _ (m + 2)), ?_⟩
            exact round_open hd hm0 Hres.out h1
          case measure =>
            have a1 := ((hsc.drewN nq).setAt (m + 2)).nat5
            have a2 := hsc.nat5
            simp only at a1 a2
            rw [show (Value.int .i64 ((m : Int) + 2)) = Value.int .i64 ((m + 2 : Nat) : Int) from by simp, a1, a2]
            omega
      · exfalso
        have h5 := Hres.out
        rw [HL.out, List.isEmpty_iff.1 h0] at h5
        simp [comD, Lx.com, Nat.pos_iff_ne_zero.1 hd] at h5
    · obtain rfl : d = 0 := by omega
      have hE : m = S.at_ + 2 + n := by
        have h5 := Hres.out
        simp [comD] at h5
        omega
      have c7 := hsc.c7
      have c4 := hsc.c4
      have f7 := hsc.frozenAt 7
      simp only at c7 c4 f7
      have hown := hsc.coms
      simp only at hown
      have hBH : B ≤ wr.heap.size := by have := hsc.hB; have := hsc.lt; simp only at *; omega
      have hmax : S.coms.length + 1 ≤ maxLen := by unfold maxLen; omega
      have hlS : S.sb < wr.heap.size := hsc.lt
      have hbsb : some S.sb ≠ S.cv.ownBlock := by
        intro e
        obtain ⟨_, c, hc⟩ := ownsRow_tag hown e.symm
        have := hsc.block
        rw [hc] at this
        simp at this
      clear h hs hat hb1 hm0 hm1 hdm f5 d3
      have HE := Lib.hid hE
      clear hE
      go_wp2
      go_region_law
        ((refine step_append_lies _ (by rfl) _ _ _ (by rfl) B 65 i0 _ 2 16 Tryd.underlying61 hi0 hz0 hz1 hz2 rfl (by omega) S.cv S.coms.length _ (by rfl) ((hown.alloc _).drew)
            ⟨wr.heap.size, 0, none⟩ 1 1 [.int .i64 S.from_, .int .i64 m] (by rfl) (by rfl) (World.news_of_block (cs := #[.int .i64 S.from_, .int .i64 m]) (t := 65) (fr := (0, 0)) (heap_alloc_new wr _)) (by simp [Value.oneCell'])
            (by omega) hmax hn (by simp; omega) (wr.heap.size + 1) (by simp) ?_; intro gg cap w1 hown1 hgrow hat hlt; have f7' : w1.frozen? ⟨S.sb, 7, none⟩ = false := (hgrow.frozen_far _ (by simp; omega) hbsb).trans ((frozen_past hlS).trans f7); have c7' : w1.cell? ⟨S.sb, 7, none⟩ = some S.cv := (hgrow.cell_far _ (by simp; omega) hbsb).trans ((cell_past hlS).trans c7)))
      all_goals
        go_wp2
        go_end0
        have hlist : (S.coms ++ [(S.from_, m)]).flatMap comCells = S.coms.flatMap comCells ++ [.int .i64 S.from_, .int .i64 m] := by
          simp [List.flatMap_append, comCells]
        have t1 : Turned wr w1 (fun k => S.cv.ownBlock = some k) := Turned.grown (((Turned.refl wr _).alloc _).drew) hgrow (fun k _ hk => hk)
        rw [← HE.out]
        refine ⟨rfl, S.tv, .slice (some ⟨gg, 0, none⟩) (S.coms.length + 1) cap, ?_, ?_, ?_⟩
        · refine hsc.appendComs t1 _ (S.coms ++ [(S.from_, m)]) ?_
          rw [hlist, List.length_append]
          exact hown1
        · exact (hgo.turned.trans t1 (fun k hk e => hgo.own k hk (.inr (.inr e)))).setCell (p := ⟨S.sb, 7, none⟩) (fun _ => .inl rfl) _
        · rintro k hk (e | e | e)
          · exact .inl e
          · exact hgo.own k hk (.inr (.inl e))
          · have e' : gg = k := by simpa [Value.ownBlock] using e
            subst e'
            rcases hat with ha | ha
            · exact hgo.own _ hk (.inr (.inr ha))
            · have := hgo.turned.size; omega
end Go.Proofs.YtinogdeolnldhaaDoor
