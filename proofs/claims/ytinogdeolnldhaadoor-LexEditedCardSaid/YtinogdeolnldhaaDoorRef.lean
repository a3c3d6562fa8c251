/- The reference's small functions: Like, In. -/
import Derived.Test.YtinogdeolnldhaaDoorPlace
namespace Go.Proofs.YtinogdeolnldhaaDoor
open Go.RowKit

set_option maxRecDepth 100000 in
set_option maxHeartbeats 800000 in
theorem like_any (a b : ATok) (w : World) :
    Calls Tryd.prog 30 #[a.val, b.val] w fun e w' => e = .returned (.bool (a.same b)) ∧ Turned w w' (fun _ => False) := by
  obtain ⟨k1, n1, s1, a1, e1⟩ := a
  obtain ⟨k2, n2, s2, a2, e2⟩ := b
  have hw : ∀ o1 o2, Turned w ((w.alloc o1).alloc o2) (fun _ => False) := fun o1 o2 => ((Turned.refl w _).alloc o1).alloc o2
  have Hw := Lib.hid hw
  clear hw
  unfold ATok.val ATok.same
  simp only
  cases hk : (k1 == k2)
  · go_enter Tryd.func30, Tryd.ntmps30
    go_wp2
    go_ret
    exact ⟨by simp, Hw.out _ _⟩
  · cases hn : (n1 == n2)
    · go_enter Tryd.func30, Tryd.ntmps30
      go_wp2
      go_ret
      exact ⟨by simp, Hw.out _ _⟩
    · go_enter Tryd.func30, Tryd.ntmps30
      go_wp2
      go_ret
      exact ⟨by simp, Hw.out _ _⟩

set_option maxRecDepth 100000 in
set_option maxHeartbeats 800000 in
theorem in_any (b n : Nat) (l : List Lx.Bytes) (s : Lx.Bytes) (w : World) (hn : l.length = n) (hn2 : n ≤ 1000) (hb : b < w.heap.size)
    (hc : ∀ j, j < n → w.cell? ⟨b, j, none⟩ = some (str (l.getD j []))) :
    Calls Tryd.prog 20 #[.slice (some ⟨b, 0, none⟩) n n, .string ⟨s.toArray⟩] w fun e w' => e = .returned (.bool (l.contains s)) ∧ Turned w w' (fun _ => False) := by
  go_enter Tryd.func20, Tryd.ntmps20
  go_wp2
  go_loopw [5] (fun i wr => ∃ k : Nat, k ≤ n ∧ i = .int .i64 k ∧ s ∉ l.take k ∧ Turned w wr (fun _ => False)) (fun i _ => n - (intOf i).toNat)
  case atStart => exact ⟨0, Nat.zero_le _, rfl, by simp, Turned.refl _ _⟩
  case round =>
    obtain ⟨k, hk, rfl, hno, ht⟩ := hrel
    by_cases hlt : k < n
    · have hki : (k : Int) < (n : Int) := by omega
      have hx : wr.cell? ⟨b, k, none⟩ = some (.string ⟨(l.getD k []).toArray⟩) := (ht.cell (p := ⟨b, k, none⟩) hb (fun hf => hf)).trans (hc k hlt)
      have hlk : k < l.length := by omega
      have hbr : b < wr.heap.size := Nat.lt_of_lt_of_le hb ht.size
      have hstep : l.getD k [] ≠ s → s ∉ l.take (k + 1) := by
        intro h
        rw [List.take_succ_eq_append_getElem hlk, List.mem_append, not_or]
        refine ⟨hno, ?_⟩
        rw [List.getD_eq_getElem?_getD, List.getElem?_eq_getElem hlk] at h
        simpa using fun e => h e.symm
      have hfound : l.getD k [] = s → l.contains s = true := by
        intro h
        rw [List.getD_eq_getElem?_getD, List.getElem?_eq_getElem hlk] at h
        rw [List.contains_iff_mem, ← h]
        exact List.getElem_mem hlk
      generalize l.getD k [] = x at *
      have Hstep := Lib.hid hstep
      have Hfound := Lib.hid hfound
      have Hc := Lib.hid hc
      clear hstep hfound hc
      cases hsx : (x == s)
      · go_wp2
        go_roundw
        case rel => exact ⟨k + 1, by omega, by go_num, Hstep.out (by simpa using hsx), ht⟩
        case measure => simp [intOf]; omega
      · go_wp2
        go_ret
        rw [Hfound.out (by simpa using hsx)]
        exact ⟨rfl, ht⟩
    · have hkn : k = n := by omega
      subst hkn
      have hall : l.contains s = false := by
        rw [List.take_of_length_le (by omega)] at hno
        simpa using hno
      have Hall := Lib.hid hall
      have Hc := Lib.hid hc
      clear hall hc
      go_wp2
      go_ret
      rw [Hall.out]
      exact ⟨rfl, ht⟩

set_option maxRecDepth 100000 in
set_option maxHeartbeats 800000 in
theorem text_any (t : ATok) (w : World) (he : Env w) (h7 : 7 ≤ w.heap.size) (hw : t.wide) :
    Calls Tryd.prog 41 #[t.val] w fun e w' => e = .returned (.string ⟨(spell t).toArray⟩) ∧ Turned w w' (fun _ => False) := by
  obtain ⟨k, n, s, a, e⟩ := t
  have Hw := Lib.hid hw
  have hA : ∀ o, Turned w (w.alloc o) (fun _ => False) := fun o => (Turned.refl w _).alloc o
  have HA := Lib.hid hA
  clear hw hA
  unfold ATok.val
  simp only
  by_cases hk : k = 3
  · have hs : spell ⟨k, n, s, a, e⟩ = Lib.itoa n := if_pos hk
    have Hs := Lib.hid hs
    have hkb : (k == 3) = true := by simpa using hk
    clear hs hk
    go_enter Tryd.func41, Tryd.ntmps41
    go_wp2_with fail
    refine (Tryd.strconv_Itoa n Hw.out.1 Hw.out.2 _ ((he.turned (HA.out _) h7 (fun _ hf => hf.elim)).pow)).mono ?_
    rintro e w' ⟨rfl, q, os, rfl⟩
    have ht := turned_grow (HA.out (.cells #[.int .i64 k, .int .i64 n, .string ⟨s.toArray⟩, .int .i64 a, .int .i64 e] 48)) q os
    generalize Go.Sort.grow _ os = V at *
    go_wp2
    go_ret
    rw [Hs.out]
    exact ⟨rfl, ht⟩
  · have hs : spell ⟨k, n, s, a, e⟩ = s := if_neg hk
    have Hs := Lib.hid hs
    have hkb : (k == 3) = false := by simpa using hk
    clear hs hk
    go_enter Tryd.func41, Tryd.ntmps41
    go_wp2
    go_ret
    rw [Hs.out]
    exact ⟨rfl, HA.out _⟩
end Go.Proofs.YtinogdeolnldhaaDoor
