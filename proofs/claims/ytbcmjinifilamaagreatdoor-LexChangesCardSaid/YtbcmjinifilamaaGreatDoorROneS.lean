/- The reference: one token that is no letter's and no digit's. -/
import Derived.Test.YtbcmjinifilamaaGreatDoorROne
namespace Go.Proofs.YtbcmjinifilamaaGreatDoor
open Go.RowKit

set_option maxRecDepth 100000 in
set_option maxHeartbeats 3200000 in
theorem rone_sym_false (l : Lx.Bytes) (p : Nat) (hl : l.length ≤ 1000000) (hp : p < l.length) (hc : Lx.isLetter l[p] = false) (hd : Lx.isDigit l[p] = false) (s : Lx.Bytes) (hs : s = (l.drop p).takeWhile Lx.isSymbol)
    (hbe : Lx.bestOf (l.drop p) Lx.signs [] = []) (hcut : Lx.cut1 (l.drop p) = if 0 < s.length ∧ s.length ≤ 32 then .tok (Lx.kindOf Lx.signs s 4 5) 0 s s.length else .bad) (hr : Lx.signs.contains s = false) (w : World) :
    Calls Tryz.prog 45 #[.string ⟨l.toArray⟩, .int .i64 p] w (OnePost l p w) := by
  have hpi : (p : Int) < (l.length : Int) := by omega
  have c1 : ∀ w, Calls Tryz.prog 75 #[.int .u8 ((⟨l.toArray⟩ : ByteArray)[p]'(by simpa [ByteArray.size] using hp)).toNat] w fun e w' => e = .returned (.bool false) ∧ w' = w := fun w => by
    have := rletter_any l[p] w
    rw [hc] at this
    exact this
  have c2 : ∀ w, Calls Tryz.prog 78 #[.int .u8 ((⟨l.toArray⟩ : ByteArray)[p]'(by simpa [ByteArray.size] using hp)).toNat] w fun e w' => e = .returned (.bool false) ∧ w' = w := fun w => by
    have := rdigit_any l[p] w
    rw [hd] at this
    exact this
  have C1 := Lib.hid c1
  have C2 := Lib.hid c2
  have hS := fun w => rsign_any l p hl (Nat.le_of_lt hp) w
  rw [hbe] at hS
  have HS := Lib.hid hS
  have htl : s.length ≤ l.length - p := by rw [hs]; have := Lx.takeWhile_len Lx.isSymbol (l.drop p); rwa [List.length_drop] at this
  have ht : ∀ k, k ≤ s.length → ∀ c, (l.drop p)[k]? = some c → (Lx.isSymbol c = true ↔ k < s.length) := by rw [hs]; exact tw_lt Lx.isSymbol (l.drop p)
  have HT := Lib.hid ht
  have hst : s = (l.drop p).take s.length := by
    have := List.takeWhile_prefix (p := Lx.isSymbol) (l := l.drop p)
    rw [← hs] at this
    exact List.prefix_iff_eq_take.1 this
  have hex : (ByteArray.mk l.toArray).extract p (p + s.length) = ⟨s.toArray⟩ := by
    rw [Lib.extract_eq, show p + s.length - p = s.length by omega, ← hst]
  have hpe : ((p + s.length : Nat) : Int) ≤ (l.length : Int) := by omega
  have hpe2 : (p : Int) ≤ ((p + s.length : Nat) : Int) := by omega
  have Hcut := Lib.hid hcut
  have Hr := Lib.hid hr
  clear c1 c2 hc hd hS hbe hcut ht hst hs hr
  go_enter Tryz.func45, Tryz.ntmps45
  go_wp2_with (first | (go_at_call 75; refine (C1.out _).mono ?_; rintro e w' ⟨rfl, rfl⟩) | (go_at_call 78; refine (C2.out _).mono ?_; rintro e w' ⟨rfl, rfl⟩))
  have kZ0 := heap_alloc_new w (.cells #[.int .i64 0, .int .i64 0, .string ⟨#[]⟩, .int .i64 0, .int .i64 0] 43)
  have tA : Turned w (w.alloc (.cells #[.int .i64 0, .int .i64 0, .string ⟨#[]⟩, .int .i64 0, .int .i64 0] 43)) (fun _ => False) := (Turned.refl w _).alloc _
  generalize w.alloc (.cells #[.int .i64 0, .int .i64 0, .string ⟨#[]⟩, .int .i64 0, .int .i64 0] 43) = V0 at *
  generalize hZe : w.heap.size = Z at *
  have HZe := Lib.hid hZe
  clear hZe
  refine (HS.out _).mono ?_
  rintro e V1 ⟨rfl, t1⟩
  have kz1 := (t1.block Z (lt_of_block kZ0) (fun hf => hf)).trans kZ0
  have Kz1 := Lib.hid kz1
  have T1 := Lib.hid (tA.trans t1 (fun _ _ hf => hf))
  clear t1 tA kZ0 kz1
  go_wp2_with fail
  go_loop [9] (fun a => ∃ k : Nat, a = .int .i64 ((p + k : Nat) : Int) ∧ k ≤ s.length) (fun a => l.length - (intOf a).toNat)
  case atStart => exact ⟨0, rfl, Nat.zero_le _⟩
  case round =>
  obtain ⟨k, rfl, hk⟩ := hrel
  by_cases hks : k < s.length
  · have hlt : p + k < l.length := by omega
    have hqi : ((p + k : Nat) : Int) < (l.length : Int) := by omega
    have hsy : Lx.isSymbol l[p + k] = true := (HT.out k hk _ (by rw [List.getElem?_drop, List.getElem?_eq_getElem hlt])).2 hks
    have c3 : ∀ w, Calls Tryz.prog 81 #[.int .u8 ((⟨l.toArray⟩ : ByteArray)[p + k]'(by simpa [ByteArray.size] using hlt)).toNat] w fun e w' => e = .returned (.bool true) ∧ w' = w := fun w => by
      have := rsymbol_any l[p + k] w
      rw [hsy] at this
      exact this
    have C3 := Lib.hid c3
    have hm : (p + (k + 1) : Nat) = p + k + 1 := by omega
    have Hm := Lib.hid hm
    clear c3 hsy hm
    go_wp2_with (go_at_call 81; refine (C3.out _).mono ?_; rintro e w' ⟨rfl, rfl⟩)
    go_round
    case rel => exact ⟨k + 1, by rw [Hm.out]; go_num, by omega⟩
    case measure => simp [intOf]; omega
  have hkE : k = s.length := by omega
  clear hks hk
  subst hkE
  by_cases hlt : p + s.length < l.length
  · have hqi : ((p + s.length : Nat) : Int) < (l.length : Int) := by omega
    have hsy : Lx.isSymbol l[p + s.length] = false := by
      have := HT.out s.length (Nat.le_refl _) _ (by rw [List.getElem?_drop, List.getElem?_eq_getElem hlt])
      cases hb : Lx.isSymbol l[p + s.length] with
      | false => rfl
      | true => have := this.1 hb; omega
    have c3 : ∀ w, Calls Tryz.prog 81 #[.int .u8 ((⟨l.toArray⟩ : ByteArray)[p + s.length]'(by simpa [ByteArray.size] using hlt)).toNat] w fun e w' => e = .returned (.bool false) ∧ w' = w := fun w => by
      have := rsymbol_any l[p + s.length] w
      rw [hsy] at this
      exact this
    have C3 := Lib.hid c3
    clear c3 hsy
    go_wp2_with (go_at_call 81; refine (C3.out _).mono ?_; rintro e V1 ⟨rfl, rfl⟩)
    have kT := heap_alloc_new V1 (.cells #[.int .i64 4, .int .i64 0, .string ⟨s.toArray⟩, .int .i64 p, .int .i64 ((p : Int) + (s.length : Int))] 43)
    have kZ := (Below.heap_alloc V1 (.cells #[.int .i64 4, .int .i64 0, .string ⟨s.toArray⟩, .int .i64 p, .int .i64 ((p : Int) + (s.length : Int))] 43) _ (lt_of_block Kz1.out)).trans Kz1.out
    have tV := T1.out.alloc (.cells #[.int .i64 4, .int .i64 0, .string ⟨s.toArray⟩, .int .i64 p, .int .i64 ((p : Int) + (s.length : Int))] 43)
    have hYZ0 : Z ≠ V1.heap.size := by have := lt_of_block Kz1.out; omega
    have hYw0 : ∀ k, k < w.heap.size → k ≠ V1.heap.size := fun k hk => by have := T1.out.size; omega
    generalize V1.alloc (.cells #[.int .i64 4, .int .i64 0, .string ⟨s.toArray⟩, .int .i64 p, .int .i64 ((p : Int) + (s.length : Int))] 43) = V at *
    generalize V1.heap.size = Y at *
    have TV := Lib.hid tV
    have hYZ : Z ≠ Y := hYZ0
    have HYw : Hid (∀ k, k < Z → k ≠ Y) := Lib.hid (fun k hk => hYw0 k (by rw [HZe.out]; exact hk))
    clear tV hYZ0 hYw0
    have lZ := lt_of_block kZ
    have lT := lt_of_block kT
    have KZ := Lib.hid kZ
    have KT := Lib.hid kT
    have Sof : ∀ w' : World, Turned V w' (fun _ => False) → w'.cell? ⟨Y, 2, none⟩ = some (.string ⟨s.toArray⟩) ∧ Turned V w' (fun _ => False) := fun w' t => by
      have k1 := (t.block Y lT (fun hf => hf)).trans kT
      exact ⟨by simp [World.cell?, k1], t⟩
    have HSof := Lib.hid Sof
    have q2 := (Sof V (Turned.refl _ _)).1
    have tt : Turned V V.drew (fun _ => False) := (Turned.refl V _).drew
    clear Sof kZ kT
    go_region_held3 (fun w' => w'.cell? ⟨Y, 2, none⟩ = some (.string ⟨s.toArray⟩) ∧ Turned V w' (fun _ => False))
      (first | exact HSof.out _ (by assumption) | exact HSof.out _ (Turned.drew (by assumption)) | exact HSof.out _ (tt.trans t1 (fun _ _ hf => hf)) | exact HSof.out _ ((tt.trans t1 (fun _ _ hf => hf)).trans t2 (fun _ _ hf => hf)))
      (first
        | (go_at_call 21; refine (rsignsK _).mono ?_; rintro e w1 ⟨rfl, kW, t1⟩)
        | (go_at_call 77; refine (rinK _ _ 24 Lx.signs s false rsigns_len (by omega) kW Hr.out).mono ?_; rintro e w2 ⟨rfl, t2⟩))
    have t3 : Turned V w2 (fun _ => False) := (tt.trans t1 (fun _ _ hf => hf)).trans t2 (fun _ _ hf => hf)
    have kz2 := (t3.block Z lZ (fun hf => hf)).trans KZ.out
    have kt2 := (t3.block Y lT (fun hf => hf)).trans KT.out
    have T3 := Lib.hid (TV.out.trans t3 (fun _ _ hf => hf))
    clear t1 t2 t3 tt kW q2 lZ lT KZ KT TV HSof
    have z0 : w2.cell? ⟨Z, 0, none⟩ = some (.int .i64 0) := by simp [World.cell?, kz2]
    have z1 : w2.cell? ⟨Z, 1, none⟩ = some (.int .i64 0) := by simp [World.cell?, kz2]
    have z2 : w2.cell? ⟨Z, 2, none⟩ = some (.string ⟨#[]⟩) := by simp [World.cell?, kz2]
    have z3 : w2.cell? ⟨Z, 3, none⟩ = some (.int .i64 0) := by simp [World.cell?, kz2]
    have z4 : w2.cell? ⟨Z, 4, none⟩ = some (.int .i64 0) := by simp [World.cell?, kz2]
    have fz : ∀ i, w2.frozen? ⟨Z, i, none⟩ = false := fun i => by simp [World.frozen?, kz2]
    have ft : ∀ i, w2.frozen? ⟨Y, i, none⟩ = false := fun i => by simp [World.frozen?, kt2]
    have r0 : w2.cell? ⟨Y, 0, none⟩ = some (.int .i64 4) := by simp [World.cell?, kt2]
    have r1 : w2.cell? ⟨Y, 1, none⟩ = some (.int .i64 0) := by simp [World.cell?, kt2]
    have r2 : w2.cell? ⟨Y, 2, none⟩ = some (.string ⟨s.toArray⟩) := by simp [World.cell?, kt2]
    have r3 : w2.cell? ⟨Y, 3, none⟩ = some (.int .i64 p) := by simp [World.cell?, kt2]
    have r4 : w2.cell? ⟨Y, 4, none⟩ = some (.int .i64 ((p : Int) + (s.length : Int))) := by simp [World.cell?, kt2]
    have lz2 := lt_of_block kz2
    have lt2 := lt_of_block kt2
    have Kz2 := Lib.hid kz2
    have fz0 := fz 0
    have fz1 := fz 1
    have fz2 := fz 2
    have fz3 := fz 3
    have fz4 := fz 4
    have ft0 := ft 0
    clear kz2 kt2 fz ft
    by_cases h0 : 0 < s.length
    · have hg0 := decide_eq_true (show (p : Int) < (p : Int) + (s.length : Int) by omega)
      by_cases h32 : s.length ≤ 32
      · have hd := decide_eq_true (show (p : Int) + (s.length : Int) - (p : Int) ≤ 32 by omega)
        have hc := Hcut.out
        rw [if_pos ⟨h0, h32⟩, show Lx.kindOf Lx.signs s 4 5 = 4 by unfold Lx.kindOf; rw [Hr.out]; rfl] at hc
        have Hc := Lib.hid hc
        clear hc
        go_wp2
        obtain ⟨g1, g2⟩ := store5 Kz2.out (.int .i64 4) (.int .i64 0) (.string ⟨s.toArray⟩) (.int .i64 p) (.int .i64 ((p : Int) + (s.length : Int)))
        refine one_end g1 rfl rfl ⟨.inl ⟨_, _, _, _, Hc.out, ?_⟩, ?_⟩
        · unfold tokAgg
          simp
        · exact T3.out.trans g2 (fun k hk e => by have := HZe.out; omega)
      · have hd := decide_eq_false (show ¬ (p : Int) + (s.length : Int) - (p : Int) ≤ 32 by omega)
        have hc := Hcut.out
        rw [if_neg (fun h => h32 h.2)] at hc
        have Hc := Lib.hid hc
        clear hc
        go_wp2
        obtain ⟨g1, g2⟩ := store5 Kz2.out (.int .i64 4) (.int .i64 0) (.string ⟨s.toArray⟩) (.int .i64 p) (.int .i64 ((p : Int) + (s.length : Int)))
        refine one_end g1 rfl rfl ⟨.inr ⟨Hc.out, ⟨4, 0, s, p, (p : Int) + (s.length : Int)⟩, rfl⟩, ?_⟩
        exact T3.out.trans g2 (fun k hk e => by have := HZe.out; omega)
    · have hg0 := decide_eq_false (show ¬ (p : Int) < (p : Int) + (s.length : Int) by omega)
      have hc := Hcut.out
      rw [if_neg (fun h => h0 h.1)] at hc
      have Hc := Lib.hid hc
      clear hc
      go_wp2
      obtain ⟨g1, g2⟩ := store5 Kz2.out (.int .i64 4) (.int .i64 0) (.string ⟨s.toArray⟩) (.int .i64 p) (.int .i64 ((p : Int) + (s.length : Int)))
      refine one_end g1 rfl rfl ⟨.inr ⟨Hc.out, ⟨4, 0, s, p, (p : Int) + (s.length : Int)⟩, rfl⟩, ?_⟩
      exact T3.out.trans g2 (fun k hk e => by have := HZe.out; omega)
  · have hnl : ¬ ((p + s.length : Nat) : Int) < (l.length : Int) := by omega
    go_wp2_with fail
    have kT := heap_alloc_new V1 (.cells #[.int .i64 4, .int .i64 0, .string ⟨s.toArray⟩, .int .i64 p, .int .i64 ((p : Int) + (s.length : Int))] 43)
    have kZ := (Below.heap_alloc V1 (.cells #[.int .i64 4, .int .i64 0, .string ⟨s.toArray⟩, .int .i64 p, .int .i64 ((p : Int) + (s.length : Int))] 43) _ (lt_of_block Kz1.out)).trans Kz1.out
    have tV := T1.out.alloc (.cells #[.int .i64 4, .int .i64 0, .string ⟨s.toArray⟩, .int .i64 p, .int .i64 ((p : Int) + (s.length : Int))] 43)
    have hYZ0 : Z ≠ V1.heap.size := by have := lt_of_block Kz1.out; omega
    have hYw0 : ∀ k, k < w.heap.size → k ≠ V1.heap.size := fun k hk => by have := T1.out.size; omega
    generalize V1.alloc (.cells #[.int .i64 4, .int .i64 0, .string ⟨s.toArray⟩, .int .i64 p, .int .i64 ((p : Int) + (s.length : Int))] 43) = V at *
    generalize V1.heap.size = Y at *
    have TV := Lib.hid tV
    have hYZ : Z ≠ Y := hYZ0
    have HYw : Hid (∀ k, k < Z → k ≠ Y) := Lib.hid (fun k hk => hYw0 k (by rw [HZe.out]; exact hk))
    clear tV hYZ0 hYw0
    have lZ := lt_of_block kZ
    have lT := lt_of_block kT
    have KZ := Lib.hid kZ
    have KT := Lib.hid kT
    have Sof : ∀ w' : World, Turned V w' (fun _ => False) → w'.cell? ⟨Y, 2, none⟩ = some (.string ⟨s.toArray⟩) ∧ Turned V w' (fun _ => False) := fun w' t => by
      have k1 := (t.block Y lT (fun hf => hf)).trans kT
      exact ⟨by simp [World.cell?, k1], t⟩
    have HSof := Lib.hid Sof
    have q2 := (Sof V (Turned.refl _ _)).1
    have tt : Turned V V.drew (fun _ => False) := (Turned.refl V _).drew
    clear Sof kZ kT
    go_region_held3 (fun w' => w'.cell? ⟨Y, 2, none⟩ = some (.string ⟨s.toArray⟩) ∧ Turned V w' (fun _ => False))
      (first | exact HSof.out _ (by assumption) | exact HSof.out _ (Turned.drew (by assumption)) | exact HSof.out _ (tt.trans t1 (fun _ _ hf => hf)) | exact HSof.out _ ((tt.trans t1 (fun _ _ hf => hf)).trans t2 (fun _ _ hf => hf)))
      (first
        | (go_at_call 21; refine (rsignsK _).mono ?_; rintro e w1 ⟨rfl, kW, t1⟩)
        | (go_at_call 77; refine (rinK _ _ 24 Lx.signs s false rsigns_len (by omega) kW Hr.out).mono ?_; rintro e w2 ⟨rfl, t2⟩))
    have t3 : Turned V w2 (fun _ => False) := (tt.trans t1 (fun _ _ hf => hf)).trans t2 (fun _ _ hf => hf)
    have kz2 := (t3.block Z lZ (fun hf => hf)).trans KZ.out
    have kt2 := (t3.block Y lT (fun hf => hf)).trans KT.out
    have T3 := Lib.hid (TV.out.trans t3 (fun _ _ hf => hf))
    clear t1 t2 t3 tt kW q2 lZ lT KZ KT TV HSof
    have z0 : w2.cell? ⟨Z, 0, none⟩ = some (.int .i64 0) := by simp [World.cell?, kz2]
    have z1 : w2.cell? ⟨Z, 1, none⟩ = some (.int .i64 0) := by simp [World.cell?, kz2]
    have z2 : w2.cell? ⟨Z, 2, none⟩ = some (.string ⟨#[]⟩) := by simp [World.cell?, kz2]
    have z3 : w2.cell? ⟨Z, 3, none⟩ = some (.int .i64 0) := by simp [World.cell?, kz2]
    have z4 : w2.cell? ⟨Z, 4, none⟩ = some (.int .i64 0) := by simp [World.cell?, kz2]
    have fz : ∀ i, w2.frozen? ⟨Z, i, none⟩ = false := fun i => by simp [World.frozen?, kz2]
    have ft : ∀ i, w2.frozen? ⟨Y, i, none⟩ = false := fun i => by simp [World.frozen?, kt2]
    have r0 : w2.cell? ⟨Y, 0, none⟩ = some (.int .i64 4) := by simp [World.cell?, kt2]
    have r1 : w2.cell? ⟨Y, 1, none⟩ = some (.int .i64 0) := by simp [World.cell?, kt2]
    have r2 : w2.cell? ⟨Y, 2, none⟩ = some (.string ⟨s.toArray⟩) := by simp [World.cell?, kt2]
    have r3 : w2.cell? ⟨Y, 3, none⟩ = some (.int .i64 p) := by simp [World.cell?, kt2]
    have r4 : w2.cell? ⟨Y, 4, none⟩ = some (.int .i64 ((p : Int) + (s.length : Int))) := by simp [World.cell?, kt2]
    have lz2 := lt_of_block kz2
    have lt2 := lt_of_block kt2
    have Kz2 := Lib.hid kz2
    have fz0 := fz 0
    have fz1 := fz 1
    have fz2 := fz 2
    have fz3 := fz 3
    have fz4 := fz 4
    have ft0 := ft 0
    clear kz2 kt2 fz ft
    by_cases h0 : 0 < s.length
    · have hg0 := decide_eq_true (show (p : Int) < (p : Int) + (s.length : Int) by omega)
      by_cases h32 : s.length ≤ 32
      · have hd := decide_eq_true (show (p : Int) + (s.length : Int) - (p : Int) ≤ 32 by omega)
        have hc := Hcut.out
        rw [if_pos ⟨h0, h32⟩, show Lx.kindOf Lx.signs s 4 5 = 4 by unfold Lx.kindOf; rw [Hr.out]; rfl] at hc
        have Hc := Lib.hid hc
        clear hc
        go_wp2
        obtain ⟨g1, g2⟩ := store5 Kz2.out (.int .i64 4) (.int .i64 0) (.string ⟨s.toArray⟩) (.int .i64 p) (.int .i64 ((p : Int) + (s.length : Int)))
        refine one_end g1 rfl rfl ⟨.inl ⟨_, _, _, _, Hc.out, ?_⟩, ?_⟩
        · unfold tokAgg
          simp
        · exact T3.out.trans g2 (fun k hk e => by have := HZe.out; omega)
      · have hd := decide_eq_false (show ¬ (p : Int) + (s.length : Int) - (p : Int) ≤ 32 by omega)
        have hc := Hcut.out
        rw [if_neg (fun h => h32 h.2)] at hc
        have Hc := Lib.hid hc
        clear hc
        go_wp2
        obtain ⟨g1, g2⟩ := store5 Kz2.out (.int .i64 4) (.int .i64 0) (.string ⟨s.toArray⟩) (.int .i64 p) (.int .i64 ((p : Int) + (s.length : Int)))
        refine one_end g1 rfl rfl ⟨.inr ⟨Hc.out, ⟨4, 0, s, p, (p : Int) + (s.length : Int)⟩, rfl⟩, ?_⟩
        exact T3.out.trans g2 (fun k hk e => by have := HZe.out; omega)
    · exfalso
      omega

set_option maxRecDepth 100000 in
set_option maxHeartbeats 3200000 in
theorem rone_sym_true (l : Lx.Bytes) (p : Nat) (hl : l.length ≤ 1000000) (hp : p < l.length) (hc : Lx.isLetter l[p] = false) (hd : Lx.isDigit l[p] = false) (s : Lx.Bytes) (hs : s = (l.drop p).takeWhile Lx.isSymbol)
    (hbe : Lx.bestOf (l.drop p) Lx.signs [] = []) (hcut : Lx.cut1 (l.drop p) = if 0 < s.length ∧ s.length ≤ 32 then .tok (Lx.kindOf Lx.signs s 4 5) 0 s s.length else .bad) (hr : Lx.signs.contains s = true) (w : World) :
    Calls Tryz.prog 45 #[.string ⟨l.toArray⟩, .int .i64 p] w (OnePost l p w) := by
  have hpi : (p : Int) < (l.length : Int) := by omega
  have c1 : ∀ w, Calls Tryz.prog 75 #[.int .u8 ((⟨l.toArray⟩ : ByteArray)[p]'(by simpa [ByteArray.size] using hp)).toNat] w fun e w' => e = .returned (.bool false) ∧ w' = w := fun w => by
    have := rletter_any l[p] w
    rw [hc] at this
    exact this
  have c2 : ∀ w, Calls Tryz.prog 78 #[.int .u8 ((⟨l.toArray⟩ : ByteArray)[p]'(by simpa [ByteArray.size] using hp)).toNat] w fun e w' => e = .returned (.bool false) ∧ w' = w := fun w => by
    have := rdigit_any l[p] w
    rw [hd] at this
    exact this
  have C1 := Lib.hid c1
  have C2 := Lib.hid c2
  have hS := fun w => rsign_any l p hl (Nat.le_of_lt hp) w
  rw [hbe] at hS
  have HS := Lib.hid hS
  have htl : s.length ≤ l.length - p := by rw [hs]; have := Lx.takeWhile_len Lx.isSymbol (l.drop p); rwa [List.length_drop] at this
  have ht : ∀ k, k ≤ s.length → ∀ c, (l.drop p)[k]? = some c → (Lx.isSymbol c = true ↔ k < s.length) := by rw [hs]; exact tw_lt Lx.isSymbol (l.drop p)
  have HT := Lib.hid ht
  have hst : s = (l.drop p).take s.length := by
    have := List.takeWhile_prefix (p := Lx.isSymbol) (l := l.drop p)
    rw [← hs] at this
    exact List.prefix_iff_eq_take.1 this
  have hex : (ByteArray.mk l.toArray).extract p (p + s.length) = ⟨s.toArray⟩ := by
    rw [Lib.extract_eq, show p + s.length - p = s.length by omega, ← hst]
  have hpe : ((p + s.length : Nat) : Int) ≤ (l.length : Int) := by omega
  have hpe2 : (p : Int) ≤ ((p + s.length : Nat) : Int) := by omega
  have Hcut := Lib.hid hcut
  have Hr := Lib.hid hr
  clear c1 c2 hc hd hS hbe hcut ht hst hs hr
  go_enter Tryz.func45, Tryz.ntmps45
  go_wp2_with (first | (go_at_call 75; refine (C1.out _).mono ?_; rintro e w' ⟨rfl, rfl⟩) | (go_at_call 78; refine (C2.out _).mono ?_; rintro e w' ⟨rfl, rfl⟩))
  have kZ0 := heap_alloc_new w (.cells #[.int .i64 0, .int .i64 0, .string ⟨#[]⟩, .int .i64 0, .int .i64 0] 43)
  have tA : Turned w (w.alloc (.cells #[.int .i64 0, .int .i64 0, .string ⟨#[]⟩, .int .i64 0, .int .i64 0] 43)) (fun _ => False) := (Turned.refl w _).alloc _
  generalize w.alloc (.cells #[.int .i64 0, .int .i64 0, .string ⟨#[]⟩, .int .i64 0, .int .i64 0] 43) = V0 at *
  generalize hZe : w.heap.size = Z at *
  have HZe := Lib.hid hZe
  clear hZe
  refine (HS.out _).mono ?_
  rintro e V1 ⟨rfl, t1⟩
  have kz1 := (t1.block Z (lt_of_block kZ0) (fun hf => hf)).trans kZ0
  have Kz1 := Lib.hid kz1
  have T1 := Lib.hid (tA.trans t1 (fun _ _ hf => hf))
  clear t1 tA kZ0 kz1
  go_wp2_with fail
  go_loop [9] (fun a => ∃ k : Nat, a = .int .i64 ((p + k : Nat) : Int) ∧ k ≤ s.length) (fun a => l.length - (intOf a).toNat)
  case atStart => exact ⟨0, rfl, Nat.zero_le _⟩
  case round =>
  obtain ⟨k, rfl, hk⟩ := hrel
  by_cases hks : k < s.length
  · have hlt : p + k < l.length := by omega
    have hqi : ((p + k : Nat) : Int) < (l.length : Int) := by omega
    have hsy : Lx.isSymbol l[p + k] = true := (HT.out k hk _ (by rw [List.getElem?_drop, List.getElem?_eq_getElem hlt])).2 hks
    have c3 : ∀ w, Calls Tryz.prog 81 #[.int .u8 ((⟨l.toArray⟩ : ByteArray)[p + k]'(by simpa [ByteArray.size] using hlt)).toNat] w fun e w' => e = .returned (.bool true) ∧ w' = w := fun w => by
      have := rsymbol_any l[p + k] w
      rw [hsy] at this
      exact this
    have C3 := Lib.hid c3
    have hm : (p + (k + 1) : Nat) = p + k + 1 := by omega
    have Hm := Lib.hid hm
    clear c3 hsy hm
    go_wp2_with (go_at_call 81; refine (C3.out _).mono ?_; rintro e w' ⟨rfl, rfl⟩)
    go_round
    case rel => exact ⟨k + 1, by rw [Hm.out]; go_num, by omega⟩
    case measure => simp [intOf]; omega
  have hkE : k = s.length := by omega
  clear hks hk
  subst hkE
  by_cases hlt : p + s.length < l.length
  · have hqi : ((p + s.length : Nat) : Int) < (l.length : Int) := by omega
    have hsy : Lx.isSymbol l[p + s.length] = false := by
      have := HT.out s.length (Nat.le_refl _) _ (by rw [List.getElem?_drop, List.getElem?_eq_getElem hlt])
      cases hb : Lx.isSymbol l[p + s.length] with
      | false => rfl
      | true => have := this.1 hb; omega
    have c3 : ∀ w, Calls Tryz.prog 81 #[.int .u8 ((⟨l.toArray⟩ : ByteArray)[p + s.length]'(by simpa [ByteArray.size] using hlt)).toNat] w fun e w' => e = .returned (.bool false) ∧ w' = w := fun w => by
      have := rsymbol_any l[p + s.length] w
      rw [hsy] at this
      exact this
    have C3 := Lib.hid c3
    clear c3 hsy
    go_wp2_with (go_at_call 81; refine (C3.out _).mono ?_; rintro e V1 ⟨rfl, rfl⟩)
    have kT := heap_alloc_new V1 (.cells #[.int .i64 4, .int .i64 0, .string ⟨s.toArray⟩, .int .i64 p, .int .i64 ((p : Int) + (s.length : Int))] 43)
    have kZ := (Below.heap_alloc V1 (.cells #[.int .i64 4, .int .i64 0, .string ⟨s.toArray⟩, .int .i64 p, .int .i64 ((p : Int) + (s.length : Int))] 43) _ (lt_of_block Kz1.out)).trans Kz1.out
    have tV := T1.out.alloc (.cells #[.int .i64 4, .int .i64 0, .string ⟨s.toArray⟩, .int .i64 p, .int .i64 ((p : Int) + (s.length : Int))] 43)
    have hYZ0 : Z ≠ V1.heap.size := by have := lt_of_block Kz1.out; omega
    have hYw0 : ∀ k, k < w.heap.size → k ≠ V1.heap.size := fun k hk => by have := T1.out.size; omega
    generalize V1.alloc (.cells #[.int .i64 4, .int .i64 0, .string ⟨s.toArray⟩, .int .i64 p, .int .i64 ((p : Int) + (s.length : Int))] 43) = V at *
    generalize V1.heap.size = Y at *
    have TV := Lib.hid tV
    have hYZ : Z ≠ Y := hYZ0
    have HYw : Hid (∀ k, k < Z → k ≠ Y) := Lib.hid (fun k hk => hYw0 k (by rw [HZe.out]; exact hk))
    clear tV hYZ0 hYw0
    have lZ := lt_of_block kZ
    have lT := lt_of_block kT
    have KZ := Lib.hid kZ
    have KT := Lib.hid kT
    have Sof : ∀ w' : World, Turned V w' (fun _ => False) → w'.cell? ⟨Y, 2, none⟩ = some (.string ⟨s.toArray⟩) ∧ Turned V w' (fun _ => False) := fun w' t => by
      have k1 := (t.block Y lT (fun hf => hf)).trans kT
      exact ⟨by simp [World.cell?, k1], t⟩
    have HSof := Lib.hid Sof
    have q2 := (Sof V (Turned.refl _ _)).1
    have tt : Turned V V.drew (fun _ => False) := (Turned.refl V _).drew
    clear Sof kZ kT
    go_region_held3 (fun w' => w'.cell? ⟨Y, 2, none⟩ = some (.string ⟨s.toArray⟩) ∧ Turned V w' (fun _ => False))
      (first | exact HSof.out _ (by assumption) | exact HSof.out _ (Turned.drew (by assumption)) | exact HSof.out _ (tt.trans t1 (fun _ _ hf => hf)) | exact HSof.out _ ((tt.trans t1 (fun _ _ hf => hf)).trans t2 (fun _ _ hf => hf)))
      (first
        | (go_at_call 21; refine (rsignsK _).mono ?_; rintro e w1 ⟨rfl, kW, t1⟩)
        | (go_at_call 77; refine (rinK _ _ 24 Lx.signs s true rsigns_len (by omega) kW Hr.out).mono ?_; rintro e w2 ⟨rfl, t2⟩))
    have t3 : Turned V w2 (fun _ => False) := (tt.trans t1 (fun _ _ hf => hf)).trans t2 (fun _ _ hf => hf)
    have kz2 := (t3.block Z lZ (fun hf => hf)).trans KZ.out
    have kt2 := (t3.block Y lT (fun hf => hf)).trans KT.out
    have T3 := Lib.hid (TV.out.trans t3 (fun _ _ hf => hf))
    clear t1 t2 t3 tt kW q2 lZ lT KZ KT TV HSof
    have z0 : w2.cell? ⟨Z, 0, none⟩ = some (.int .i64 0) := by simp [World.cell?, kz2]
    have z1 : w2.cell? ⟨Z, 1, none⟩ = some (.int .i64 0) := by simp [World.cell?, kz2]
    have z2 : w2.cell? ⟨Z, 2, none⟩ = some (.string ⟨#[]⟩) := by simp [World.cell?, kz2]
    have z3 : w2.cell? ⟨Z, 3, none⟩ = some (.int .i64 0) := by simp [World.cell?, kz2]
    have z4 : w2.cell? ⟨Z, 4, none⟩ = some (.int .i64 0) := by simp [World.cell?, kz2]
    have fz : ∀ i, w2.frozen? ⟨Z, i, none⟩ = false := fun i => by simp [World.frozen?, kz2]
    have ft : ∀ i, w2.frozen? ⟨Y, i, none⟩ = false := fun i => by simp [World.frozen?, kt2]
    have r0 : w2.cell? ⟨Y, 0, none⟩ = some (.int .i64 4) := by simp [World.cell?, kt2]
    have r1 : w2.cell? ⟨Y, 1, none⟩ = some (.int .i64 0) := by simp [World.cell?, kt2]
    have r2 : w2.cell? ⟨Y, 2, none⟩ = some (.string ⟨s.toArray⟩) := by simp [World.cell?, kt2]
    have r3 : w2.cell? ⟨Y, 3, none⟩ = some (.int .i64 p) := by simp [World.cell?, kt2]
    have r4 : w2.cell? ⟨Y, 4, none⟩ = some (.int .i64 ((p : Int) + (s.length : Int))) := by simp [World.cell?, kt2]
    have lz2 := lt_of_block kz2
    have lt2 := lt_of_block kt2
    have Kz2 := Lib.hid kz2
    have fz0 := fz 0
    have fz1 := fz 1
    have fz2 := fz 2
    have fz3 := fz 3
    have fz4 := fz 4
    have ft0 := ft 0
    clear kz2 kt2 fz ft
    by_cases h0 : 0 < s.length
    · have hg0 := decide_eq_true (show (p : Int) < (p : Int) + (s.length : Int) by omega)
      by_cases h32 : s.length ≤ 32
      · have hd := decide_eq_true (show (p : Int) + (s.length : Int) - (p : Int) ≤ 32 by omega)
        have hc := Hcut.out
        rw [if_pos ⟨h0, h32⟩, show Lx.kindOf Lx.signs s 4 5 = 5 by unfold Lx.kindOf; rw [Hr.out]; rfl] at hc
        have Hc := Lib.hid hc
        clear hc
        go_wp2
        obtain ⟨g1, g2⟩ := store5 ((Below.heap_setCell w2 ⟨Y, 0, none⟩ (.int .i64 5) _ hYZ).trans Kz2.out) (.int .i64 5) (.int .i64 0) (.string ⟨s.toArray⟩) (.int .i64 p) (.int .i64 ((p : Int) + (s.length : Int)))
        refine one_end g1 rfl rfl ⟨.inl ⟨_, _, _, _, Hc.out, ?_⟩, ?_⟩
        · unfold tokAgg
          simp
        · exact (T3.out.trans ((Turned.refl w2 (fun k => k = Y)).setCell (p := ⟨Y, 0, none⟩) (fun _ => rfl) (.int .i64 5)) (fun k hk e => HYw.out k (by rw [← HZe.out]; exact hk) e)).trans g2 (fun k hk e => by have := HZe.out; omega)
      · have hd := decide_eq_false (show ¬ (p : Int) + (s.length : Int) - (p : Int) ≤ 32 by omega)
        have hc := Hcut.out
        rw [if_neg (fun h => h32 h.2)] at hc
        have Hc := Lib.hid hc
        clear hc
        go_wp2
        obtain ⟨g1, g2⟩ := store5 ((Below.heap_setCell w2 ⟨Y, 0, none⟩ (.int .i64 5) _ hYZ).trans Kz2.out) (.int .i64 5) (.int .i64 0) (.string ⟨s.toArray⟩) (.int .i64 p) (.int .i64 ((p : Int) + (s.length : Int)))
        refine one_end g1 rfl rfl ⟨.inr ⟨Hc.out, ⟨5, 0, s, p, (p : Int) + (s.length : Int)⟩, rfl⟩, ?_⟩
        exact (T3.out.trans ((Turned.refl w2 (fun k => k = Y)).setCell (p := ⟨Y, 0, none⟩) (fun _ => rfl) (.int .i64 5)) (fun k hk e => HYw.out k (by rw [← HZe.out]; exact hk) e)).trans g2 (fun k hk e => by have := HZe.out; omega)
    · have hg0 := decide_eq_false (show ¬ (p : Int) < (p : Int) + (s.length : Int) by omega)
      have hc := Hcut.out
      rw [if_neg (fun h => h0 h.1)] at hc
      have Hc := Lib.hid hc
      clear hc
      go_wp2
      obtain ⟨g1, g2⟩ := store5 ((Below.heap_setCell w2 ⟨Y, 0, none⟩ (.int .i64 5) _ hYZ).trans Kz2.out) (.int .i64 5) (.int .i64 0) (.string ⟨s.toArray⟩) (.int .i64 p) (.int .i64 ((p : Int) + (s.length : Int)))
      refine one_end g1 rfl rfl ⟨.inr ⟨Hc.out, ⟨5, 0, s, p, (p : Int) + (s.length : Int)⟩, rfl⟩, ?_⟩
      exact (T3.out.trans ((Turned.refl w2 (fun k => k = Y)).setCell (p := ⟨Y, 0, none⟩) (fun _ => rfl) (.int .i64 5)) (fun k hk e => HYw.out k (by rw [← HZe.out]; exact hk) e)).trans g2 (fun k hk e => by have := HZe.out; omega)
  · have hnl : ¬ ((p + s.length : Nat) : Int) < (l.length : Int) := by omega
    go_wp2_with fail
    have kT := heap_alloc_new V1 (.cells #[.int .i64 4, .int .i64 0, .string ⟨s.toArray⟩, .int .i64 p, .int .i64 ((p : Int) + (s.length : Int))] 43)
    have kZ := (Below.heap_alloc V1 (.cells #[.int .i64 4, .int .i64 0, .string ⟨s.toArray⟩, .int .i64 p, .int .i64 ((p : Int) + (s.length : Int))] 43) _ (lt_of_block Kz1.out)).trans Kz1.out
    have tV := T1.out.alloc (.cells #[.int .i64 4, .int .i64 0, .string ⟨s.toArray⟩, .int .i64 p, .int .i64 ((p : Int) + (s.length : Int))] 43)
    have hYZ0 : Z ≠ V1.heap.size := by have := lt_of_block Kz1.out; omega
    have hYw0 : ∀ k, k < w.heap.size → k ≠ V1.heap.size := fun k hk => by have := T1.out.size; omega
    generalize V1.alloc (.cells #[.int .i64 4, .int .i64 0, .string ⟨s.toArray⟩, .int .i64 p, .int .i64 ((p : Int) + (s.length : Int))] 43) = V at *
    generalize V1.heap.size = Y at *
    have TV := Lib.hid tV
    have hYZ : Z ≠ Y := hYZ0
    have HYw : Hid (∀ k, k < Z → k ≠ Y) := Lib.hid (fun k hk => hYw0 k (by rw [HZe.out]; exact hk))
    clear tV hYZ0 hYw0
    have lZ := lt_of_block kZ
    have lT := lt_of_block kT
    have KZ := Lib.hid kZ
    have KT := Lib.hid kT
    have Sof : ∀ w' : World, Turned V w' (fun _ => False) → w'.cell? ⟨Y, 2, none⟩ = some (.string ⟨s.toArray⟩) ∧ Turned V w' (fun _ => False) := fun w' t => by
      have k1 := (t.block Y lT (fun hf => hf)).trans kT
      exact ⟨by simp [World.cell?, k1], t⟩
    have HSof := Lib.hid Sof
    have q2 := (Sof V (Turned.refl _ _)).1
    have tt : Turned V V.drew (fun _ => False) := (Turned.refl V _).drew
    clear Sof kZ kT
    go_region_held3 (fun w' => w'.cell? ⟨Y, 2, none⟩ = some (.string ⟨s.toArray⟩) ∧ Turned V w' (fun _ => False))
      (first | exact HSof.out _ (by assumption) | exact HSof.out _ (Turned.drew (by assumption)) | exact HSof.out _ (tt.trans t1 (fun _ _ hf => hf)) | exact HSof.out _ ((tt.trans t1 (fun _ _ hf => hf)).trans t2 (fun _ _ hf => hf)))
      (first
        | (go_at_call 21; refine (rsignsK _).mono ?_; rintro e w1 ⟨rfl, kW, t1⟩)
        | (go_at_call 77; refine (rinK _ _ 24 Lx.signs s true rsigns_len (by omega) kW Hr.out).mono ?_; rintro e w2 ⟨rfl, t2⟩))
    have t3 : Turned V w2 (fun _ => False) := (tt.trans t1 (fun _ _ hf => hf)).trans t2 (fun _ _ hf => hf)
    have kz2 := (t3.block Z lZ (fun hf => hf)).trans KZ.out
    have kt2 := (t3.block Y lT (fun hf => hf)).trans KT.out
    have T3 := Lib.hid (TV.out.trans t3 (fun _ _ hf => hf))
    clear t1 t2 t3 tt kW q2 lZ lT KZ KT TV HSof
    have z0 : w2.cell? ⟨Z, 0, none⟩ = some (.int .i64 0) := by simp [World.cell?, kz2]
    have z1 : w2.cell? ⟨Z, 1, none⟩ = some (.int .i64 0) := by simp [World.cell?, kz2]
    have z2 : w2.cell? ⟨Z, 2, none⟩ = some (.string ⟨#[]⟩) := by simp [World.cell?, kz2]
    have z3 : w2.cell? ⟨Z, 3, none⟩ = some (.int .i64 0) := by simp [World.cell?, kz2]
    have z4 : w2.cell? ⟨Z, 4, none⟩ = some (.int .i64 0) := by simp [World.cell?, kz2]
    have fz : ∀ i, w2.frozen? ⟨Z, i, none⟩ = false := fun i => by simp [World.frozen?, kz2]
    have ft : ∀ i, w2.frozen? ⟨Y, i, none⟩ = false := fun i => by simp [World.frozen?, kt2]
    have r0 : w2.cell? ⟨Y, 0, none⟩ = some (.int .i64 4) := by simp [World.cell?, kt2]
    have r1 : w2.cell? ⟨Y, 1, none⟩ = some (.int .i64 0) := by simp [World.cell?, kt2]
    have r2 : w2.cell? ⟨Y, 2, none⟩ = some (.string ⟨s.toArray⟩) := by simp [World.cell?, kt2]
    have r3 : w2.cell? ⟨Y, 3, none⟩ = some (.int .i64 p) := by simp [World.cell?, kt2]
    have r4 : w2.cell? ⟨Y, 4, none⟩ = some (.int .i64 ((p : Int) + (s.length : Int))) := by simp [World.cell?, kt2]
    have lz2 := lt_of_block kz2
    have lt2 := lt_of_block kt2
    have Kz2 := Lib.hid kz2
    have fz0 := fz 0
    have fz1 := fz 1
    have fz2 := fz 2
    have fz3 := fz 3
    have fz4 := fz 4
    have ft0 := ft 0
    clear kz2 kt2 fz ft
    by_cases h0 : 0 < s.length
    · have hg0 := decide_eq_true (show (p : Int) < (p : Int) + (s.length : Int) by omega)
      by_cases h32 : s.length ≤ 32
      · have hd := decide_eq_true (show (p : Int) + (s.length : Int) - (p : Int) ≤ 32 by omega)
        have hc := Hcut.out
        rw [if_pos ⟨h0, h32⟩, show Lx.kindOf Lx.signs s 4 5 = 5 by unfold Lx.kindOf; rw [Hr.out]; rfl] at hc
        have Hc := Lib.hid hc
        clear hc
        go_wp2
        obtain ⟨g1, g2⟩ := store5 ((Below.heap_setCell w2 ⟨Y, 0, none⟩ (.int .i64 5) _ hYZ).trans Kz2.out) (.int .i64 5) (.int .i64 0) (.string ⟨s.toArray⟩) (.int .i64 p) (.int .i64 ((p : Int) + (s.length : Int)))
        refine one_end g1 rfl rfl ⟨.inl ⟨_, _, _, _, Hc.out, ?_⟩, ?_⟩
        · unfold tokAgg
          simp
        · exact (T3.out.trans ((Turned.refl w2 (fun k => k = Y)).setCell (p := ⟨Y, 0, none⟩) (fun _ => rfl) (.int .i64 5)) (fun k hk e => HYw.out k (by rw [← HZe.out]; exact hk) e)).trans g2 (fun k hk e => by have := HZe.out; omega)
      · have hd := decide_eq_false (show ¬ (p : Int) + (s.length : Int) - (p : Int) ≤ 32 by omega)
        have hc := Hcut.out
        rw [if_neg (fun h => h32 h.2)] at hc
        have Hc := Lib.hid hc
        clear hc
        go_wp2
        obtain ⟨g1, g2⟩ := store5 ((Below.heap_setCell w2 ⟨Y, 0, none⟩ (.int .i64 5) _ hYZ).trans Kz2.out) (.int .i64 5) (.int .i64 0) (.string ⟨s.toArray⟩) (.int .i64 p) (.int .i64 ((p : Int) + (s.length : Int)))
        refine one_end g1 rfl rfl ⟨.inr ⟨Hc.out, ⟨5, 0, s, p, (p : Int) + (s.length : Int)⟩, rfl⟩, ?_⟩
        exact (T3.out.trans ((Turned.refl w2 (fun k => k = Y)).setCell (p := ⟨Y, 0, none⟩) (fun _ => rfl) (.int .i64 5)) (fun k hk e => HYw.out k (by rw [← HZe.out]; exact hk) e)).trans g2 (fun k hk e => by have := HZe.out; omega)
    · exfalso
      omega

end Go.Proofs.YtbcmjinifilamaaGreatDoor
