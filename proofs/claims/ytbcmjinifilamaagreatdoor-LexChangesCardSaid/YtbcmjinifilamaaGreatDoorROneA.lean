/- The reference: one token, whatever begins it. -/
import Derived.Test.YtbcmjinifilamaaGreatDoorROneS
namespace Go.Proofs.YtbcmjinifilamaaGreatDoor
open Go.RowKit

theorem digit_no_letter (b : UInt8) (h : Lx.isDigit b = true) : Lx.isLetter b = false := by
  have h2 := all_u8 (p := fun b => !(Lx.isDigit b && Lx.isLetter b)) (by decide +kernel) b
  simpa [h] using h2

theorem cutNumber_fine (x : Lx.Bytes) : Lx.cutNumber x = if numFine x then .tok 3 (Lx.num (x.takeWhile Lx.isDigit)) [] (x.takeWhile Lx.isDigit).length else .bad := rfl

set_option maxRecDepth 100000 in
set_option maxHeartbeats 3200000 in
theorem rone_sign (l : Lx.Bytes) (p m : Nat) (hl : l.length ≤ 1000000) (hp : p < l.length) (hc : Lx.isLetter l[p] = false) (hd : Lx.isDigit l[p] = false) (hsl : Lx.signLen (l.drop p) 3 ≤ 3 ∧ Lx.signLen (l.drop p) 3 ≤ (l.drop p).length)
    (hbe : Lx.bestOf (l.drop p) Lx.signs [] = (l.drop p).take (Lx.signLen (l.drop p) 3)) (hk : Lx.signLen (l.drop p) 3 = m + 1) (hcut : Lx.cut1 (l.drop p) = .tok 5 0 ((l.drop p).take (m + 1)) (m + 1)) (w : World) :
    Calls Tryz.prog 45 #[.string ⟨l.toArray⟩, .int .i64 p] w (OnePost l p w) := by
  have hpi : (p : Int) < (l.length : Int) := by omega
  have c1 : ∀ w, Calls Tryz.prog 75 #[.int .u8 ((⟨l.toArray⟩ : ByteArray)[p]'(by simpa [ByteArray.size] using hp)).toNat] w fun e w' => e = .returned (.bool false) ∧ w' = w := fun w => by
    have := rletter_any l[p] w
    rw [hc] at this
    exact this
  have c2 : ∀ w, Calls Tryz.prog 78 #[.int .u8 ((⟨l.toArray⟩ : ByteArray)[p]'(by simpa [ByteArray.size] using hp)).toNat] w fun e w' => e = .returned (.bool false) ∧ w' = w := fun w => by
    have := rdigit_any l[p] w
    rw [hd] at this
    exact this
  have C1 := Lib.hid c1
  have C2 := Lib.hid c2
  have hS := fun w => rsign_any l p hl (Nat.le_of_lt hp) w
  rw [hbe] at hS
  clear c1 c2 hc hd
  rw [hk] at hS hsl
  have hlen : ((l.drop p).take (m + 1)).length = m + 1 := by rw [List.length_take]; omega
  have hdl : (l.drop p).length = l.length - p := List.length_drop
  generalize hse : (l.drop p).take (m + 1) = s at *
  have hne : s.isEmpty = false := by
    cases s with
    | nil => simp at hlen
    | cons x xs => rfl
  have Hcut := Lib.hid hcut
  have HS := Lib.hid hS
  have Hlen := Lib.hid hlen
  have hsm : s.length ≤ 3 := by omega
  clear hcut hS hse hk hbe hlen
  go_enter Tryz.func45, Tryz.ntmps45
  go_wp2_with (first | (go_at_call 75; refine (C1.out _).mono ?_; rintro e w' ⟨rfl, rfl⟩) | (go_at_call 78; refine (C2.out _).mono ?_; rintro e w' ⟨rfl, rfl⟩))
  have kZ0 := heap_alloc_new w (.cells #[.int .i64 0, .int .i64 0, .string ⟨#[]⟩, .int .i64 0, .int .i64 0] 43)
  have tA : Turned w (w.alloc (.cells #[.int .i64 0, .int .i64 0, .string ⟨#[]⟩, .int .i64 0, .int .i64 0] 43)) (fun _ => False) := (Turned.refl w _).alloc _
  generalize w.alloc (.cells #[.int .i64 0, .int .i64 0, .string ⟨#[]⟩, .int .i64 0, .int .i64 0] 43) = V0 at *
  generalize hZe : w.heap.size = Z at *
  have HZe := Lib.hid hZe
  clear hZe
  refine (HS.out _).mono ?_
  rintro e V1 ⟨rfl, t1⟩
  have kz2 := (t1.block Z (lt_of_block kZ0) (fun hf => hf)).trans kZ0
  have T1 := Lib.hid (tA.trans t1 (fun _ _ hf => hf))
  clear t1 tA kZ0
  have z0 : V1.cell? ⟨Z, 0, none⟩ = some (.int .i64 0) := by simp [World.cell?, kz2]
  have z1 : V1.cell? ⟨Z, 1, none⟩ = some (.int .i64 0) := by simp [World.cell?, kz2]
  have z2 : V1.cell? ⟨Z, 2, none⟩ = some (.string ⟨#[]⟩) := by simp [World.cell?, kz2]
  have z3 : V1.cell? ⟨Z, 3, none⟩ = some (.int .i64 0) := by simp [World.cell?, kz2]
  have z4 : V1.cell? ⟨Z, 4, none⟩ = some (.int .i64 0) := by simp [World.cell?, kz2]
  have fz : ∀ i, V1.frozen? ⟨Z, i, none⟩ = false := fun i => by simp [World.frozen?, kz2]
  have fz0 := fz 0
  have fz1 := fz 1
  have fz2 := fz 2
  have fz3 := fz 3
  have fz4 := fz 4
  have lz2 := lt_of_block kz2
  have Kz2 := Lib.hid kz2
  clear kz2 fz
  go_wp2
  obtain ⟨g1, g2⟩ := store5 Kz2.out (.int .i64 5) (.int .i64 0) (.string ⟨s.toArray⟩) (.int .i64 p) (.int .i64 ((p : Int) + (s.length : Int)))
  refine one_end g1 rfl rfl ⟨.inl ⟨_, _, _, _, Hcut.out, ?_⟩, ?_⟩
  · unfold tokAgg
    rw [← Hlen.out]
    simp
  · exact T1.out.trans g2 (fun k hk e => by have := HZe.out; omega)

set_option maxRecDepth 100000 in
set_option maxHeartbeats 3200000 in
theorem rone_digit (l : Lx.Bytes) (p : Nat) (hl : l.length ≤ 1000000) (hp : p < l.length) (hd : Lx.isDigit l[p] = true) (hb : Lx.isBlank l[p] = false) (w : World) :
    Calls Tryz.prog 45 #[.string ⟨l.toArray⟩, .int .i64 p] w (OnePost l p w) := by
  have hc := digit_no_letter _ hd
  have hpi : (p : Int) < (l.length : Int) := by omega
  have c1 : ∀ w, Calls Tryz.prog 75 #[.int .u8 ((⟨l.toArray⟩ : ByteArray)[p]'(by simpa [ByteArray.size] using hp)).toNat] w fun e w' => e = .returned (.bool false) ∧ w' = w := fun w => by
    have := rletter_any l[p] w
    rw [hc] at this
    exact this
  have c2 : ∀ w, Calls Tryz.prog 78 #[.int .u8 ((⟨l.toArray⟩ : ByteArray)[p]'(by simpa [ByteArray.size] using hp)).toNat] w fun e w' => e = .returned (.bool true) ∧ w' = w := fun w => by
    have := rdigit_any l[p] w
    rw [hd] at this
    exact this
  have C1 := Lib.hid c1
  have C2 := Lib.hid c2
  have hcut : Lx.cut1 (l.drop p) = Lx.cutNumber (l.drop p) := by
    rw [Lx.drop_cons hp, Lx.cut1, if_neg (by simp [hb]), if_neg (by simp [hc]), if_pos hd]
  rw [cutNumber_fine] at hcut
  have hN := fun w => rnumber_any l p hl (Nat.le_of_lt hp) w
  have HN := Lib.hid hN
  have Hcut := Lib.hid hcut
  clear c1 c2 hc hd hb hN hcut
  go_enter Tryz.func45, Tryz.ntmps45
  go_wp2_with (first | (go_at_call 75; refine (C1.out _).mono ?_; rintro e w' ⟨rfl, rfl⟩) | (go_at_call 78; refine (C2.out _).mono ?_; rintro e w' ⟨rfl, rfl⟩))
  have kZ0 := heap_alloc_new w (.cells #[.int .i64 0, .int .i64 0, .string ⟨#[]⟩, .int .i64 0, .int .i64 0] 43)
  have tA : Turned w (w.alloc (.cells #[.int .i64 0, .int .i64 0, .string ⟨#[]⟩, .int .i64 0, .int .i64 0] 43)) (fun _ => False) := (Turned.refl w _).alloc _
  generalize w.alloc (.cells #[.int .i64 0, .int .i64 0, .string ⟨#[]⟩, .int .i64 0, .int .i64 0] 43) = V0 at *
  generalize hZe : w.heap.size = Z at *
  have HZe := Lib.hid hZe
  clear hZe
  refine (HN.out _).mono ?_
  rintro e V1 ⟨h1, t1⟩
  have kz2 := (t1.block Z (lt_of_block kZ0) (fun hf => hf)).trans kZ0
  have T1 := Lib.hid (tA.trans t1 (fun _ _ hf => hf))
  clear t1 tA kZ0
  have z0 : V1.cell? ⟨Z, 0, none⟩ = some (.int .i64 0) := by simp [World.cell?, kz2]
  have z1 : V1.cell? ⟨Z, 1, none⟩ = some (.int .i64 0) := by simp [World.cell?, kz2]
  have z2 : V1.cell? ⟨Z, 2, none⟩ = some (.string ⟨#[]⟩) := by simp [World.cell?, kz2]
  have z3 : V1.cell? ⟨Z, 3, none⟩ = some (.int .i64 0) := by simp [World.cell?, kz2]
  have z4 : V1.cell? ⟨Z, 4, none⟩ = some (.int .i64 0) := by simp [World.cell?, kz2]
  have fz : ∀ i, V1.frozen? ⟨Z, i, none⟩ = false := fun i => by simp [World.frozen?, kz2]
  have fz0 := fz 0
  have fz1 := fz 1
  have fz2 := fz 2
  have fz3 := fz 3
  have fz4 := fz 4
  have lz2 := lt_of_block kz2
  have Kz2 := Lib.hid kz2
  clear kz2 fz
  rcases h1 with ⟨hf, rfl⟩ | ⟨hf, rfl⟩
  · have hc := Hcut.out
    rw [if_pos hf] at hc
    have Hc := Lib.hid hc
    clear hc hf
    generalize (l.drop p).takeWhile Lx.isDigit = s at *
    unfold tokAgg
    have e1 : ((3 : Nat) : Int) = 3 := rfl
    simp only [e1]
    generalize hm : Lx.num s = m at *
    have Hm := Lib.hid hm
    clear hm
    go_wp2
    obtain ⟨g1, g2⟩ := store5 Kz2.out (.int .i64 3) (.int .i64 m) (.string ⟨#[]⟩) (.int .i64 p) (.int .i64 ((p + s.length : Nat) : Int))
    refine one_end g1 rfl rfl ⟨.inl ⟨_, _, _, _, Hc.out, ?_⟩, ?_⟩
    · unfold tokAgg
      rfl
    · exact T1.out.trans g2 (fun k hk e => by have := HZe.out; omega)
  · have hc := Hcut.out
    rw [if_neg (by simp [hf])] at hc
    have Hc := Lib.hid hc
    clear hc hf
    unfold zeroAgg
    go_wp2
    obtain ⟨g1, g2⟩ := store5 Kz2.out (.int .i64 0) (.int .i64 0) (.string ⟨#[]⟩) (.int .i64 0) (.int .i64 0)
    refine one_end g1 rfl rfl ⟨.inr ⟨Hc.out, ⟨0, 0, [], 0, 0⟩, rfl⟩, ?_⟩
    exact T1.out.trans g2 (fun k hk e => by have := HZe.out; omega)

theorem rone_any (l : Lx.Bytes) (p : Nat) (hl : l.length ≤ 1000000) (hp : p < l.length) (hb : Lx.isBlank l[p] = false) (h2 : (l.drop p).take 2 ≠ [40, 42]) (w : World) :
    Calls Tryz.prog 45 #[.string ⟨l.toArray⟩, .int .i64 p] w (OnePost l p w) := by
  by_cases hc : Lx.isLetter l[p] = true
  · exact rone_letter l p hl hp hc hb w
  by_cases hd : Lx.isDigit l[p] = true
  · exact rone_digit l p hl hp hd hb w
  simp only [Bool.not_eq_true] at hc hd
  have hdc := Lx.drop_cons hp
  have hcut : Lx.cut1 (l.drop p) = if Lx.isSymbol l[p] then Lx.cutSymbols (l.drop p) else Lx.cutSign (l.drop p) := by
    rw [hdc, Lx.cut1, if_neg (by simp [hb]), if_neg (by simp [hc]), if_neg (by simp [hd])]
  have two : ∀ s : Lx.Bytes, s = (l.drop p).takeWhile Lx.isSymbol → Lx.bestOf (l.drop p) Lx.signs [] = [] → (Lx.cut1 (l.drop p) = if 0 < s.length ∧ s.length ≤ 32 then .tok (Lx.kindOf Lx.signs s 4 5) 0 s s.length else .bad) →
      Calls Tryz.prog 45 #[.string ⟨l.toArray⟩, .int .i64 p] w (OnePost l p w) := fun s hs hbe hcu => by
    cases hr : Lx.signs.contains s with
    | false => exact rone_sym_false l p hl hp hc hd s hs hbe hcu hr w
    | true => exact rone_sym_true l p hl hp hc hd s hs hbe hcu hr w
  cases hsy : Lx.isSymbol l[p] with
  | true =>
    refine two _ rfl (by rw [hdc]; exact Lx.best_none _ _ hsy) ?_
    rw [hcut, hsy, if_pos rfl]
    unfold Lx.cutSymbols
    have h0 : 0 < ((l.drop p).takeWhile Lx.isSymbol).length := by rw [hdc, List.takeWhile_cons, if_pos hsy]; simp
    simp only
    by_cases h32 : ((l.drop p).takeWhile Lx.isSymbol).length ≤ 32
    · rw [if_pos h32, if_pos ⟨h0, h32⟩]
    · rw [if_neg h32, if_neg (fun h => h32 h.2)]
  | false =>
    have hbe : Lx.bestOf (l.drop p) Lx.signs [] = (l.drop p).take (Lx.signLen (l.drop p) 3) := by rw [hdc]; exact Lx.best_eq _ _ hsy
    rw [hsy, if_neg (by simp)] at hcut
    unfold Lx.cutSign at hcut
    rw [if_neg h2] at hcut
    have hsl := Lx.signLen_le (l.drop p) 3
    cases hk : Lx.signLen (l.drop p) 3 with
    | zero =>
      rw [hk] at hcut hbe
      have hnil : (l.drop p).takeWhile Lx.isSymbol = [] := by rw [hdc, List.takeWhile_cons, if_neg (by simp [hsy])]
      refine two [] hnil.symm (by rw [hbe]; rfl) ?_
      rw [hcut]
      rfl
    | succ m =>
      rw [hk] at hcut
      exact rone_sign l p m hl hp hc hd hsl hbe hk hcut w

end Go.Proofs.YtbcmjinifilamaaGreatDoor
