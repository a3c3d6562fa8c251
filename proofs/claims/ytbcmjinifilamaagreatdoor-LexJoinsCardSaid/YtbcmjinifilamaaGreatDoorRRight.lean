/- The reference: whether tokens are right. -/
import Derived.Test.YtbcmjinifilamaaGreatDoorRKind
import Derived.Test.YtbcmjinifilamaaGreatDoorBackTok
import Derived.Lib.ItoaLen
import Derived.IntWalk
namespace Lx

theorem cut1_bounds {l : Bytes} {k m : Nat} {s : Bytes} {len : Nat} (h : cut1 l = .tok k m s len) : s.length ≤ len ∧ (k ≠ 3 → len ≤ 32) := by
  match l, h with
  | [], h => cases h
  | c :: r, h =>
    rw [cut1] at h
    split at h
    · cases h
    split at h
    · unfold cutName at h
      simp only at h
      split at h
      · rename_i h32
        simp only [Cut.tok.injEq] at h
        obtain ⟨rfl, rfl, rfl, rfl⟩ := h
        exact ⟨Nat.le_refl _, fun _ => h32⟩
      · cases h
    split at h
    · unfold cutNumber at h
      simp only at h
      split at h
      · simp only [Cut.tok.injEq] at h
        obtain ⟨rfl, rfl, rfl, rfl⟩ := h
        exact ⟨Nat.zero_le _, fun h => absurd rfl h⟩
      · cases h
    split at h
    · unfold cutSymbols at h
      simp only at h
      split at h
      · rename_i h32
        simp only [Cut.tok.injEq] at h
        obtain ⟨rfl, rfl, rfl, rfl⟩ := h
        exact ⟨Nat.le_refl _, fun _ => h32⟩
      · cases h
    · unfold cutSign at h
      split at h
      · split at h <;> cases h
      · have h3 := (signLen_le (c :: r) 3).1
        split at h
        · cases h
        · rename_i j hj
          simp only [Cut.tok.injEq] at h
          obtain ⟨rfl, rfl, rfl, rfl⟩ := h
          exact ⟨by rw [List.length_take]; omega, fun _ => by omega⟩

theorem toks_of_cut {x : Bytes} {k n : Nat} {s : Bytes} (h : cut1 x = .tok k n s x.length) : (toks x).toks = [⟨k, n, s, 0, x.length⟩] ∧ (toks x).bad = none := by
  have e : toks x = cuts 0 x := rfl
  match x, h, e with
  | [], h, _ => cases h
  | c :: r, h, e =>
    rw [e, cuts_cons, h]
    simp [List.drop_length, cuts_nil, Out.tok]
end Lx
namespace Go.Proofs.YtbcmjinifilamaaGreatDoor
open Go.RowKit

def sumS (l : List ATok) : Nat := (l.map fun t => t.s.length).sum

theorem sumS_snoc (l : List ATok) (k : Nat) (h : k < l.length) : sumS (l.take (k + 1)) = sumS (l.take k) + l[k].s.length := by
  unfold sumS
  rw [List.take_succ_eq_append_getElem h, List.map_append, List.sum_append]
  simp

theorem sumS_take (l : List ATok) (k : Nat) : sumS (l.take k) ≤ sumS l := by
  have : sumS l = sumS (l.take k) + sumS (l.drop k) := by
    unfold sumS
    rw [← List.sum_append, ← List.map_append, List.take_append_drop]
  omega

theorem rowA_at {w : World} {va : Option Addr} {n vc : Nat} {l : List ATok} (h : RowOf w (.slice va n vc) l) (j : Nat) (hj : j < l.length) : ∃ g off, va = some ⟨g, off, none⟩ ∧ g < w.heap.size ∧
    ∀ (i : Nat) (u : Value), (l[j].cells)[i]? = some u → w.cell? ⟨g, off + j * 5 + i, none⟩ = some u := by
  obtain ⟨a, cap, hv, hr⟩ := h
  simp only [Value.slice.injEq] at hv
  obtain ⟨g, off, ha, hg, hc⟩ := hr (by intro h; subst h; exact absurd hj (Nat.not_lt_zero _))
  exact ⟨g, off, hv.1.trans ha, hg, fun i u hu => hc j l[j] (List.getElem?_eq_getElem hj) i u hu⟩

def fewB (l : List ATok) : Bool := decide (l.length ≤ 2000) && decide (sumS l ≤ 20000)

theorem sumS_le (M : Nat) : ∀ l : List ATok, (∀ t ∈ l, t.s.length ≤ M) → sumS l ≤ l.length * M
  | [], _ => by simp [sumS]
  | x :: l, h => by
    have h1 := sumS_le M l (fun s hs => h s (List.mem_cons_of_mem _ hs))
    have h2 := h x List.mem_cons_self
    unfold sumS at *
    simp only [List.map_cons, List.sum_cons, List.length_cons, Nat.add_mul]
    omega

set_option maxRecDepth 100000 in
set_option maxHeartbeats 1600000 in
theorem few_any (v : Value) (l : List ATok) (w : World) (hv : RowOf w v l) (hl : ∀ t ∈ l, t.s.length ≤ 140737488351232) (hln : l.length ≤ 9223372036854775807) :
    Calls Tryz.prog 22 #[v] w fun e w' => e = .returned (.bool (fewB l)) ∧ Turned w w' (fun _ => False) := by
  have hv2 := hv
  obtain ⟨va, vc, rfl, -⟩ := hv
  have Hv := Lib.hid hv2
  have Hl := Lib.hid hl
  clear hv2 hl
  by_cases h2000 : l.length ≤ 2000
  · have hs := sumS_le _ l Hl.out
    have hs2 : sumS l ≤ 2000 * 140737488351232 := Nat.le_trans hs (Nat.mul_le_mul_right _ h2000)
    have Hs := Lib.hid hs2
    clear hs hs2
    go_enter Tryz.func22, Tryz.ntmps22
    go_wp2_with fail
    go_loopw [3, 8] (fun m i wr => ∃ k : Nat, k ≤ l.length ∧ i = .int .i64 k ∧ m = .int .i64 (sumS (l.take k) : Nat) ∧ Turned w wr (fun _ => False)) (fun _ i _ => l.length - (intOf i).toNat)
    case atStart => exact ⟨0, Nat.zero_le _, rfl, rfl, Turned.refl _ _⟩
    case round =>
      obtain ⟨k, hk, rfl, rfl, ht⟩ := hrel
      by_cases hlt : k < l.length
      · have hki : (k : Int) < (l.length : Int) := by omega
        obtain ⟨g, off, rfl, lg, xc⟩ := rowA_at Hv.out k hlt
        have h1 := sumS_snoc l k hlt
        have h2 := sumS_take l (k + 1)
        have h3 := Hs.out
        rw [h1] at h2
        generalize sumS (l.take k) = M at *
        generalize l[k] = x at *
        obtain ⟨k1, n1, s1, a1, e1⟩ := x
        have hM : M + s1.length ≤ 2000 * 140737488351232 := Nat.le_trans h2 h3
        have pa := fun (i : Nat) (u : Value) (hu : (ATok.cells ⟨k1, n1, s1, a1, e1⟩)[i]? = some u) => (ht.cell (p := ⟨g, off + k * 5 + i, none⟩) lg (fun hf => hf)).trans (xc i u hu)
        have p0 : wr.cell? ⟨g, off + k * 5, none⟩ = some (.int .i64 k1) := pa 0 _ rfl
        have p1 : wr.cell? ⟨g, off + k * 5 + 1, none⟩ = some (.int .i64 n1) := pa 1 _ rfl
        have p2 : wr.cell? ⟨g, off + k * 5 + 2, none⟩ = some (.string ⟨s1.toArray⟩) := pa 2 _ rfl
        have p3 : wr.cell? ⟨g, off + k * 5 + 3, none⟩ = some (.int .i64 a1) := pa 3 _ rfl
        have p4 : wr.cell? ⟨g, off + k * 5 + 4, none⟩ = some (.int .i64 e1) := pa 4 _ rfl
        have lg' : g < wr.heap.size := Nat.lt_of_lt_of_le lg ht.size
        have H1 := Lib.hid h1
        clear xc pa lg h1 h2 h3
        go_wp2
        go_roundw
        case rel => exact ⟨k + 1, by omega, by go_num, by rw [H1.out]; go_num, ht.alloc _⟩
        case measure => simp [intOf]; omega
      · obtain rfl : k = l.length := by omega
        have hall : fewB l = (decide (l.length ≤ 2000) && decide (sumS l ≤ 20000)) := rfl
        rw [List.take_of_length_le (Nat.le_refl _)]
        generalize sumS l = M at *
        have Hall := Lib.hid hall
        clear hall
        have i1 : (l.length : Int) ≤ 2000 := by omega
        by_cases hM : M ≤ 20000
        · have i2 : (M : Int) ≤ 20000 := by omega
          go_wp2
          go_ret
          exact ⟨by rw [Hall.out]; simp [h2000, hM], ht⟩
        · have i2 : ¬ (M : Int) ≤ 20000 := by omega
          go_wp2
          go_ret
          exact ⟨by rw [Hall.out]; simp [h2000, hM], ht⟩
  · have hall : fewB l = false := by unfold fewB; simp [h2000]
    have Hall := Lib.hid hall
    have i1 : ¬ (l.length : Int) ≤ 2000 := by omega
    clear hall
    go_enter Tryz.func22, Tryz.ntmps22
    go_wp2_with fail
    go_loopw [3, 8] (fun m i wr => ∃ k : Nat, ∃ z : Int, k ≤ l.length ∧ i = .int .i64 k ∧ m = .int .i64 z ∧ Turned w wr (fun _ => False)) (fun _ i _ => l.length - (intOf i).toNat)
    case atStart => exact ⟨0, 0, Nat.zero_le _, rfl, rfl, Turned.refl _ _⟩
    case round =>
      obtain ⟨k, z, hk, rfl, rfl, ht⟩ := hrel
      by_cases hlt : k < l.length
      · have hki : (k : Int) < (l.length : Int) := by omega
        obtain ⟨g, off, rfl, lg, xc⟩ := rowA_at Hv.out k hlt
        generalize l[k] = x at *
        obtain ⟨k1, n1, s1, a1, e1⟩ := x
        have pa := fun (i : Nat) (u : Value) (hu : (ATok.cells ⟨k1, n1, s1, a1, e1⟩)[i]? = some u) => (ht.cell (p := ⟨g, off + k * 5 + i, none⟩) lg (fun hf => hf)).trans (xc i u hu)
        have p0 : wr.cell? ⟨g, off + k * 5, none⟩ = some (.int .i64 k1) := pa 0 _ rfl
        have p1 : wr.cell? ⟨g, off + k * 5 + 1, none⟩ = some (.int .i64 n1) := pa 1 _ rfl
        have p2 : wr.cell? ⟨g, off + k * 5 + 2, none⟩ = some (.string ⟨s1.toArray⟩) := pa 2 _ rfl
        have p3 : wr.cell? ⟨g, off + k * 5 + 3, none⟩ = some (.int .i64 a1) := pa 3 _ rfl
        have p4 : wr.cell? ⟨g, off + k * 5 + 4, none⟩ = some (.int .i64 e1) := pa 4 _ rfl
        have lg' : g < wr.heap.size := Nat.lt_of_lt_of_le lg ht.size
        clear xc pa lg
        go_wp2
        go_roundw
        case rel => exact ⟨k + 1, _, by omega, by go_num, rfl, ht.alloc _⟩
        case measure => simp [intOf]; omega
      · obtain rfl : k = l.length := by omega
        go_wp2
        go_ret
        exact ⟨by rw [Hall.out]; rfl, ht⟩

theorem right_facts {t : ATok} (h : rightB t = true) : t.s.length ≤ 32 ∧ 0 ≤ t.n ∧ (Lx.toks (spell t)).toks = [⟨t.kind.toNat, t.n.toNat, t.s, 0, (spell t).length⟩] := by
  have h32 := rightB_len h
  obtain ⟨hp, hr⟩ := right_plain h
  have hs := plain_spell hp
  have hb := Lx.cut1_bounds hr
  rw [← hs] at hb
  refine ⟨Nat.le_trans hb.1 h32, ?_, ?_⟩
  · unfold Plain bareA ofTok at hp
    simp only [Prod.mk.injEq] at hp
    omega
  · have := (Lx.toks_of_cut hr).1
    rw [← hs] at this
    exact this

theorem rightB_one {t : ATok} {u : Lx.Tok} (hb : (Lx.toks (spell t)).bad = none) (ht : (Lx.toks (spell t)).toks = [u]) (hw : t.wide) : rightB t = (ofTok u).same t ∧ (rightB t = true → u.end_ - u.at_ = (spell t).length) := by
  have hc : cutsInto (spell t) [t] = (ofTok u).same t := by
    unfold cutsInto
    rw [hb, ht]
    simp
  refine ⟨?_, fun h => ?_⟩
  · cases hs : (ofTok u).same t with
    | false => unfold rightB; rw [hc, hs, Bool.and_false]
    | true =>
      rw [hs] at hc
      unfold rightB
      rw [hc, Bool.and_true, decide_eq_true_eq]
      have h1 := (same_iff _ _).1 hs
      have h2 := Lx.toks_cut0 (spell t) u (by rw [ht]; exact List.mem_singleton.2 rfl)
      obtain ⟨h3, h4, h5⟩ := h2
      have h6 := Lx.cut1_bounds h5
      have h7 := (Lx.cut1_text h5).1
      unfold bareA ofTok at h1
      simp only [Prod.mk.injEq] at h1
      by_cases hk : t.kind = 3
      · unfold spell
        rw [if_pos hk]
        have := Lib.itoa_length_le t.n hw.1 hw.2
        omega
      · have hk2 : u.kind ≠ 3 := by omega
        have h8 := h7 hk2
        have h9 := h6.2 hk2
        unfold spell at h8 ⊢
        rw [if_neg hk] at h8 ⊢
        rw [← h1.2.2, h8, List.length_take]
        omega
  · have := (right_facts h).2.2
    rw [ht] at this
    simp only [List.cons.injEq, and_true] at this
    rw [this]
    rfl

set_option maxRecDepth 100000 in
set_option maxHeartbeats 3200000 in
theorem rright_any (t : ATok) (w : World) (he : Env w) (h7 : 7 ≤ w.heap.size) (hw : t.wide) :
    Calls Tryz.prog 61 #[t.val] w fun e w' => e = .returned (.bool (rightB t)) ∧ Turned w w' (fun _ => False) := by
  have hA : ∀ o, Turned w (w.alloc o) (fun _ => False) := fun o => (Turned.refl w _).alloc o
  have HA := Lib.hid hA
  by_cases hno : (t.kind = 3 ∧ t.n < 0) ∨ 64 < t.s.length
  · have hR : rightB t = false := by
      cases h : rightB t with
      | false => rfl
      | true =>
        have := right_facts h
        omega
    have HR := Lib.hid hR
    clear hR hA he h7 hw
    obtain ⟨k, n, s, a, e⟩ := t
    unfold ATok.val
    simp only at hno ⊢
    by_cases h1 : k = 3 ∧ n < 0
    · obtain ⟨rfl, hn⟩ := h1
      clear hno
      go_enter Tryz.func61, Tryz.ntmps61
      go_wp2
      go_ret
      exact ⟨by rw [HR.out]; rfl, HA.out _⟩
    · have hs : (64 : Int) < (s.length : Int) := by omega
      by_cases hk : k = 3
      · subst hk
        have hn : ¬ n < 0 := by omega
        clear hno h1
        go_enter Tryz.func61, Tryz.ntmps61
        go_wp2
        go_ret
        exact ⟨by rw [HR.out]; rfl, HA.out _⟩
      · have hkb : (k == 3) = false := by simpa using hk
        clear hno h1 hk
        go_enter Tryz.func61, Tryz.ntmps61
        go_wp2
        go_ret
        exact ⟨by rw [HR.out]; rfl, HA.out _⟩
  · have hsl : (spell t).length ≤ 64 := by
      unfold spell
      split
      · have := Lib.itoa_length_le t.n hw.1 hw.2
        omega
      · omega
    have hcl := toks_count (spell t)
    have hE : ∀ W, Turned w W (fun _ => False) → Env W ∧ 7 ≤ W.heap.size := fun W hW => ⟨he.turned hW h7 (fun k hk => hk.elim), Nat.le_trans h7 hW.size⟩
    have hX := fun W (hW : Turned w W (fun _ => False)) => text_any t W (hE W hW).1 (hE W hW).2 hw
    have HX := Lib.hid hX
    have hfal : (Lx.toks (spell t)).bad ≠ none → rightB t = false := by
      intro h
      unfold rightB cutsInto
      cases hb : (Lx.toks (spell t)).bad with
      | none => exact absurd hb h
      | some q => simp
    have hfal2 : (Lx.toks (spell t)).bad = none → (Lx.toks (spell t)).toks.length ≠ 1 → rightB t = false := by
      intro h h1
      unfold rightB cutsInto
      rw [h]
      simp [h1]
    have hone := fun u hb hu => rightB_one (t := t) (u := u) hb hu hw
    have hk64 : (t.s.length : Int) ≤ 64 := by omega
    have hlike := fun (u : ATok) (W : World) => like_any u t W
    have HL := Lib.hid hlike
    clear hX he h7 hA hE hlike
    cases hbad : (Lx.toks (spell t)).bad with
    | some q =>
      have hR := hfal (by rw [hbad]; simp)
      have HR := Lib.hid hR
      have hT := fun V => rtokens_err V (spell t) (by omega) q hbad
      have HT := Lib.hid hT
      clear hfal hfal2 hone hbad hT hR hcl
      generalize spell t = x at *
      obtain ⟨k, n, s, a, e⟩ := t
      unfold ATok.val at *
      simp only at hno hk64 hw ⊢
      have hx : (k = 3 ∧ ¬ n < 0) ∨ ((k == 3) = false) := by
        by_cases hk : k = 3
        · exact .inl ⟨hk, by omega⟩
        · exact .inr (by simpa using hk)
      clear hno
      rcases hx with ⟨rfl, hn⟩ | hkb
      all_goals
        go_enter Tryz.func61, Tryz.ntmps61
        go_wp2_with fail
        refine (HX.out _ (HA.out _)).mono ?_
        rintro e w1 ⟨rfl, t1⟩
        go_wp2_with fail
        refine (HT.out _).mono ?_
        rintro e w2 ⟨rfl, t2⟩
        have t3 := (HA.out _).trans (t1.trans t2 (fun _ _ hf => hf)) (fun _ _ hf => hf)
        go_wp2_with fail
        go_quiet (fail)
        go_wp2
        go_ret
        exact ⟨by rw [HR.out]; rfl, t3.drewN _⟩
    | none =>
      by_cases h1 : (Lx.toks (spell t)).toks.length = 1
      · obtain ⟨u, hu⟩ := List.length_eq_one_iff.1 h1
        obtain ⟨hsm, hspan⟩ := hone u hbad hu
        have hu2 := Lx.toks_cut0 (spell t) u (by rw [hu]; exact List.mem_singleton.2 rfl)
        have hT := fun V => rtokens_fine V (spell t) (by omega) hbad (by omega)
        rw [hu] at hT
        simp only [List.length_singleton] at hT
        have HT := Lib.hid hT
        clear hfal hfal2 hone hbad hT hcl hu h1
        obtain ⟨u1, u2, u3⟩ := hu2
        clear u3
        have hR : ∀ b, (b = true → u.end_ - u.at_ = (spell t).length) → ((ofTok u).same t = true → b = true) → True := fun _ _ _ => trivial
        clear hR
        generalize hx : spell t = x at *
        have Hsm := Lib.hid hsm
        have Hspan := Lib.hid hspan
        have Hx := Lib.hid hx
        clear hsm hspan hx
        obtain ⟨k, n, s, a, e⟩ := t
        obtain ⟨uk, un, us, ua, ue⟩ := u
        unfold ATok.val at *
        simp only at hno hk64 hw u1 u2 ⊢
        have hsub : IntKind.i64.wrap ((ue : Int) - (ua : Int)) = ((ue - ua : Nat) : Int) := by
          rw [IntWalk.i64_in _ (by omega)]
          omega
        generalize hD : ue - ua = D at *
        have hxk : ((k == 3) = true ∧ ¬ n < 0) ∨ ((k == 3) = false) := by
          by_cases hk : k = 3
          · exact .inl ⟨by rw [hk]; rfl, by omega⟩
          · exact .inr (by simpa using hk)
        have HD := Lib.hid hD
        clear hno hD hw
        by_cases hq : D = x.length
        · have hqi : ((D : Int) == (x.length : Int)) = true := by rw [hq]; exact beq_self_eq_true _
          clear hq
          rcases hxk with ⟨hkb, hn⟩ | hkb
          all_goals
            go_enter Tryz.func61, Tryz.ntmps61
            go_wp2_with fail
            have kT := heap_alloc_new w (.cells #[.int .i64 k, .int .i64 n, .string ⟨s.toArray⟩, .int .i64 a, .int .i64 e] 43)
            refine (HX.out _ (HA.out _)).mono ?_
            rintro e1 w1 ⟨rfl, t1⟩
            go_wp2_with fail
            refine (HT.out _).mono ?_
            rintro e2 w2 ⟨va, vc, rfl, ho2, t2⟩
            have t12 := t1.trans t2 (fun _ _ hf => hf)
            have t3 := (HA.out _).trans t12 (fun _ _ hf => hf)
            have k2 := (t12.block _ (lt_of_block kT) (fun hf => hf)).trans kT
            have T3 := Lib.hid t3
            have r2 := rowOf_owns (l := [ofTok ⟨uk, un, us, ua, ue⟩]) (v := .slice va 1 vc) (by simpa [ofTok_cells] using ho2)
            obtain ⟨g, off, rfl, lg, xc⟩ := rowA_at r2 0 (by simp)
            generalize w.heap.size = Y at *
            have HK2 := Lib.hid k2
            have HXC := Lib.hid xc
            have lY := lt_of_block k2
            clear kT t1 t2 t12 t3 k2 xc r2 ho2
            have Sof : ∀ w' : World, Turned w2 w' (fun _ => False) → (w'.cell? ⟨Y, 0, none⟩ = some (.int .i64 k) ∧ w'.cell? ⟨Y, 1, none⟩ = some (.int .i64 n) ∧ w'.cell? ⟨Y, 2, none⟩ = some (.string ⟨s.toArray⟩) ∧ w'.cell? ⟨Y, 3, none⟩ = some (.int .i64 a) ∧ w'.cell? ⟨Y, 4, none⟩ = some (.int .i64 e) ∧
                w'.cell? ⟨g, off, none⟩ = some (.int .i64 uk) ∧ w'.cell? ⟨g, off + 1, none⟩ = some (.int .i64 un) ∧ w'.cell? ⟨g, off + 2, none⟩ = some (.string ⟨us.toArray⟩) ∧ w'.cell? ⟨g, off + 3, none⟩ = some (.int .i64 ua) ∧ w'.cell? ⟨g, off + 4, none⟩ = some (.int .i64 ue)) ∧ Turned w2 w' (fun _ => False) := by
              intro w' t
              have k1 := (t.block Y lY (fun hf => hf)).trans HK2.out
              have pa := fun (i : Nat) (u : Value) (hu : (ATok.cells (ofTok ⟨uk, un, us, ua, ue⟩))[i]? = some u) => (t.cell (p := ⟨g, off + 0 * 5 + i, none⟩) lg (fun hf => hf)).trans (HXC.out i u hu)
              simp only [Nat.zero_mul, Nat.add_zero] at pa
              exact ⟨⟨by simp [World.cell?, k1], by simp [World.cell?, k1], by simp [World.cell?, k1], by simp [World.cell?, k1], by simp [World.cell?, k1], pa 0 _ rfl, pa 1 _ rfl, pa 2 _ rfl, pa 3 _ rfl, pa 4 _ rfl⟩, t⟩
            have HSof := Lib.hid Sof
            obtain ⟨⟨p0, p1, p2, p3, p4, q0, q1, q2, q3, q4⟩, -⟩ := Sof w2 (Turned.refl _ _)
            have tt : Turned w2 w2.drew (fun _ => False) := (Turned.refl w2 _).drew
            clear Sof
            go_wp2_with fail
            refine wp_region_held_drew (S := (fun w' => (w'.cell? ⟨Y, 0, none⟩ = some (.int .i64 k) ∧ w'.cell? ⟨Y, 1, none⟩ = some (.int .i64 n) ∧ w'.cell? ⟨Y, 2, none⟩ = some (.string ⟨s.toArray⟩) ∧ w'.cell? ⟨Y, 3, none⟩ = some (.int .i64 a) ∧ w'.cell? ⟨Y, 4, none⟩ = some (.int .i64 e) ∧
                w'.cell? ⟨g, off, none⟩ = some (.int .i64 uk) ∧ w'.cell? ⟨g, off + 1, none⟩ = some (.int .i64 un) ∧ w'.cell? ⟨g, off + 2, none⟩ = some (.string ⟨us.toArray⟩) ∧ w'.cell? ⟨g, off + 3, none⟩ = some (.int .i64 ua) ∧ w'.cell? ⟨g, off + 4, none⟩ = some (.int .i64 ue)) ∧ Turned w2 w' (fun _ => False))) (by kernel_rfl) (HSof.out _ tt) (fun hHeld => ?_)
            refine wpAnyH_take (i := 0) (v := ?_) rfl (by kernel_rfl) (by kernel_rfl) (by kernel_rfl) (fun _ _ _ h => h) (Or.inl ⟨by rfl, ?_⟩) (by assumption) ?_
            rotate_left 1
            · (intro w hSw; (try dsimp only at hSw); first | (go_simp; done) | (go_simp; with_reducible rfl))
            simp only [List.getElem_toArray, List.getElem_cons_zero, Act.put, List.setIfInBounds_toArray, List.set_cons_zero, List.set_cons_succ]
            refine wpAnyH_take (i := 1) (v := ?_) rfl (by kernel_rfl) (by kernel_rfl) (by kernel_rfl) (fun _ _ _ h => h) (Or.inl ⟨by rfl, ?_⟩) (by assumption) ?_
            rotate_left 1
            · (intro w hSw; (try dsimp only at hSw); first | (go_simp; done) | (go_simp; with_reducible rfl))
            simp only [List.getElem_toArray, List.getElem_cons_zero, List.getElem_cons_succ, Act.put, List.setIfInBounds_toArray, List.set_cons_zero, List.set_cons_succ]
            refine wpAnyH_take (i := 2) (v := ?_) rfl (by kernel_rfl) (by kernel_rfl) (by kernel_rfl) (fun _ _ _ h => h) (Or.inl ⟨by rfl, ?_⟩) (by assumption) ?_
            rotate_left 1
            · (intro w hSw; (try dsimp only at hSw); first | (go_simp; done) | (go_simp; with_reducible rfl))
            simp only [List.getElem_toArray, List.getElem_cons_zero, List.getElem_cons_succ, Act.put, List.setIfInBounds_toArray, List.set_cons_zero, List.set_cons_succ]
            refine wpAnyH_take (i := 3) (v := ?_) rfl (by kernel_rfl) (by kernel_rfl) (by kernel_rfl) (fun _ _ _ h => h) (Or.inl ⟨by rfl, ?_⟩) (by assumption) ?_
            rotate_left 1
            · (intro w hSw; (try dsimp only at hSw); first | (go_simp; done) | (go_simp; with_reducible rfl))
            simp only [List.getElem_toArray, List.getElem_cons_zero, List.getElem_cons_succ, Act.put, List.setIfInBounds_toArray, List.set_cons_zero, List.set_cons_succ]
            refine wpAnyH_take (i := 4) (v := ?_) rfl (by kernel_rfl) (by kernel_rfl) (by kernel_rfl) (fun _ _ _ h => h) (Or.inl ⟨by rfl, ?_⟩) (by assumption) ?_
            rotate_left 1
            · (intro w hSw; (try dsimp only at hSw); first | (go_simp; done) | (go_simp; with_reducible rfl))
            simp only [List.getElem_toArray, List.getElem_cons_zero, List.getElem_cons_succ, Act.put, List.setIfInBounds_toArray, List.set_cons_zero, List.set_cons_succ]
            refine wpAnyH_take (i := 5) (v := ?_) rfl (by kernel_rfl) (by kernel_rfl) (by kernel_rfl) (fun _ _ _ h => h) (Or.inl ⟨by rfl, ?_⟩) (by assumption) ?_
            rotate_left 1
            · (intro w hSw; (try dsimp only at hSw); first | (go_simp; done) | (go_simp; with_reducible rfl))
            simp only [List.getElem_toArray, List.getElem_cons_zero, List.getElem_cons_succ, Act.put, List.setIfInBounds_toArray, List.set_cons_zero, List.set_cons_succ]
            refine wpAnyH_take (i := 6) (v := ?_) rfl (by kernel_rfl) (by kernel_rfl) (by kernel_rfl) (fun _ _ _ h => h) (Or.inl ⟨by rfl, ?_⟩) (by assumption) ?_
            rotate_left 1
            · (intro w hSw; (try dsimp only at hSw); first | (go_simp; done) | (go_simp; with_reducible rfl))
            simp only [List.getElem_toArray, List.getElem_cons_zero, List.getElem_cons_succ, Act.put, List.setIfInBounds_toArray, List.set_cons_zero, List.set_cons_succ]
            refine wpAnyH_take (i := 7) (v := ?_) rfl (by kernel_rfl) (by kernel_rfl) (by kernel_rfl) (fun _ _ _ h => h) (Or.inl ⟨by rfl, ?_⟩) (by assumption) ?_
            rotate_left 1
            · (intro w hSw; (try dsimp only at hSw); first | (go_simp; done) | (go_simp; with_reducible rfl))
            simp only [List.getElem_toArray, List.getElem_cons_zero, List.getElem_cons_succ, Act.put, List.setIfInBounds_toArray, List.set_cons_zero, List.set_cons_succ]
            refine wpAnyH_take (i := 8) (v := ?_) rfl (by kernel_rfl) (by kernel_rfl) (by kernel_rfl) (fun _ _ _ h => h) (Or.inl ⟨by rfl, ?_⟩) (by assumption) ?_
            rotate_left 1
            · (intro w hSw; (try dsimp only at hSw); first | (go_simp; done) | (go_simp; with_reducible rfl))
            simp only [List.getElem_toArray, List.getElem_cons_zero, List.getElem_cons_succ, Act.put, List.setIfInBounds_toArray, List.set_cons_zero, List.set_cons_succ]
            refine wpAnyH_take (i := 9) (v := ?_) rfl (by kernel_rfl) (by kernel_rfl) (by kernel_rfl) (fun _ _ _ h => h) (Or.inl ⟨by rfl, ?_⟩) (by assumption) ?_
            rotate_left 1
            · (intro w hSw; (try dsimp only at hSw); first | (go_simp; done) | (go_simp; with_reducible rfl))
            simp only [List.getElem_toArray, List.getElem_cons_zero, List.getElem_cons_succ, Act.put, List.setIfInBounds_toArray, List.set_cons_zero, List.set_cons_succ]
            refine wpAnyH_take (i := 10) (v := ?_) rfl (by kernel_rfl) (by kernel_rfl) (by kernel_rfl) (fun _ _ _ h => h) (Or.inl ⟨by rfl, ?_⟩) (by assumption) ?_
            rotate_left 1
            · (intro w hSw; (try dsimp only at hSw); first | (go_simp; done) | (go_simp; with_reducible rfl))
            simp only [List.getElem_toArray, List.getElem_cons_zero, List.getElem_cons_succ, Act.put, List.setIfInBounds_toArray, List.set_cons_zero, List.set_cons_succ]
            refine wpAnyH_take (i := 11) (v := ?_) rfl (by kernel_rfl) (by kernel_rfl) (by kernel_rfl) (fun _ _ _ h => h) (Or.inl ⟨by rfl, ?_⟩) (by assumption) ?_
            rotate_left 1
            · (intro w hSw; (try dsimp only at hSw); first | (go_simp; done) | (go_simp; with_reducible rfl))
            simp only [List.getElem_toArray, List.getElem_cons_zero, List.getElem_cons_succ, Act.put, List.setIfInBounds_toArray, List.set_cons_zero, List.set_cons_succ]
            refine wpAnyH_take (i := 12) (v := ?_) rfl (by kernel_rfl) (by kernel_rfl) (by kernel_rfl) (fun _ _ _ h => h) (Or.inl ⟨by rfl, ?_⟩) (by assumption) ?_
            rotate_left 1
            · (intro w hSw; (try dsimp only at hSw); first | (go_simp; done) | (go_simp; with_reducible rfl))
            simp only [List.getElem_toArray, List.getElem_cons_zero, List.getElem_cons_succ, Act.put, List.setIfInBounds_toArray, List.set_cons_zero, List.set_cons_succ]
            refine wpAnyH_take (i := 13) (v := ?_) rfl (by kernel_rfl) (by kernel_rfl) (by kernel_rfl) (fun _ _ _ h => h) (Or.inl ⟨by rfl, ?_⟩) (by assumption) ?_
            rotate_left 1
            · (intro w hSw; (try dsimp only at hSw); first | (go_simp; done) | (go_simp; with_reducible rfl))
            simp only [List.getElem_toArray, List.getElem_cons_zero, List.getElem_cons_succ, Act.put, List.setIfInBounds_toArray, List.set_cons_zero, List.set_cons_succ]
            refine wpAnyH_take (i := 14) (v := ?_) rfl (by kernel_rfl) (by kernel_rfl) (by kernel_rfl) (fun _ _ _ h => h) (Or.inl ⟨by rfl, ?_⟩) (by assumption) ?_
            rotate_left 1
            · (intro w hSw; (try dsimp only at hSw); first | (go_simp; done) | (go_simp; with_reducible rfl))
            simp only [List.getElem_toArray, List.getElem_cons_zero, List.getElem_cons_succ, Act.put, List.setIfInBounds_toArray, List.set_cons_zero, List.set_cons_succ]
            refine wpAnyH_take (i := 15) (v := ?_) rfl (by kernel_rfl) (by kernel_rfl) (by kernel_rfl) (fun _ _ _ h => h) (Or.inl ⟨by rfl, ?_⟩) (by assumption) ?_
            rotate_left 1
            · (intro w hSw; (try dsimp only at hSw); first | (go_simp; done) | (go_simp; with_reducible rfl))
            simp only [List.getElem_toArray, List.getElem_cons_zero, List.getElem_cons_succ, Act.put, List.setIfInBounds_toArray, List.set_cons_zero, List.set_cons_succ]
            refine wpAnyH_take (i := 16) (v := ?_) rfl (by kernel_rfl) (by kernel_rfl) (by kernel_rfl) (fun _ _ _ h => h) (Or.inl ⟨by rfl, ?_⟩) (by assumption) ?_
            rotate_left 1
            · (intro w hSw; (try dsimp only at hSw); first | (go_simp; done) | (go_simp; with_reducible rfl))
            simp only [List.getElem_toArray, List.getElem_cons_zero, List.getElem_cons_succ, Act.put, List.setIfInBounds_toArray, List.set_cons_zero, List.set_cons_succ]
            refine wpAnyH_take (i := 17) (v := ?_) rfl (by kernel_rfl) (by kernel_rfl) (by kernel_rfl) (fun _ _ _ h => h) (Or.inl ⟨by rfl, ?_⟩) (by assumption) ?_
            rotate_left 1
            · (intro w hSw; (try dsimp only at hSw); first | (go_simp; done) | (go_simp; with_reducible rfl))
            simp only [List.getElem_toArray, List.getElem_cons_zero, List.getElem_cons_succ, Act.put, List.setIfInBounds_toArray, List.set_cons_zero, List.set_cons_succ]
            refine wpAnyH_ready (rs := [18]) (by kernel_rfl) (by simp) ?_
            refine AllReadyH.cons rfl (fun K hK => ?_) AllReadyH.nil
            go_simp
            go_at_call 35
            refine (HX.out _ (T3.out.trans tt (fun _ _ hf => hf))).mono ?_
            rintro e4 w4 ⟨rfl, t4⟩
            go_wp2_with fail
            refine hK.out _ _ (HSof.out _ (tt.trans t4 (fun _ _ hf => hf))) (fun hHeld2 => ?_)
            clear hK K hHeld
            refine wpAnyH_take (i := 19) (v := ?_) rfl (by kernel_rfl) (by kernel_rfl) (by kernel_rfl) (fun _ _ _ h => h) (Or.inl ⟨by rfl, ?_⟩) (by assumption) ?_
            rotate_left 1
            · (intro w hSw; (try dsimp only at hSw); first | (go_simp; done) | (go_simp; with_reducible rfl))
            simp only [List.getElem_toArray, List.getElem_cons_zero, List.getElem_cons_succ, Act.put, List.setIfInBounds_toArray, List.set_cons_zero, List.set_cons_succ]
            refine wpAnyH_take (i := 20) (v := ?_) rfl (by kernel_rfl) (by kernel_rfl) (by kernel_rfl) (fun _ _ _ h => h) (Or.inl ⟨by rfl, ?_⟩) (by assumption) ?_
            rotate_left 1
            · (intro w hSw; (try dsimp only at hSw); first | (go_simp; done) | (go_simp; with_reducible rfl))
            simp only [List.getElem_toArray, List.getElem_cons_zero, List.getElem_cons_succ, Act.put, List.setIfInBounds_toArray, List.set_cons_zero, List.set_cons_succ]
            refine wpAnyH_take (i := 21) (v := ?_) rfl (by kernel_rfl) (by kernel_rfl) (by kernel_rfl) (fun _ _ _ h => h) (Or.inl ⟨by rfl, ?_⟩) (by assumption) ?_
            rotate_left 1
            · (intro w hSw; (try dsimp only at hSw); first | (go_simp; done) | (go_simp; with_reducible rfl))
            simp only [List.getElem_toArray, List.getElem_cons_zero, List.getElem_cons_succ, Act.put, List.setIfInBounds_toArray, List.set_cons_zero, List.set_cons_succ]
            refine wpAnyH_take (i := 22) (v := ?_) rfl (by kernel_rfl) (by kernel_rfl) (by kernel_rfl) (fun _ _ _ h => h) (Or.inl ⟨by rfl, ?_⟩) (by assumption) ?_
            rotate_left 1
            · (intro w hSw; (try dsimp only at hSw); first | (go_simp; done) | (go_simp; with_reducible rfl))
            simp only [List.getElem_toArray, List.getElem_cons_zero, List.getElem_cons_succ, Act.put, List.setIfInBounds_toArray, List.set_cons_zero, List.set_cons_succ]
            refine wpAnyH_take (i := 23) (v := ?_) rfl (by kernel_rfl) (by kernel_rfl) (by kernel_rfl) (fun _ _ _ h => h) (Or.inl ⟨by rfl, ?_⟩) (by assumption) ?_
            rotate_left 1
            · (intro w hSw; (try dsimp only at hSw); first | (go_simp; done) | (go_simp; with_reducible rfl))
            simp only [List.getElem_toArray, List.getElem_cons_zero, List.getElem_cons_succ, Act.put, List.setIfInBounds_toArray, List.set_cons_zero, List.set_cons_succ]
            refine wpAnyH_take (i := 24) (v := ?_) rfl (by kernel_rfl) (by kernel_rfl) (by kernel_rfl) (fun _ _ _ h => h) (Or.inl ⟨by rfl, ?_⟩) (by assumption) ?_
            rotate_left 1
            · (intro w hSw; (try dsimp only at hSw); first | (go_simp; done) | (go_simp; with_reducible rfl))
            simp only [List.getElem_toArray, List.getElem_cons_zero, List.getElem_cons_succ, Act.put, List.setIfInBounds_toArray, List.set_cons_zero, List.set_cons_succ]
            refine wpAnyH_take (i := 25) (v := ?_) rfl (by kernel_rfl) (by kernel_rfl) (by kernel_rfl) (fun _ _ _ h => h) (Or.inl ⟨by rfl, ?_⟩) (by assumption) ?_
            rotate_left 1
            · (intro w hSw; (try dsimp only at hSw); first | (go_simp; done) | (go_simp; with_reducible rfl))
            simp only [List.getElem_toArray, List.getElem_cons_zero, List.getElem_cons_succ, Act.put, List.setIfInBounds_toArray, List.set_cons_zero, List.set_cons_succ]
            refine wpAnyH_take (i := 26) (v := ?_) rfl (by kernel_rfl) (by kernel_rfl) (by kernel_rfl) (fun _ _ _ h => h) (Or.inl ⟨by rfl, ?_⟩) (by assumption) ?_
            rotate_left 1
            · (intro w hSw; (try dsimp only at hSw); first | (go_simp; done) | (go_simp; with_reducible rfl))
            simp only [List.getElem_toArray, List.getElem_cons_zero, List.getElem_cons_succ, Act.put, List.setIfInBounds_toArray, List.set_cons_zero, List.set_cons_succ]
            refine wpAnyH_ready (rs := [27]) (by kernel_rfl) (by simp) ?_
            refine AllReadyH.cons rfl (fun K hK => ?_) AllReadyH.nil
            go_simp
            go_at_call 37
            refine (HL.out ⟨uk, un, us, ua, ue⟩ _).mono ?_
            rintro e5 w5 ⟨rfl, t5⟩
            go_wp2_with fail
            refine hK.out _ _ (HSof.out _ ((tt.trans t4 (fun _ _ hf => hf)).trans t5 (fun _ _ hf => hf))) (fun hHeld3 => ?_)
            clear hK K hHeld2
            have hsm : ATok.same ⟨uk, un, us, ua, ue⟩ ⟨k, n, s, a, e⟩ = rightB ⟨k, n, s, a, e⟩ := Hsm.out.symm
            have Hsm2 := Lib.hid hsm
            generalize ATok.same ⟨uk, un, us, ua, ue⟩ ⟨k, n, s, a, e⟩ = sm at *
            clear hsm
            refine wpAnyH_take (i := 28) (v := ?_) rfl (by kernel_rfl) (by kernel_rfl) (by kernel_rfl) (fun _ _ _ h => h) (Or.inl ⟨by rfl, ?_⟩) (by assumption) ?_
            rotate_left 1
            · (intro w hSw; (try dsimp only at hSw); first | (go_simp; done) | (go_simp; with_reducible rfl))
            simp only [List.getElem_toArray, List.getElem_cons_zero, List.getElem_cons_succ, Act.put, List.setIfInBounds_toArray, List.set_cons_zero, List.set_cons_succ]
            refine wpAnyH_take (i := 29) (v := ?_) rfl (by kernel_rfl) (by kernel_rfl) (by kernel_rfl) (fun _ _ _ h => h) (Or.inl ⟨by rfl, ?_⟩) (by assumption) ?_
            rotate_left 1
            · (intro w hSw; (try dsimp only at hSw); first | (go_simp; done) | (go_simp; with_reducible rfl))
            simp only [List.getElem_toArray, List.getElem_cons_zero, List.getElem_cons_succ, Act.put, List.setIfInBounds_toArray, List.set_cons_zero, List.set_cons_succ]
            refine wpAnyH_done (by kernel_rfl) ?_ _
            have t6 := T3.out.trans ((tt.trans t4 (fun _ _ hf => hf)).trans t5 (fun _ _ hf => hf)) (fun _ _ hf => hf)
            clear hHeld3 hqi hsub
            go_wp2
            go_ret
            exact ⟨by rw [← Hsm2.out]; rfl, t6⟩
        · have hqi : ((D : Int) == (x.length : Int)) = false := by
            rw [Bool.eq_false_iff]; intro h; apply hq; have : (D : Int) = x.length := by simpa using h
            omega
          have hR : rightB ⟨k, n, s, a, e⟩ = false := by
            cases h : rightB ⟨k, n, s, a, e⟩ with
            | false => rfl
            | true => exact absurd (Hspan.out h) hq
          have HR := Lib.hid hR
          clear hR hq
          rcases hxk with ⟨hkb, hn⟩ | hkb
          all_goals
            go_enter Tryz.func61, Tryz.ntmps61
            go_wp2_with fail
            have kT := heap_alloc_new w (.cells #[.int .i64 k, .int .i64 n, .string ⟨s.toArray⟩, .int .i64 a, .int .i64 e] 43)
            refine (HX.out _ (HA.out _)).mono ?_
            rintro e1 w1 ⟨rfl, t1⟩
            go_wp2_with fail
            refine (HT.out _).mono ?_
            rintro e2 w2 ⟨va, vc, rfl, ho2, t2⟩
            have t12 := t1.trans t2 (fun _ _ hf => hf)
            have t3 := (HA.out _).trans t12 (fun _ _ hf => hf)
            have k2 := (t12.block _ (lt_of_block kT) (fun hf => hf)).trans kT
            have T3 := Lib.hid t3
            have r2 := rowOf_owns (l := [ofTok ⟨uk, un, us, ua, ue⟩]) (v := .slice va 1 vc) (by simpa [ofTok_cells] using ho2)
            obtain ⟨g, off, rfl, lg, xc⟩ := rowA_at r2 0 (by simp)
            generalize w.heap.size = Y at *
            have HK2 := Lib.hid k2
            have HXC := Lib.hid xc
            have lY := lt_of_block k2
            clear kT t1 t2 t12 t3 k2 xc r2 ho2
            have Sof : ∀ w' : World, Turned w2 w' (fun _ => False) → (w'.cell? ⟨Y, 0, none⟩ = some (.int .i64 k) ∧ w'.cell? ⟨Y, 1, none⟩ = some (.int .i64 n) ∧ w'.cell? ⟨Y, 2, none⟩ = some (.string ⟨s.toArray⟩) ∧ w'.cell? ⟨Y, 3, none⟩ = some (.int .i64 a) ∧ w'.cell? ⟨Y, 4, none⟩ = some (.int .i64 e) ∧
                w'.cell? ⟨g, off, none⟩ = some (.int .i64 uk) ∧ w'.cell? ⟨g, off + 1, none⟩ = some (.int .i64 un) ∧ w'.cell? ⟨g, off + 2, none⟩ = some (.string ⟨us.toArray⟩) ∧ w'.cell? ⟨g, off + 3, none⟩ = some (.int .i64 ua) ∧ w'.cell? ⟨g, off + 4, none⟩ = some (.int .i64 ue)) ∧ Turned w2 w' (fun _ => False) := by
              intro w' t
              have k1 := (t.block Y lY (fun hf => hf)).trans HK2.out
              have pa := fun (i : Nat) (u : Value) (hu : (ATok.cells (ofTok ⟨uk, un, us, ua, ue⟩))[i]? = some u) => (t.cell (p := ⟨g, off + 0 * 5 + i, none⟩) lg (fun hf => hf)).trans (HXC.out i u hu)
              simp only [Nat.zero_mul, Nat.add_zero] at pa
              exact ⟨⟨by simp [World.cell?, k1], by simp [World.cell?, k1], by simp [World.cell?, k1], by simp [World.cell?, k1], by simp [World.cell?, k1], pa 0 _ rfl, pa 1 _ rfl, pa 2 _ rfl, pa 3 _ rfl, pa 4 _ rfl⟩, t⟩
            have HSof := Lib.hid Sof
            obtain ⟨⟨p0, p1, p2, p3, p4, q0, q1, q2, q3, q4⟩, -⟩ := Sof w2 (Turned.refl _ _)
            have tt : Turned w2 w2.drew (fun _ => False) := (Turned.refl w2 _).drew
            clear Sof
            go_wp2_with fail
            refine wp_region_held_drew (S := (fun w' => (w'.cell? ⟨Y, 0, none⟩ = some (.int .i64 k) ∧ w'.cell? ⟨Y, 1, none⟩ = some (.int .i64 n) ∧ w'.cell? ⟨Y, 2, none⟩ = some (.string ⟨s.toArray⟩) ∧ w'.cell? ⟨Y, 3, none⟩ = some (.int .i64 a) ∧ w'.cell? ⟨Y, 4, none⟩ = some (.int .i64 e) ∧
                w'.cell? ⟨g, off, none⟩ = some (.int .i64 uk) ∧ w'.cell? ⟨g, off + 1, none⟩ = some (.int .i64 un) ∧ w'.cell? ⟨g, off + 2, none⟩ = some (.string ⟨us.toArray⟩) ∧ w'.cell? ⟨g, off + 3, none⟩ = some (.int .i64 ua) ∧ w'.cell? ⟨g, off + 4, none⟩ = some (.int .i64 ue)) ∧ Turned w2 w' (fun _ => False))) (by kernel_rfl) (HSof.out _ tt) (fun hHeld => ?_)
            refine wpAnyH_take (i := 0) (v := ?_) rfl (by kernel_rfl) (by kernel_rfl) (by kernel_rfl) (fun _ _ _ h => h) (Or.inl ⟨by rfl, ?_⟩) (by assumption) ?_
            rotate_left 1
            · (intro w hSw; (try dsimp only at hSw); first | (go_simp; done) | (go_simp; with_reducible rfl))
            simp only [List.getElem_toArray, List.getElem_cons_zero, Act.put, List.setIfInBounds_toArray, List.set_cons_zero, List.set_cons_succ]
            refine wpAnyH_take (i := 1) (v := ?_) rfl (by kernel_rfl) (by kernel_rfl) (by kernel_rfl) (fun _ _ _ h => h) (Or.inl ⟨by rfl, ?_⟩) (by assumption) ?_
            rotate_left 1
            · (intro w hSw; (try dsimp only at hSw); first | (go_simp; done) | (go_simp; with_reducible rfl))
            simp only [List.getElem_toArray, List.getElem_cons_zero, List.getElem_cons_succ, Act.put, List.setIfInBounds_toArray, List.set_cons_zero, List.set_cons_succ]
            refine wpAnyH_take (i := 2) (v := ?_) rfl (by kernel_rfl) (by kernel_rfl) (by kernel_rfl) (fun _ _ _ h => h) (Or.inl ⟨by rfl, ?_⟩) (by assumption) ?_
            rotate_left 1
            · (intro w hSw; (try dsimp only at hSw); first | (go_simp; done) | (go_simp; with_reducible rfl))
            simp only [List.getElem_toArray, List.getElem_cons_zero, List.getElem_cons_succ, Act.put, List.setIfInBounds_toArray, List.set_cons_zero, List.set_cons_succ]
            refine wpAnyH_take (i := 3) (v := ?_) rfl (by kernel_rfl) (by kernel_rfl) (by kernel_rfl) (fun _ _ _ h => h) (Or.inl ⟨by rfl, ?_⟩) (by assumption) ?_
            rotate_left 1
            · (intro w hSw; (try dsimp only at hSw); first | (go_simp; done) | (go_simp; with_reducible rfl))
            simp only [List.getElem_toArray, List.getElem_cons_zero, List.getElem_cons_succ, Act.put, List.setIfInBounds_toArray, List.set_cons_zero, List.set_cons_succ]
            refine wpAnyH_take (i := 4) (v := ?_) rfl (by kernel_rfl) (by kernel_rfl) (by kernel_rfl) (fun _ _ _ h => h) (Or.inl ⟨by rfl, ?_⟩) (by assumption) ?_
            rotate_left 1
            · (intro w hSw; (try dsimp only at hSw); first | (go_simp; done) | (go_simp; with_reducible rfl))
            simp only [List.getElem_toArray, List.getElem_cons_zero, List.getElem_cons_succ, Act.put, List.setIfInBounds_toArray, List.set_cons_zero, List.set_cons_succ]
            refine wpAnyH_take (i := 5) (v := ?_) rfl (by kernel_rfl) (by kernel_rfl) (by kernel_rfl) (fun _ _ _ h => h) (Or.inl ⟨by rfl, ?_⟩) (by assumption) ?_
            rotate_left 1
            · (intro w hSw; (try dsimp only at hSw); first | (go_simp; done) | (go_simp; with_reducible rfl))
            simp only [List.getElem_toArray, List.getElem_cons_zero, List.getElem_cons_succ, Act.put, List.setIfInBounds_toArray, List.set_cons_zero, List.set_cons_succ]
            refine wpAnyH_take (i := 6) (v := ?_) rfl (by kernel_rfl) (by kernel_rfl) (by kernel_rfl) (fun _ _ _ h => h) (Or.inl ⟨by rfl, ?_⟩) (by assumption) ?_
            rotate_left 1
            · (intro w hSw; (try dsimp only at hSw); first | (go_simp; done) | (go_simp; with_reducible rfl))
            simp only [List.getElem_toArray, List.getElem_cons_zero, List.getElem_cons_succ, Act.put, List.setIfInBounds_toArray, List.set_cons_zero, List.set_cons_succ]
            refine wpAnyH_take (i := 7) (v := ?_) rfl (by kernel_rfl) (by kernel_rfl) (by kernel_rfl) (fun _ _ _ h => h) (Or.inl ⟨by rfl, ?_⟩) (by assumption) ?_
            rotate_left 1
            · (intro w hSw; (try dsimp only at hSw); first | (go_simp; done) | (go_simp; with_reducible rfl))
            simp only [List.getElem_toArray, List.getElem_cons_zero, List.getElem_cons_succ, Act.put, List.setIfInBounds_toArray, List.set_cons_zero, List.set_cons_succ]
            refine wpAnyH_take (i := 8) (v := ?_) rfl (by kernel_rfl) (by kernel_rfl) (by kernel_rfl) (fun _ _ _ h => h) (Or.inl ⟨by rfl, ?_⟩) (by assumption) ?_
            rotate_left 1
            · (intro w hSw; (try dsimp only at hSw); first | (go_simp; done) | (go_simp; with_reducible rfl))
            simp only [List.getElem_toArray, List.getElem_cons_zero, List.getElem_cons_succ, Act.put, List.setIfInBounds_toArray, List.set_cons_zero, List.set_cons_succ]
            refine wpAnyH_take (i := 9) (v := ?_) rfl (by kernel_rfl) (by kernel_rfl) (by kernel_rfl) (fun _ _ _ h => h) (Or.inl ⟨by rfl, ?_⟩) (by assumption) ?_
            rotate_left 1
            · (intro w hSw; (try dsimp only at hSw); first | (go_simp; done) | (go_simp; with_reducible rfl))
            simp only [List.getElem_toArray, List.getElem_cons_zero, List.getElem_cons_succ, Act.put, List.setIfInBounds_toArray, List.set_cons_zero, List.set_cons_succ]
            refine wpAnyH_take (i := 10) (v := ?_) rfl (by kernel_rfl) (by kernel_rfl) (by kernel_rfl) (fun _ _ _ h => h) (Or.inl ⟨by rfl, ?_⟩) (by assumption) ?_
            rotate_left 1
            · (intro w hSw; (try dsimp only at hSw); first | (go_simp; done) | (go_simp; with_reducible rfl))
            simp only [List.getElem_toArray, List.getElem_cons_zero, List.getElem_cons_succ, Act.put, List.setIfInBounds_toArray, List.set_cons_zero, List.set_cons_succ]
            refine wpAnyH_take (i := 11) (v := ?_) rfl (by kernel_rfl) (by kernel_rfl) (by kernel_rfl) (fun _ _ _ h => h) (Or.inl ⟨by rfl, ?_⟩) (by assumption) ?_
            rotate_left 1
            · (intro w hSw; (try dsimp only at hSw); first | (go_simp; done) | (go_simp; with_reducible rfl))
            simp only [List.getElem_toArray, List.getElem_cons_zero, List.getElem_cons_succ, Act.put, List.setIfInBounds_toArray, List.set_cons_zero, List.set_cons_succ]
            refine wpAnyH_take (i := 12) (v := ?_) rfl (by kernel_rfl) (by kernel_rfl) (by kernel_rfl) (fun _ _ _ h => h) (Or.inl ⟨by rfl, ?_⟩) (by assumption) ?_
            rotate_left 1
            · (intro w hSw; (try dsimp only at hSw); first | (go_simp; done) | (go_simp; with_reducible rfl))
            simp only [List.getElem_toArray, List.getElem_cons_zero, List.getElem_cons_succ, Act.put, List.setIfInBounds_toArray, List.set_cons_zero, List.set_cons_succ]
            refine wpAnyH_take (i := 13) (v := ?_) rfl (by kernel_rfl) (by kernel_rfl) (by kernel_rfl) (fun _ _ _ h => h) (Or.inl ⟨by rfl, ?_⟩) (by assumption) ?_
            rotate_left 1
            · (intro w hSw; (try dsimp only at hSw); first | (go_simp; done) | (go_simp; with_reducible rfl))
            simp only [List.getElem_toArray, List.getElem_cons_zero, List.getElem_cons_succ, Act.put, List.setIfInBounds_toArray, List.set_cons_zero, List.set_cons_succ]
            refine wpAnyH_take (i := 14) (v := ?_) rfl (by kernel_rfl) (by kernel_rfl) (by kernel_rfl) (fun _ _ _ h => h) (Or.inl ⟨by rfl, ?_⟩) (by assumption) ?_
            rotate_left 1
            · (intro w hSw; (try dsimp only at hSw); first | (go_simp; done) | (go_simp; with_reducible rfl))
            simp only [List.getElem_toArray, List.getElem_cons_zero, List.getElem_cons_succ, Act.put, List.setIfInBounds_toArray, List.set_cons_zero, List.set_cons_succ]
            refine wpAnyH_take (i := 15) (v := ?_) rfl (by kernel_rfl) (by kernel_rfl) (by kernel_rfl) (fun _ _ _ h => h) (Or.inl ⟨by rfl, ?_⟩) (by assumption) ?_
            rotate_left 1
            · (intro w hSw; (try dsimp only at hSw); first | (go_simp; done) | (go_simp; with_reducible rfl))
            simp only [List.getElem_toArray, List.getElem_cons_zero, List.getElem_cons_succ, Act.put, List.setIfInBounds_toArray, List.set_cons_zero, List.set_cons_succ]
            refine wpAnyH_take (i := 16) (v := ?_) rfl (by kernel_rfl) (by kernel_rfl) (by kernel_rfl) (fun _ _ _ h => h) (Or.inl ⟨by rfl, ?_⟩) (by assumption) ?_
            rotate_left 1
            · (intro w hSw; (try dsimp only at hSw); first | (go_simp; done) | (go_simp; with_reducible rfl))
            simp only [List.getElem_toArray, List.getElem_cons_zero, List.getElem_cons_succ, Act.put, List.setIfInBounds_toArray, List.set_cons_zero, List.set_cons_succ]
            refine wpAnyH_take (i := 17) (v := ?_) rfl (by kernel_rfl) (by kernel_rfl) (by kernel_rfl) (fun _ _ _ h => h) (Or.inl ⟨by rfl, ?_⟩) (by assumption) ?_
            rotate_left 1
            · (intro w hSw; (try dsimp only at hSw); first | (go_simp; done) | (go_simp; with_reducible rfl))
            simp only [List.getElem_toArray, List.getElem_cons_zero, List.getElem_cons_succ, Act.put, List.setIfInBounds_toArray, List.set_cons_zero, List.set_cons_succ]
            refine wpAnyH_ready (rs := [18]) (by kernel_rfl) (by simp) ?_
            refine AllReadyH.cons rfl (fun K hK => ?_) AllReadyH.nil
            go_simp
            go_at_call 35
            refine (HX.out _ (T3.out.trans tt (fun _ _ hf => hf))).mono ?_
            rintro e4 w4 ⟨rfl, t4⟩
            go_wp2_with fail
            refine hK.out _ _ (HSof.out _ (tt.trans t4 (fun _ _ hf => hf))) (fun hHeld2 => ?_)
            clear hK K hHeld
            refine wpAnyH_take (i := 19) (v := ?_) rfl (by kernel_rfl) (by kernel_rfl) (by kernel_rfl) (fun _ _ _ h => h) (Or.inl ⟨by rfl, ?_⟩) (by assumption) ?_
            rotate_left 1
            · (intro w hSw; (try dsimp only at hSw); first | (go_simp; done) | (go_simp; with_reducible rfl))
            simp only [List.getElem_toArray, List.getElem_cons_zero, List.getElem_cons_succ, Act.put, List.setIfInBounds_toArray, List.set_cons_zero, List.set_cons_succ]
            refine wpAnyH_take (i := 20) (v := ?_) rfl (by kernel_rfl) (by kernel_rfl) (by kernel_rfl) (fun _ _ _ h => h) (Or.inl ⟨by rfl, ?_⟩) (by assumption) ?_
            rotate_left 1
            · (intro w hSw; (try dsimp only at hSw); first | (go_simp; done) | (go_simp; with_reducible rfl))
            simp only [List.getElem_toArray, List.getElem_cons_zero, List.getElem_cons_succ, Act.put, List.setIfInBounds_toArray, List.set_cons_zero, List.set_cons_succ]
            refine wpAnyH_take (i := 21) (v := ?_) rfl (by kernel_rfl) (by kernel_rfl) (by kernel_rfl) (fun _ _ _ h => h) (Or.inl ⟨by rfl, ?_⟩) (by assumption) ?_
            rotate_left 1
            · (intro w hSw; (try dsimp only at hSw); first | (go_simp; done) | (go_simp; with_reducible rfl))
            simp only [List.getElem_toArray, List.getElem_cons_zero, List.getElem_cons_succ, Act.put, List.setIfInBounds_toArray, List.set_cons_zero, List.set_cons_succ]
            refine wpAnyH_take (i := 22) (v := ?_) rfl (by kernel_rfl) (by kernel_rfl) (by kernel_rfl) (fun _ _ _ h => h) (Or.inl ⟨by rfl, ?_⟩) (by assumption) ?_
            rotate_left 1
            · (intro w hSw; (try dsimp only at hSw); first | (go_simp; done) | (go_simp; with_reducible rfl))
            simp only [List.getElem_toArray, List.getElem_cons_zero, List.getElem_cons_succ, Act.put, List.setIfInBounds_toArray, List.set_cons_zero, List.set_cons_succ]
            refine wpAnyH_take (i := 23) (v := undef) rfl (by kernel_rfl) (by kernel_rfl) (by kernel_rfl) (fun _ _ _ h => h) (Or.inr ⟨by rfl, rfl⟩) (by assumption) ?_
            simp only [List.getElem_toArray, List.getElem_cons_zero, List.getElem_cons_succ, Act.put, List.setIfInBounds_toArray, List.set_cons_zero, List.set_cons_succ]
            refine wpAnyH_take (i := 24) (v := undef) rfl (by kernel_rfl) (by kernel_rfl) (by kernel_rfl) (fun _ _ _ h => h) (Or.inr ⟨by rfl, rfl⟩) (by assumption) ?_
            simp only [List.getElem_toArray, List.getElem_cons_zero, List.getElem_cons_succ, Act.put, List.setIfInBounds_toArray, List.set_cons_zero, List.set_cons_succ]
            refine wpAnyH_take (i := 25) (v := undef) rfl (by kernel_rfl) (by kernel_rfl) (by kernel_rfl) (fun _ _ _ h => h) (Or.inr ⟨by rfl, rfl⟩) (by assumption) ?_
            simp only [List.getElem_toArray, List.getElem_cons_zero, List.getElem_cons_succ, Act.put, List.setIfInBounds_toArray, List.set_cons_zero, List.set_cons_succ]
            refine wpAnyH_take (i := 26) (v := undef) rfl (by kernel_rfl) (by kernel_rfl) (by kernel_rfl) (fun _ _ _ h => h) (Or.inr ⟨by rfl, rfl⟩) (by assumption) ?_
            simp only [List.getElem_toArray, List.getElem_cons_zero, List.getElem_cons_succ, Act.put, List.setIfInBounds_toArray, List.set_cons_zero, List.set_cons_succ]
            refine wpAnyH_take (i := 27) (v := undef) rfl (by kernel_rfl) (by kernel_rfl) (by kernel_rfl) (fun _ _ _ h => h) (Or.inr ⟨by rfl, rfl⟩) (by assumption) ?_
            simp only [List.getElem_toArray, List.getElem_cons_zero, List.getElem_cons_succ, Act.put, List.setIfInBounds_toArray, List.set_cons_zero, List.set_cons_succ]
            refine wpAnyH_take (i := 28) (v := ?_) rfl (by kernel_rfl) (by kernel_rfl) (by kernel_rfl) (fun _ _ _ h => h) (Or.inl ⟨by rfl, ?_⟩) (by assumption) ?_
            rotate_left 1
            · (intro w hSw; (try dsimp only at hSw); first | (go_simp; done) | (go_simp; with_reducible rfl))
            simp only [List.getElem_toArray, List.getElem_cons_zero, List.getElem_cons_succ, Act.put, List.setIfInBounds_toArray, List.set_cons_zero, List.set_cons_succ]
            refine wpAnyH_take (i := 29) (v := ?_) rfl (by kernel_rfl) (by kernel_rfl) (by kernel_rfl) (fun _ _ _ h => h) (Or.inl ⟨by rfl, ?_⟩) (by assumption) ?_
            rotate_left 1
            · (intro w hSw; (try dsimp only at hSw); first | (go_simp; done) | (go_simp; with_reducible rfl))
            simp only [List.getElem_toArray, List.getElem_cons_zero, List.getElem_cons_succ, Act.put, List.setIfInBounds_toArray, List.set_cons_zero, List.set_cons_succ]
            refine wpAnyH_done (by kernel_rfl) ?_ _
            have t6 := T3.out.trans (tt.trans t4 (fun _ _ hf => hf)) (fun _ _ hf => hf)
            clear hHeld2 hqi hsub
            go_wp2
            go_ret
            exact ⟨by rw [HR.out]; rfl, t6⟩
      · have hR := hfal2 hbad h1
        have HR := Lib.hid hR
        have hT := fun V => rtokens_fine V (spell t) (by omega) hbad (by omega)
        have h1i : (((Lx.toks (spell t)).toks.length : Int) == 1) = false := by
          rw [Bool.eq_false_iff]; intro h; apply h1; have : ((Lx.toks (spell t)).toks.length : Int) = 1 := by simpa using h
          omega
        generalize (Lx.toks (spell t)).toks = o at *
        have HT := Lib.hid hT
        clear hfal hfal2 hone hbad hT hR h1
        generalize spell t = x at *
        obtain ⟨k, n, s, a, e⟩ := t
        unfold ATok.val at *
        simp only at hno hk64 hw ⊢
        have hx : (k = 3 ∧ ¬ n < 0) ∨ ((k == 3) = false) := by
          by_cases hk : k = 3
          · exact .inl ⟨hk, by omega⟩
          · exact .inr (by simpa using hk)
        clear hno
        rcases hx with ⟨rfl, hn⟩ | hkb
        all_goals
          go_enter Tryz.func61, Tryz.ntmps61
          go_wp2_with fail
          refine (HX.out _ (HA.out _)).mono ?_
          rintro e w1 ⟨rfl, t1⟩
          go_wp2_with fail
          refine (HT.out _).mono ?_
          rintro e w2 ⟨va, vc, rfl, -, t2⟩
          have t3 := (HA.out _).trans (t1.trans t2 (fun _ _ hf => hf)) (fun _ _ hf => hf)
          go_wp2_with fail
          go_quiet (fail)
          go_wp2
          go_ret
          exact ⟨by rw [HR.out]; rfl, t3.drewN _⟩

set_option maxRecDepth 100000 in
set_option maxHeartbeats 1600000 in
theorem rights_any (v : Value) (l : List ATok) (w : World) (he : Env w) (h7 : 7 ≤ w.heap.size) (hv : RowOf w v l) (hw : ∀ t ∈ l, t.wide) (hln : l.length ≤ 9223372036854775806) :
    Calls Tryz.prog 33 #[v] w fun e w' => e = .returned (.bool (l.all rightB)) ∧ Turned w w' (fun _ => False) := by
  have hv2 := hv
  obtain ⟨va, vc, rfl, -⟩ := hv
  have Hv := Lib.hid hv2
  have hE : ∀ W, Turned w W (fun _ => False) → Env W ∧ 7 ≤ W.heap.size := fun W hW => ⟨he.turned hW h7 (fun k hk => hk.elim), Nat.le_trans h7 hW.size⟩
  have hX := fun (t : ATok) (ht : t ∈ l) W (hW : Turned w W (fun _ => False)) => rright_any t W (hE W hW).1 (hE W hW).2 (hw t ht)
  have HX := Lib.hid hX
  clear hX hE he h7 hw hv2
  go_enter Tryz.func33, Tryz.ntmps33
  go_wp2_with fail
  go_loopw [3] (fun i wr => ∃ k : Nat, k ≤ l.length ∧ i = .int .i64 k ∧ (l.take k).all rightB = true ∧ Turned w wr (fun _ => False)) (fun i _ => l.length - (intOf i).toNat)
  case atStart => exact ⟨0, Nat.zero_le _, rfl, by simp, Turned.refl _ _⟩
  case round =>
    obtain ⟨k, hk, rfl, hall, ht⟩ := hrel
    by_cases hlt : k < l.length
    · have hki : (k : Int) < (l.length : Int) := by omega
      obtain ⟨g, off, rfl, lg, xc⟩ := rowA_at Hv.out k hlt
      have h1 : (l.take (k + 1)).all rightB = rightB l[k] := by
        rw [List.take_succ_eq_append_getElem hlt, List.all_append, hall]
        simp
      have h2 : rightB l[k] = false → l.all rightB = false := fun h => List.all_eq_false.2 ⟨l[k], List.getElem_mem hlt, by simp [h]⟩
      have hc := HX.out l[k] (List.getElem_mem hlt) wr ht
      generalize l[k] = x at *
      obtain ⟨k1, n1, s1, a1, e1⟩ := x
      unfold ATok.val at hc
      simp only at hc
      have pa := fun (i : Nat) (u : Value) (hu : (ATok.cells ⟨k1, n1, s1, a1, e1⟩)[i]? = some u) => (ht.cell (p := ⟨g, off + k * 5 + i, none⟩) lg (fun hf => hf)).trans (xc i u hu)
      have p0 : wr.cell? ⟨g, off + k * 5, none⟩ = some (.int .i64 k1) := pa 0 _ rfl
      have p1 : wr.cell? ⟨g, off + k * 5 + 1, none⟩ = some (.int .i64 n1) := pa 1 _ rfl
      have p2 : wr.cell? ⟨g, off + k * 5 + 2, none⟩ = some (.string ⟨s1.toArray⟩) := pa 2 _ rfl
      have p3 : wr.cell? ⟨g, off + k * 5 + 3, none⟩ = some (.int .i64 a1) := pa 3 _ rfl
      have p4 : wr.cell? ⟨g, off + k * 5 + 4, none⟩ = some (.int .i64 e1) := pa 4 _ rfl
      have lg' : g < wr.heap.size := Nat.lt_of_lt_of_le lg ht.size
      cases hr : rightB ⟨k1, n1, s1, a1, e1⟩ with
      | false =>
        rw [hr] at hc
        have hf := h2 hr
        have Hf := Lib.hid hf
        have Hc := Lib.hid hc
        clear xc pa lg hall h1 h2 hc hr hf
        go_wp2_with fail
        refine Hc.out.mono ?_
        rintro e2 w2 ⟨rfl, t2⟩
        have t3 := ht.trans t2 (fun _ _ hf => hf)
        go_wp2
        go_ret
        exact ⟨by rw [Hf.out]; rfl, t3⟩
      | true =>
        rw [hr] at hc h1
        have H1 := Lib.hid h1
        have Hc := Lib.hid hc
        clear xc pa lg hall h1 h2 hc hr
        go_wp2_with fail
        refine Hc.out.mono ?_
        rintro e2 w2 ⟨rfl, t2⟩
        have t3 := ht.trans t2 (fun _ _ hf => hf)
        go_wp2
        go_roundw
        case rel => exact ⟨k + 1, by omega, by go_num, H1.out, t3⟩
        case measure => simp [intOf]; omega
    · obtain rfl : k = l.length := by omega
      rw [List.take_length] at hall
      have Hall := Lib.hid hall
      clear hall
      go_wp2
      go_ret
      exact ⟨by rw [Hall.out]; rfl, ht⟩
end Go.Proofs.YtbcmjinifilamaaGreatDoor
