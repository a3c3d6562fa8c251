/- Kind. -/
import Derived.Test.YtinogdeolnldhaaDoorTok
namespace Go.Proofs.YtinogdeolnldhaaDoor
open Go.RowKit

def KI (B bx sb : Nat) (w : World) (S : Scn) : Prop := Scan B w S ∧ S.sb = sb ∧ w.heap[bx]? = some (.cells #[.pointer (some ⟨sb, 0, none⟩)] 53 (0, 0))

set_option maxRecDepth 100000 in
set_option maxHeartbeats 400000 in
theorem kind1_any (B bx sb : Nat) (w : World) (S : Scn) (h : KI B bx sb w S) :
    Calls Tryd.prog 40 #[.pointer (some ⟨bx, 0, none⟩)] w fun e w' => e = .returned (.bool (decide (0 < S.at_))) ∧ w' = w := by
  obtain ⟨h1, rfl, h3⟩ := h
  have c5 := h1.c5
  have cb : w.cell? ⟨bx, 0, none⟩ = some (.pointer (some ⟨S.sb, 0, none⟩)) := by simp [World.cell?, h3]
  go_enter Tryd.func40, Tryd.ntmps40
  go_wp2
  go_ret
  exact ⟨rfl, rfl⟩

theorem run_kind1 (bx : Nat) (w : World) : (callFunc 40 #[.pointer (some ⟨bx, 0, none⟩)]).run Tryd.prog w = .ok (.enter 40 #[.pointer (some ⟨bx, 0, none⟩)]) w := by kernel_rfl

theorem kind_enough (B bx sb H : Nat) (hb : bx < H) : Enough B 40 #[.pointer (some ⟨bx, 0, none⟩)] (KI B bx sb) (KI B bx sb) (fun p => decide (0 < p)) (fun _ => False) H := by
  have keep : ∀ w S w' S', KI B bx sb w S → Scan B w' S' → Turned w w' (fun k => S.own k ∨ H ≤ k) → S'.sb = S.sb → S'.text = S.text → KI B bx sb w' S' := by
    intro w S w' S' h hs t hsb _
    refine ⟨hs, hsb.trans h.2.1, (t.block bx (lt_of_block h.2.2) (fun e => ?_)).trans h.2.2⟩
    rcases e with e | e
    · exact h.1.not_own h.2.2 (by simp) e
    · omega
  exact ⟨run_kind1 bx, fun _ _ h => h.1, fun _ _ h => h.1, keep, keep, fun w S h => (kind1_any B bx sb w S h).mono fun e w' ⟨he, hw⟩ => by subst hw; exact ⟨he, Turned.refl _ _, fun _ => h, fun _ => h⟩⟩

/-- The first step alone. -/
theorem cutE_first (l : Lx.Bytes) : Lx.cutE (fun p => decide (0 < p)) 0 l = match l with
    | [] => (0, ⟨[], [], none⟩)
    | _ => match Lx.step 0 l with
      | none => (0, ⟨[], [], some 0⟩)
      | some (k, ts, cs) => (k, ⟨ts, cs, none⟩) := by
  match l with
  | [] => rfl
  | c :: r =>
    rw [Lx.cutE_cons]
    simp only [Nat.lt_irrefl, decide_false, Bool.false_eq_true, if_false, Nat.zero_add]
    cases hs : Lx.step 0 (c :: r) with
    | none => rfl
    | some x =>
      obtain ⟨k, ts, cs⟩ := x
      have hl := Lx.step_len _ _ hs
      have he : Lx.cutE (fun p => decide (0 < p)) k ((c :: r).drop k) = (k, ⟨[], [], none⟩) := by
        cases hd : (c :: r).drop k with
        | nil => rfl
        | cons c2 r2 => rw [Lx.cutE_cons]; simp [hl.1]
      simp only
      rw [he]
      simp [Lx.Out.pre]

def kindOut (X : Nat × Lx.Out) (n : Nat) : Nat :=
  match X.2.bad, X.2.toks with
  | none, t :: _ => if X.1 = n then t.kind else 0
  | _, _ => 0

theorem kind_eq (l : Lx.Bytes) : Lx.kind l = kindOut (Lx.cutE (fun p => decide (0 < p)) 0 l) l.length := by
  rw [cutE_first]
  match l with
  | [] => rfl
  | c :: r =>
    by_cases hb : Lx.isBlank c
    · have h1 : Lx.step 0 (c :: r) = some (((c :: r).takeWhile Lx.isBlank).length, [], []) := by simp [Lx.step, hb]
      simp only [Lx.kind]
      rw [Lx.cut1_blank hb, h1]
      rfl
    · simp only [Lx.kind]
      cases hc : Lx.cut1 (c :: r) with
      | skip => exact absurd hc (Lx.cut1_not_skip hb)
      | comment n =>
        have h1 : Lx.step 0 (c :: r) = some (n, [], [(0, 0 + n)]) := by simp [Lx.step, hb, hc]
        rw [h1]; rfl
      | tok k n s len =>
        have h1 : Lx.step 0 (c :: r) = some (len, [⟨k, n, s, 0, 0 + len⟩], []) := by simp [Lx.step, hb, hc]
        rw [h1]; rfl
      | bad =>
        have h1 : Lx.step 0 (c :: r) = none := by simp [Lx.step, hb, hc]
        rw [h1]; rfl

theorem toks_le_one (l : Lx.Bytes) : (Lx.cutE (fun p => decide (0 < p)) 0 l).2.toks.length ≤ 1 := by
  rw [cutE_first]
  match l with
  | [] => simp
  | c :: r =>
    simp only
    cases hs : Lx.step 0 (c :: r) with
    | none => simp
    | some x =>
      obtain ⟨k, ts, cs⟩ := x
      exact (Lx.step_len _ _ hs).2.2.1

theorem first_le (l : Lx.Bytes) : (Lx.cutE (fun p => decide (0 < p)) 0 l).1 ≤ l.length := by
  rw [cutE_first]
  match l with
  | [] => simp
  | c :: r =>
    simp only
    cases hs : Lx.step 0 (c :: r) with
    | none => simp
    | some x =>
      obtain ⟨k, ts, cs⟩ := x
      exact (Lx.step_len _ _ hs).2.1

set_option maxRecDepth 100000 in
set_option maxHeartbeats 1600000 in
theorem kind_any (w : World) (he : Env w) (h7 : 7 ≤ w.heap.size) (t : ByteArray) (ht : t.size ≤ 140737488351232) :
    Calls Tryd.prog 19 #[.string t] w fun e w' => e = .returned (.int .i64 (Lx.kind t.data.toList)) ∧ Below w.heap.size w w' := by
  have hmf : ∀ (fn : Fn) (first cap : Array Value) (w : World), (Instr.makeFunc fn first cap).run Tryd.prog w = .ok (.func fn first cap) w := fun _ _ _ _ => rfl
  go_enter Tryd.func19, Tryd.ntmps19
  go_wp2_with fail
  refine (newScanner_any w he h7).mono ?_
  rintro e w1 ⟨S, rfl, h1, b1, _⟩
  have hz : w.heap.size ≤ w1.heap.size := b1.size
  have sB := h1.alloc (.cells #[.pointer (some ⟨S.sb, 0, none⟩)] 53)
  have bB := b1.alloc (o := .cells #[.pointer (some ⟨S.sb, 0, none⟩)] 53) (by omega)
  have kB := heap_alloc_new w1 (.cells #[.pointer (some ⟨S.sb, 0, none⟩)] 53)
  have zB : (w1.alloc (.cells #[.pointer (some ⟨S.sb, 0, none⟩)] 53)).heap.size = w1.heap.size + 1 := by simp
  go_wp2_with fail
  generalize w1.alloc (.cells #[.pointer (some ⟨S.sb, 0, none⟩)] 53) = W at *
  generalize hbx : w1.heap.size = bx at *
  have Hbx := Lib.hid hbx
  clear hbx
  refine (begin_any _ W S sB t).mono ?_
  rintro e w2 ⟨rfl, h2, g2⟩
  have k2 : w2.heap[bx]? = some (.cells #[.pointer (some ⟨S.sb, 0, none⟩)] 53 (0, 0)) := (g2.turned.block bx (lt_of_block kB) (sB.not_own kB (by simp))).trans kB
  have b2 : Below w.heap.size w w2 := bB.trans (g2.below sB)
  have c2 : w2.cell? ⟨bx, 0, none⟩ = some (.pointer (some ⟨S.sb, 0, none⟩)) := by simp [World.cell?, k2]
  have l2 : bx < w2.heap.size := lt_of_block k2
  have Z := Lib.hid zB
  clear zB
  go_wp2_with fail
  have hc := cut_any w.heap.size w2 (S.fresh t) _ #[.pointer (some ⟨bx, 0, none⟩)] _ _ _ _ (kind_enough w.heap.size bx S.sb w2.heap.size l2) ⟨h2, rfl, k2⟩ ht (Nat.zero_le _) (fun k hk => hk.elim) 0 (fun p _ hp => by simpa using hp) (by show (0 + 0 + 1) * 48 ≤ _; omega) (by show (0 + 0 + 1) * 16 ≤ _; omega)
  refine hc.mono ?_
  clear hc
  rintro e w3 ⟨S3, h3, f3, hp⟩
  rw [rest_zero] at hp
  have e0 : (S.fresh t).at_ = 0 := rfl
  rw [e0] at hp
  clear e0
  have k3 : w3.heap[bx]? = some (.cells #[.pointer (some ⟨S.sb, 0, none⟩)] 53 (0, 0)) := (f3.turned.block bx l2 (fun hk => by rcases hk with hk | hk; exact h2.not_own k2 (by simp) hk; exact hk)).trans k2
  have b3 : Below w.heap.size w w3 := b2.trans (f3.turned.below b2.size (fun k hk => by rcases hk with hk | hk; exact (h2.own_tag hk).1; exact hk.elim))
  have c3 : w3.cell? ⟨bx, 0, none⟩ = some (.pointer (some ⟨S.sb, 0, none⟩)) := by simp [World.cell?, k3]
  have hkd := kind_eq t.data.toList
  have hle := toks_le_one t.data.toList
  have hpl := Lib.hid (first_le t.data.toList)
  unfold kindOut at hkd
  generalize Lx.cutE (fun p => decide (0 < p)) 0 t.data.toList = X at *
  obtain ⟨p, o⟩ := X
  clear c2 k2 h2 g2 b2 bB sB h1 b1 kB
  cases hb : o.bad with
  | some q =>
    simp only [hb] at hp hkd
    subst hp
    have Hkd := Lib.hid hkd
    clear hkd hb hle
    go_wp2
    go_ret
    rw [Hkd.out]
    exact ⟨rfl, b3⟩
  | none =>
    simp only [hb] at hp hkd
    obtain ⟨rfl, hx, hat, htk, hcm, _⟩ := hp
    have htk' : S3.toks = o.toks := by rw [htk]; rfl
    have hsb : S3.sb = S.sb := f3.sb
    obtain ⟨va, vc, hv⟩ := tv_form h3
    have c6 := h3.c6
    have c5 := h3.c5
    rw [hsb] at c6 c5
    rw [hv] at c6
    have hown := h3.toks
    rw [hv, htk'] at hown
    rw [htk'] at c6
    rw [hat] at c5
    clear htk hcm hsb hv h3 hx f3
    cases ht2 : o.toks with
    | nil =>
      rw [ht2] at hkd c6
      simp only [List.length_nil] at c6
      have Hkd := Lib.hid hkd
      clear hkd hb hle ht2 htk' hown hat
      go_wp2
      go_ret
      rw [Hkd.out]
      exact ⟨rfl, b3⟩
    | cons a r =>
      have hr : r = [] := by
        rw [ht2] at hle
        simpa using hle
      subst hr
      rw [ht2] at hkd c6 hown
      simp only [List.length_cons, List.length_nil, Nat.zero_add] at c6 hown
      have hcell : ∃ g0, va = some ⟨g0, 0, none⟩ ∧ w3.cell? ⟨g0, 0, none⟩ = some (.int .i64 a.kind) := by
        rcases hown.2 with ⟨h5, _⟩ | ⟨g0, cap, cur, h5, _⟩
        · simp at h5
        · simp only [Value.slice.injEq] at h5
          refine ⟨g0, h5.1, ?_⟩
          have := hown.cells (g := g0) (by rw [h5.1]; rfl) 0 (.int .i64 a.kind) (by simp [tokCells])
          simpa [Addr.add] using this
      obtain ⟨g0, rfl, hk0⟩ := hcell
      clear hown hle ht2 htk' hb hat
      by_cases hp : p < t.size
      · have hpi : (p : Int) < (t.size : Int) := by omega
        have hne : p ≠ t.data.toList.length := by show p ≠ t.size; omega
        simp only [if_neg hne] at hkd
        have Hkd := Lib.hid hkd
        clear hkd
        go_wp2
        go_ret
        rw [Hkd.out]
        exact ⟨rfl, b3⟩
      · have hpe : p = t.data.toList.length := by have h5 := hpl.out; simp only at h5; exact Nat.le_antisymm h5 (by show t.size ≤ p; omega)
        have hpi : ¬ (p : Int) < (t.size : Int) := by omega
        simp only [if_pos hpe] at hkd
        have Hkd := Lib.hid hkd
        clear hkd hpe
        go_wp2
        go_ret
        rw [Hkd.out]
        exact ⟨rfl, b3⟩
end Go.Proofs.YtinogdeolnldhaaDoor
