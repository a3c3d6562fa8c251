/- The loop of the scanner. -/
import Derived.Test.YtinogdeolnldhaaDoorCatch
import Derived.StillTailTactics
namespace Go.Proofs.YtinogdeolnldhaaDoor
open Go.RowKit Go.WideMaps Go.Maps

/-- What says whether the scanner has gone far enough: a function value, what holds as long as it says no (I), and once it has said yes (J); Dq: what it may turn. -/
structure Enough (B : Nat) (g : FuncId) (caps : Array Value) (I J : World → Scn → Prop) (E : Nat → Bool) (Dq : Nat → Prop) (H0 : Nat) : Prop where
  run : ∀ (w : World), (callFunc g caps).run Tryd.prog w = .ok (.enter g caps) w
  scan : ∀ w S, I w S → Scan B w S
  scanJ : ∀ w S, J w S → Scan B w S
  keep : ∀ w S w' S', I w S → Scan B w' S' → Turned w w' (fun k => S.own k ∨ H0 ≤ k) → S'.sb = S.sb → S'.text = S.text → I w' S'
  keepJ : ∀ w S w' S', J w S → Scan B w' S' → Turned w w' (fun k => S.own k ∨ H0 ≤ k) → S'.sb = S.sb → S'.text = S.text → J w' S'
  calls : ∀ w S, I w S → Calls Tryd.prog g caps w (fun e w' => e = .returned (.bool (E S.at_)) ∧ Turned w w' Dq ∧ (E S.at_ = true → J w' S) ∧ (E S.at_ = false → I w' S))

/-- What a scanner's cuts leave. -/
structure CutFrame (w : World) (S : Scn) (Dq : Nat → Prop) (w' : World) (S' : Scn) : Prop where
  turned : Turned w w' (fun k => S.own k ∨ Dq k)
  own : ∀ k, k < w.heap.size → S'.own k → S.own k
  sb : S'.sb = S.sb

def CutPost (B : Nat) (w : World) (S : Scn) (I J : World → Scn → Prop) (E : Nat → Bool) (Dq : Nat → Prop) (e : Ending) (w' : World) : Prop :=
  ∃ S', Scan B w' S' ∧ CutFrame w S Dq w' S' ∧
    match (Lx.cutE E S.at_ S.rest).2.bad with
    | some q => e = .returned (.tuple #[.int .i64 q, .int .i64 10])
    | none => e = .returned (.tuple #[.int .i64 0, .int .i64 0]) ∧ S'.text = S.text ∧ S'.at_ = (Lx.cutE E S.at_ S.rest).1 ∧ S'.toks = S.toks ++ (Lx.cutE E S.at_ S.rest).2.toks ∧ S'.coms = S.coms ++ (Lx.cutE E S.at_ S.rest).2.coms ∧
        (S'.at_ < S.text.size → J w' S') ∧ (S'.at_ = S.text.size → I w' S')

theorem run_state0 (a : Array Value) (w : World) : (callFunc 51 a).run Tryd.prog w = .ok (.enter 51 a) w := by kernel_rfl
theorem run_state1 (a : Array Value) (w : World) : (callFunc 52 a).run Tryd.prog w = .ok (.enter 52 a) w := by kernel_rfl
theorem run_state2 (a : Array Value) (w : World) : (callFunc 53 a).run Tryd.prog w = .ok (.enter 53 a) w := by kernel_rfl
theorem run_state3 (a : Array Value) (w : World) : (callFunc 54 a).run Tryd.prog w = .ok (.enter 54 a) w := by kernel_rfl
theorem run_state4 (a : Array Value) (w : World) : (callFunc 55 a).run Tryd.prog w = .ok (.enter 55 a) w := by kernel_rfl
theorem run_state (k : Int) (h0 : 0 ≤ k) (h4 : k ≤ 4) (a : Array Value) (w : World) : (callFunc (stateOf k) a).run Tryd.prog w = .ok (.enter (stateOf k) a) w := by
  have h5 : k = 0 ∨ k = 1 ∨ k = 2 ∨ k = 3 ∨ k = 4 := by omega
  rcases h5 with rfl | rfl | rfl | rfl | rfl
  · exact run_state0 a w
  · exact run_state1 a w
  · exact run_state2 a w
  · exact run_state3 a w
  · exact run_state4 a w

theorem StatesAt.look {w : World} {b : Nat} (h : StatesAt w b) (k : Int) (h0 : 0 ≤ k) (h4 : k ≤ 4) :
    (Instr.lookup 60 (.map (some b)) (.int .i64 k) false).run Tryd.prog w = .ok (.func (.func (stateOf k)) #[] #[]) w := by
  obtain ⟨n, D, hm, hD⟩ := h
  have hz : ∀ w : World, (zeroValue 85).run Tryd.prog w = .ok .nilFunc w := fun w => by kernel_rfl
  have hwf : (Lit.int .i64 k).wf = true := by
    have h5 : k = 0 ∨ k = 1 ∨ k = 2 ∨ k = 3 ∨ k = 4 := by omega
    rcases h5 with rfl | rfl | rfl | rfl | rfl <;> rfl
  obtain ⟨v, ps, hrun, hv⟩ := hm.lookup keyed84 Tryd.underlying60 (hz w) (zd := .nil) (zp := []) rfl (key_class k hwf)
  rw [hD k h0 h4] at hv
  rw [hrun]
  unfold fnElem at hv
  split at hv
  · simp at hv
  · split at hv
    · rename_i hac
      obtain ⟨rfl, rfl⟩ := hac
      simp only [Option.some.injEq, Prod.mk.injEq, DataW.lit.injEq, Lit.int.injEq, true_and] at hv
      obtain ⟨h1, _⟩ := hv
      have : stateOf k = ‹_› := by exact_mod_cast h1.symm
      rw [this]
    · simp at hv
  · simp at hv

theorem cls_range (c : UInt8) : 0 ≤ Lx.classOf c ∧ Lx.classOf c ≤ 4 := by
  rw [cls_cases]
  repeat' split
  all_goals omega

theorem scan_catch {B : Nat} {w2 w3 : World} {S3 : Scn} {H : Nat} {c1 c2 : Array Value} (h : Scan B w2 S3) (ha : w2.heap[H]? = some (.cells c1 3 (0, 0))) (hb : w2.heap[H + 1]? = some (.cells c2 25 (0, 0)))
    (t : Turned w2 w3 (fun k => k = H ∨ k = H + 1)) : Scan B w3 S3 := by
  have na : ¬ S3.own H := h.not_own ha (by simp)
  have nb : ¬ S3.own (H + 1) := h.not_own hb (by simp)
  refine h.turned t (fun k hk e => ?_)
  rcases hk with hk | hk | hk | hk
  · rcases e with rfl | rfl
    · exact na hk
    · exact nb hk
  · subst hk; rcases e with e | e
    · rw [← e] at ha; exact h.words.not_cells ha
    · rw [← e] at hb; exact h.words.not_cells hb
  · subst hk; rcases e with e | e
    · rw [← e] at ha; exact h.signs.not_cells ha
    · rw [← e] at hb; exact h.signs.not_cells hb
  · subst hk; rcases e with e | e
    · rw [← e] at ha; exact h.states.not_cells ha
    · rw [← e] at hb; exact h.states.not_cells hb

theorem frame_catch {w V w2 w3 : World} {S S2 S3 : Scn} {Dq : Nat → Prop} {H : Nat} (f : CutFrame w S Dq V S2) (g : Goes V.drew S2 w2 S3) (hsb : S3.sb = S2.sb) (t : Turned w2 w3 (fun k => k = H ∨ k = H + 1)) (hH : w.heap.size = H) :
    CutFrame w S Dq w3 S3 := by
  have g0 : Goes V S2 w2 S3 := (Goes.refl V S2).drew.trans g
  have t1 : Turned w w2 (fun k => S.own k ∨ Dq k) := f.turned.trans g0.turned (fun k hk ho => .inl (f.own k hk ho))
  exact ⟨t1.trans t (fun k hk e => by rcases e with e | e <;> omega), fun k hk ho => f.own k hk (g0.own k (Nat.lt_of_lt_of_le hk f.turned.size) ho), hsb.trans f.sb⟩

theorem frame_step {w V w2 : World} {S S2 S3 : Scn} {Dq : Nat → Prop} (f : CutFrame w S Dq V S2) (g : Goes V.drew S2 w2 S3) (hsb : S3.sb = S2.sb) : CutFrame w S Dq w2 S3 := by
  have g0 : Goes V S2 w2 S3 := (Goes.refl V S2).drew.trans g
  exact ⟨f.turned.trans g0.turned (fun k hk ho => .inl (f.own k hk ho)), fun k hk ho => f.own k hk (g0.own k (Nat.lt_of_lt_of_le hk f.turned.size) ho), hsb.trans f.sb⟩

theorem pre_pre (ts ts2 : List Lx.Tok) (cs cs2 : List (Nat × Nat)) (o : Lx.Out) : (o.pre ts2 cs2).pre ts cs = o.pre (ts ++ ts2) (cs ++ cs2) := by simp [Lx.Out.pre]

theorem cut_round {E : Nat → Bool} {m k : Nat} {l rr : Lx.Bytes} {c : UInt8} {ts ts2 : List Lx.Tok} {cs cs2 : List (Nat × Nat)} {X : Nat × Lx.Out} (hl : l = c :: rr) (hE : E m = false) (hs : Lx.step m l = some (k, ts2, cs2))
    (hX : X = ((Lx.cutE E m l).1, (Lx.cutE E m l).2.pre ts cs)) : X = ((Lx.cutE E (m + k) (l.drop k)).1, (Lx.cutE E (m + k) (l.drop k)).2.pre (ts ++ ts2) (cs ++ cs2)) := by
  subst hl
  rw [hX, Lx.cutE_cons, hE, hs]
  simp only [Bool.false_eq_true, if_false]
  rw [pre_pre]

theorem cut_end {B : Nat} {w w1 w3 : World} {S S' : Scn} {g : FuncId} {caps : Array Value} {I J : World → Scn → Prop} {E : Nat → Bool} {Dq : Nat → Prop} {H : Nat} {ts : List Lx.Tok} {cs : List (Nat × Nat)}
    (hE : Enough B g caps I J E Dq H) (hH : w.heap.size = H) (hsc : Scan B w1 S') (f : CutFrame w S Dq w1 S') (hx : S'.text = S.text)
    (ha : w1.heap[H]? = some (.cells #[.int .i64 0] 3 (0, 0))) (hb : w1.heap[H + 1]? = some (.cells #[.int .i64 0] 25 (0, 0)))
    (t : Turned w1 w3 (fun k => k = H ∨ k = H + 1)) (htk : S'.toks = S.toks ++ ts) (hcm : S'.coms = S.coms ++ cs) (hcut : Lx.cutE E S.at_ S.rest = (S'.at_, ⟨ts, cs, none⟩))
    (hJ : S'.at_ < S.text.size → J w1 S') (hI : S'.at_ = S.text.size → I w1 S') : CutPost B w S I J E Dq (.returned (.tuple #[.int .i64 0, .int .i64 0])) w3 := by
  have hs3 := scan_catch hsc ha hb t
  have t2 : Turned w1 w3 (fun k => S'.own k ∨ w.heap.size ≤ k) := t.mono (fun k _ hk => .inr (by rcases hk with hk | hk <;> omega))
  subst hH
  refine ⟨S', hs3, ⟨f.turned.trans t (fun k hk e => by rcases e with e | e <;> omega), f.own, f.sb⟩, ?_⟩
  rw [hcut]
  exact ⟨rfl, hx, rfl, htk, hcm, fun h => hE.keepJ _ _ _ _ (hJ h) hs3 t2 rfl rfl, fun h => hE.keep _ _ _ _ (hI h) hs3 t2 rfl rfl⟩

theorem calls_args {P : Program} {f : FuncId} {a a' : Array Value} {w : World} {R : Ending → World → Prop} (h : Calls P f a w R) (e : a = a') : Calls P f a' w R := e ▸ h

theorem bound_help {a b m M K N : Nat} (h1 : b ≤ m) (h2 : m ≤ M) (h : (a + M + 1) * K ≤ N) : (a + b + 1) * K ≤ N :=
  Nat.le_trans (Nat.mul_le_mul_right _ (by omega)) h

set_option maxRecDepth 100000 in
set_option maxHeartbeats 1600000 in
theorem cut_any (B : Nat) (w : World) (S : Scn) (g : FuncId) (caps : Array Value) (I J : World → Scn → Prop) (E : Nat → Bool) (Dq : Nat → Prop) (hE : Enough B g caps I J E Dq w.heap.size) (hI : I w S)
    (hs : S.text.size ≤ 140737488351232) (hat : S.at_ ≤ S.text.size) (hDq : ∀ k, Dq k → k < w.heap.size ∧ ¬ S.own k)
    (M : Nat) (hM : ∀ p, p < S.text.size → E p = false → p ≤ M) (hn : (S.toks.length + M + 1) * 48 ≤ 140737488355328) (hn2 : (S.coms.length + M + 1) * 16 ≤ 140737488355328) :
    Calls Tryd.prog 39 #[.pointer (some ⟨S.sb, 0, none⟩), .func (.func g) #[] caps] w (CutPost B w S I J E Dq) := by
  have hmf : ∀ (fn : Fn) (first cap : Array Value) (w : World), (Instr.makeFunc fn first cap).run Tryd.prog w = .ok (.func fn first cap) w := fun _ _ _ _ => rfl
  go_enter_defers Tryd.func39, Tryd.ntmps39
  go_wp2
  have sI := hE.scan w S hI
  have z0 := sI.fresh
  have sA := (sI.alloc (.cells #[.int .i64 0] 3)).alloc (.cells #[.int .i64 0] 25)
  have gA := ((Goes.refl w S).alloc (.cells #[.int .i64 0] 3)).alloc (.cells #[.int .i64 0] 25)
  have iA := hE.keep w S _ S hI sA (gA.turned.mono (fun _ _ h => .inl h)) rfl rfl
  have fA : CutFrame w S Dq ((w.alloc (.cells #[.int .i64 0] 3)).alloc (.cells #[.int .i64 0] 25)) S := ⟨gA.turned.mono (fun _ _ h => .inl h), gA.own, rfl⟩
  have hz : (w.alloc (.cells #[.int .i64 0] 3)).heap.size = w.heap.size + 1 := by simp
  have bA : ((w.alloc (.cells #[.int .i64 0] 3)).alloc (.cells #[.int .i64 0] 25)).heap[w.heap.size]? = some (.cells #[.int .i64 0] 3 (0, 0)) :=
    (Below.heap_alloc _ _ _ (by omega)).trans (heap_alloc_new w _)
  have bB : ((w.alloc (.cells #[.int .i64 0] 3)).alloc (.cells #[.int .i64 0] 25)).heap[w.heap.size + 1]? = some (.cells #[.int .i64 0] 25 (0, 0)) := by
    rw [← hz]; exact heap_alloc_new _ _
  generalize (w.alloc (.cells #[.int .i64 0] 3)).alloc (.cells #[.int .i64 0] 25) = W at *
  have hDq' : ∀ k, Dq k → k < w.heap.size := fun k hk => (hDq k hk).1
  generalize hH : w.heap.size = H at *
  have HH := Lib.hid hH
  clear hH hz sA gA
  go_loopw [7] (fun _ wr => ∃ S' : Scn, ∃ ts cs, I wr S' ∧ CutFrame w S Dq wr S' ∧ S'.text = S.text ∧ wr.heap[H]? = some (.cells #[.int .i64 0] 3 (0, 0)) ∧ wr.heap[H + 1]? = some (.cells #[.int .i64 0] 25 (0, 0)) ∧
      S'.toks = S.toks ++ ts ∧ S'.coms = S.coms ++ cs ∧ ts.length ≤ S'.at_ ∧ cs.length ≤ S'.at_ ∧ S'.at_ ≤ S.text.size ∧
      Lx.cutE E S.at_ S.rest = ((Lx.cutE E S'.at_ S'.rest).1, (Lx.cutE E S'.at_ S'.rest).2.pre ts cs))
    (fun _ wr => S.text.size - cellNat wr S.sb 5)
  case atStart => exact ⟨S, [], [], iA, fA, rfl, bA, bB, by simp, by simp, by simp, by simp, hat, by simp [Lx.Out.pre]⟩
  case round =>
    obtain ⟨S', ts, cs, hI', hfr, e2, ha, hb, htk, hcm, hlt, hlc, hat', hres⟩ := hrel
    have Hres := Lib.hid hres
    clear hres bA bB iA fA sI
    have hsc := hE.scan _ _ hI'
    have c5 := hsc.c5
    have c3 := hsc.c3
    have e1 := hfr.sb
    have hcn := hsc.nat5
    rw [e1] at c5 c3
    rw [e2] at c3
    rw [e1] at hcn
    have E1 := Lib.hid e1
    have E2 := Lib.hid e2
    have Htk := Lib.hid htk
    have Hcm := Lib.hid hcm
    clear e1 e2 htk hcm
    generalize hm : S'.at_ = m at *
    have Hcn := Lib.hid hcn
    have Hm := Lib.hid hm
    clear hm hcn
    by_cases hlt2 : m < S.text.size
    · have hi : (m : Int) < (S.text.size : Int) := by omega
      cases hEm : E m
      · have hm1 := hM m hlt2 hEm
        have b48 : (S'.toks.length + 1) * 48 ≤ 140737488355328 := by
          rw [Htk.out, List.length_append]; exact bound_help hlt hm1 hn
        have b16 : (S'.coms.length + 1) * 16 ≤ 140737488355328 := by
          rw [Hcm.out, List.length_append]; exact bound_help hlc hm1 hn2
        have B48 := Lib.hid b48
        have B16 := Lib.hid b16
        clear b48 b16 hm1
        go_wp2_with fail
        have hcall := hE.calls wr.drew S' (hE.keep _ _ _ _ hI' hsc.drew (Turned.refl _ _).drew rfl rfl)
        rw [Hm.out, hEm] at hcall
        have hrun := hE.run
        have Hcall := Lib.hid hcall
        clear hcall
        refine wp_region_noPanic ?_
        go_region_with ((with_reducible refine Hcall.out.mono ?_); rintro e w1 ⟨rfl, ht1, _, hI1⟩)
        all_goals
          refine NoPanic.normal ?_
          have hI1' : I w1 S' := by simpa using hI1
          have ht2 : Turned wr w1 Dq := (Turned.refl wr Dq).drew.trans ht1 (fun _ _ h => h)
          have hs1 := hE.scan _ _ hI1'
          have f1 : CutFrame w S Dq w1 S' := ⟨hfr.turned.trans ht2 (fun _ _ h => .inr h), fun k hk ho => hfr.own k hk ho, hfr.sb⟩
          have lH := lt_of_block ha
          have lH1 := lt_of_block hb
          have ha1 : w1.heap[H]? = _ := (ht2.block H lH (fun hd => by have := hDq' _ hd; omega)).trans ha
          have hb1 : w1.heap[H + 1]? = _ := (ht2.block (H + 1) lH1 (fun hd => by have := hDq' _ hd; omega)).trans hb
          have d4 := hs1.c4
          have d5 := hs1.c5
          have g4 := hs1.frozenAt 4
          rw [E1.out] at d4 d5 g4
          rw [Hm.out] at d5
          have hs2 := hs1.setFrom m
          have hI2 := hE.keep _ _ _ _ hI1' hs2 ((Goes.setFrom w1 S' m).turned.mono (fun _ _ h => .inl h)) rfl rfl
          have q2 := Goes.setFrom w1 S' m
          have hW : w1.setCell ⟨S'.sb, 4, none⟩ (.int .i64 m) = w1.setCell ⟨S.sb, 4, none⟩ (.int .i64 m) := by rw [E1.out]
          rw [hW] at hs2 hI2 q2
          clear hW
          clear ha hb hI1 ht1 ht2 hI' hsc c5 c3 hfr hI1' hs1 lH lH1
          go_wp2_with fail
          have f2 : CutFrame w S Dq (w1.setCell ⟨S.sb, 4, none⟩ (.int .i64 m)) { S' with from_ := m } :=
            ⟨f1.turned.trans q2.turned (fun k hk ho => .inl (f1.own k hk ho)), fun k hk ho => f1.own k hk (q2.own k (Nat.lt_of_lt_of_le hk f1.turned.size) ho), f1.sb⟩
          have ha2 : (w1.setCell ⟨S.sb, 4, none⟩ (.int .i64 m)).heap[H]? = some (.cells #[.int .i64 0] 3 (0, 0)) := by
            rw [Below.heap_setCell _ _ _ _ (show H ≠ S.sb by have := z0 S.sb (.inl (.inl rfl)); omega)]; exact ha1
          have hb2 : (w1.setCell ⟨S.sb, 4, none⟩ (.int .i64 m)).heap[H + 1]? = some (.cells #[.int .i64 0] 25 (0, 0)) := by
            rw [Below.heap_setCell _ _ _ _ (show H + 1 ≠ S.sb by have := z0 S.sb (.inl (.inl rfl)); omega)]; exact hb1
          generalize w1.setCell ⟨S.sb, 4, none⟩ (.int .i64 m) = V at *
          have d2 := hs2.c2
          have d3 := hs2.c3
          have d5 := hs2.c5
          simp only at d2 d3 d5
          rw [E1.out] at d2 d3 d5
          rw [E2.out] at d3
          rw [Hm.out] at d5
          clear f1 q2 d4 g4 ha1 hb1
          have hr := rest_at S' 0
          rw [Hm.out, E2.out] at hr
          have hr0 := hr (by omega)
          simp only [Nat.add_zero] at hr0
          obtain ⟨rr, hrr⟩ : ∃ rr, S'.rest = S.text[m] :: rr := by
            cases hl : S'.rest with
            | nil => rw [hl] at hr0; simp at hr0
            | cons x rr => rw [hl] at hr0; simp at hr0; exact ⟨rr, by rw [hr0]⟩
          have q1 : ({ S' with from_ := m } : Scn).text.size ≤ 140737488351232 := by show S'.text.size ≤ _; rw [E2.out]; exact hs
          have q2' : ({ S' with from_ := m } : Scn).at_ < ({ S' with from_ := m } : Scn).text.size := by show S'.at_ < S'.text.size; rw [E2.out, Hm.out]; exact hlt2
          have hst := calls_args (state_any B V.drew { S' with from_ := m } hs2.drew q1 q2' Hm.out.symm B48.out B16.out S.text[m] rr hrr) (a' := #[.pointer (some ⟨S.sb, 0, none⟩)]) (by show #[Value.pointer (some ⟨S'.sb, 0, none⟩)] = _; rw [E1.out])
          obtain ⟨r0, r4⟩ := cls_range S.text[m]
          have hlk := hs2.drew.states.look (Lx.classOf S.text[m]) r0 r4
          have hrs := run_state (Lx.classOf S.text[m]) r0 r4
          simp only at hlk
          have Hst := Lib.hid hst
          clear hst hr hr0 r0 r4
          generalize hf : stateOf (Lx.classOf S.text[m]) = f at *
          clear hf
          refine wp_region_still_tail 16 (by kernel_rfl) (by kernel_rfl) ?_
          change wpStill _ _ (World.drew _) _ _ _
          simp only [List.take_succ_cons, List.take_zero, List.drop_succ_cons, List.drop_zero]
          repeat (first | still_call (classOf_any _ _) | still_step)
          refine wpStill_nil ?_
          change wpList _ _ _ _ _ (World.drew _)
          have nH : ¬ ({ S' with from_ := m } : Scn).own H := hs2.not_own ha2 (by simp)
          have nH1 : ¬ ({ S' with from_ := m } : Scn).own (H + 1) := hs2.not_own hb2 (by simp)
          have lH := lt_of_block ha2
          have lH1 := lt_of_block hb2
          have HC := Lib.hid (Lx.cutE_cons E m S.text[m] rr)
          have Hrr := Lib.hid hrr
          clear hrr
          cases hstep : Lx.step S'.at_ S'.rest with
          | none =>
            have hst2 : StepPost B V.drew { S' with from_ := m } none = StepPost B V.drew { S' with from_ := m } (Lx.step S'.at_ S'.rest) := by rw [hstep]
            have Hst2 := Lib.hid hst2
            have Hstep := Lib.hid hstep
            clear hst2 hstep
            go_wp2_with fail
            refine Hst.out.mono ?_
            intro e w2 hp
            have hp2 : Thrown B V.drew { S' with from_ := m } e w2 := by
              have : StepPost B V.drew { S' with from_ := m } none e w2 := by rw [Hst2.out]; exact hp
              exact this
            obtain ⟨rfl, S3, k1, k2, k3⟩ := hp2
            have ha3 := (k3.turned.block H lH nH).trans ha2
            have hb3 := (k3.turned.block (H + 1) lH1 nH1).trans hb2
            refine leaves_cons (f := 65) (args := #[.pointer (some ⟨H, 0, none⟩), .pointer (some ⟨H + 1, 0, none⟩)]) (by simp) (by simp [go_sem]) ?_
            refine (catch_panicking H (H + 1) m [] w2 ha3 hb3).mono ?_
            rintro e u' w3 ⟨rfl, rfl, ha4, hb4, t4⟩
            have ca : w3.cell? ⟨H, 0, none⟩ = some (.int .i64 m) := by simp [World.cell?, ha4]
            have cb : w3.cell? ⟨H + 1, 0, none⟩ = some (.int .i64 10) := by simp [World.cell?, hb4]
            have hpost : CutPost B w S I J E Dq (.returned (.tuple #[.int .i64 m, .int .i64 10])) w3 := by
              have hbad : (Lx.cutE E S.at_ S.rest).2.bad = some m := by
                have h5 := HC.out
                have h6 := Hstep.out
                rw [Hrr.out, Hm.out] at h6
                rw [hEm, h6] at h5
                rw [Hres.out, Hrr.out, h5]
                rfl
              exact ⟨S3, scan_catch k2 ha3 hb3 t4, frame_catch f2 k3 k1 t4 HH.out, by rw [hbad]⟩
            have Hpost := Lib.hid hpost
            clear hpost
            simp [Leaves, settle, results, Tryd.results39, go_sem, ca, cb]
            exact Hpost.out
          | some x =>
            obtain ⟨k, ts2, cs2⟩ := x
            have hst2 : StepPost B V.drew { S' with from_ := m } (some (k, ts2, cs2)) = StepPost B V.drew { S' with from_ := m } (Lx.step S'.at_ S'.rest) := by rw [hstep]
            have Hst2 := Lib.hid hst2
            have Hstep := Lib.hid hstep
            clear hst2 hstep
            go_wp2_with fail
            refine Hst.out.mono ?_
            intro e w2 hp
            have hp2 : Fine B V.drew { S' with from_ := m } (fun tv cv => { S' with from_ := m, tv := tv, cv := cv, at_ := S'.at_ + k, toks := S'.toks ++ ts2, coms := S'.coms ++ cs2 }) e w2 := by
              have : StepPost B V.drew { S' with from_ := m } (some (k, ts2, cs2)) e w2 := by rw [Hst2.out]; exact hp
              exact this
            obtain ⟨rfl, tv, cv, k2, k3⟩ := hp2
            have ha3 := (k3.turned.block H lH nH).trans ha2
            have hb3 := (k3.turned.block (H + 1) lH1 nH1).trans hb2
            have hI3 := hE.keep _ _ _ _ hI2 k2 (((Goes.refl V _).drew.trans k3).turned.mono (fun _ _ h => .inl h)) rfl rfl
            have f3 := frame_step f2 k3 rfl
            have hlen := Lx.step_len _ _ Hstep.out
            have hrl : S'.rest.length = S.text.size - m := by simp [Scn.rest, E2.out, Hm.out]
            clear hp Hst hlk hrs hI2 f2 hs2 ha2 hb2 d2 d3 d5
            go_wp2
            go_roundw
            case rel =>
              refine ⟨{ S' with from_ := m, tv := tv, cv := cv, at_ := S'.at_ + k, toks := S'.toks ++ ts2, coms := S'.coms ++ cs2 }, ts ++ ts2, cs ++ cs2, hI3, f3, E2.out, ha3, hb3, ?_, ?_, ?_, ?_, ?_, ?_⟩
              · show S'.toks ++ ts2 = _; rw [Htk.out, List.append_assoc]
              · show S'.coms ++ cs2 = _; rw [Hcm.out, List.append_assoc]
              · show _ ≤ S'.at_ + k; rw [Hm.out, List.length_append]; exact Nat.add_le_add hlt (Nat.le_trans hlen.2.2.1 hlen.1)
              · show _ ≤ S'.at_ + k; rw [Hm.out, List.length_append]; exact Nat.add_le_add hlc (Nat.le_trans hlen.2.2.2.1 hlen.1)
              · show S'.at_ + k ≤ _
                rw [Hm.out]
                have := hlen.2.1
                rw [hrl] at this
                exact Nat.le_trans (Nat.add_le_add_left this m) (Nat.le_of_eq (Nat.add_sub_cancel' (Nat.le_of_lt hlt2)))
              · have hd : ({ S' with from_ := m, tv := tv, cv := cv, at_ := S'.at_ + k, toks := S'.toks ++ ts2, coms := S'.coms ++ cs2 } : Scn).rest = S'.rest.drop k := by
                  show S'.text.data.toList.drop (S'.at_ + k) = (S'.text.data.toList.drop S'.at_).drop k
                  rw [List.drop_drop]
                rw [hd]
                show _ = ((Lx.cutE E (S'.at_ + k) _).1, _)
                have hs3 := Hstep.out
                rw [Hm.out] at hs3 ⊢
                exact cut_round Hrr.out hEm hs3 Hres.out
            case measure =>
              have a1 := k2.nat5
              have e3 : ({ S' with from_ := m, tv := tv, cv := cv, at_ := S'.at_ + k, toks := S'.toks ++ ts2, coms := S'.coms ++ cs2 } : Scn).sb = S.sb := E1.out
              rw [e3] at a1
              have a2 := Hcn.out
              rw [a1, a2]
              show S.text.size - (S'.at_ + k) < S.text.size - m
              rw [Hm.out]
              have := hlen.1
              exact Nat.sub_lt_sub_left hlt2 (Nat.lt_add_of_pos_right this)
      · have hcut : Lx.cutE E S.at_ S.rest = (m, ⟨ts, cs, none⟩) := by
          rw [Hres.out]
          cases hl : S'.rest with
          | nil => simp [Lx.cutE_nil, Lx.Out.pre]
          | cons c rr => rw [Lx.cutE_cons, hEm]; simp [Lx.Out.pre]
        have Hcut := Lib.hid hcut
        clear hcut
        go_wp2_with fail
        have hcall := hE.calls wr.drew S' (hE.keep _ _ _ _ hI' hsc.drew (Turned.refl _ _).drew rfl rfl)
        rw [Hm.out, hEm] at hcall
        have hrun := hE.run
        have Hcall := Lib.hid hcall
        clear hcall
        refine wp_region_noPanic ?_
        go_region_with ((with_reducible refine Hcall.out.mono ?_); rintro e V ⟨rfl, ht1, hJ1, _⟩)
        all_goals
          refine NoPanic.normal ?_
          have hJ1' : J V S' := by simpa using hJ1
          have ht2 : Turned wr V Dq := (Turned.refl wr Dq).drew.trans ht1 (fun _ _ h => h)
          have hs1 := hE.scanJ _ _ hJ1'
          have f1 : CutFrame w S Dq V S' := ⟨hfr.turned.trans ht2 (fun _ _ h => .inr h), fun k hk ho => hfr.own k hk ho, hfr.sb⟩
          have l0 := lt_of_block ha
          have l1 := lt_of_block hb
          have ha1 : V.heap[H]? = some (.cells #[.int .i64 0] 3 (0, 0)) := (ht2.block H l0 (fun hd => by have := hDq' _ hd; omega)).trans ha
          have hb1 : V.heap[H + 1]? = some (.cells #[.int .i64 0] 25 (0, 0)) := (ht2.block (H + 1) l1 (fun hd => by have := hDq' _ hd; omega)).trans hb
          have lH := lt_of_block ha1
          have lH1 := lt_of_block hb1
          have x0 : V.cell? ⟨H, 0, none⟩ = some (.int .i64 0) := by simp [World.cell?, ha1]
          have x1 : V.cell? ⟨H + 1, 0, none⟩ = some (.int .i64 0) := by simp [World.cell?, hb1]
          have y0 : V.frozen? ⟨H, 0, none⟩ = false := by simp [World.frozen?, ha1]
          have y1 : V.frozen? ⟨H + 1, 0, none⟩ = false := by simp [World.frozen?, hb1]
          clear hI' hsc c5 c3 hfr hJ1 ht1 ht2 l0 l1 ha hb
          go_wp2
          refine leaves_cons (f := 65) (args := #[.pointer (some ⟨H, 0, none⟩), .pointer (some ⟨H + 1, 0, none⟩)]) (by simp) (by simp [go_sem]) ?_
          refine (catch_idle _ _ _).mono ?_
          rintro e u' w3 ⟨rfl, rfl, t3⟩
          have t5 : Turned V w3 (fun k => k = H ∨ k = H + 1) := ((Turned.setCell (Turned.setCell (Turned.refl V (fun k => k = H ∨ k = H + 1)) (p := ⟨H, 0, none⟩) (fun _ => .inl rfl) (.int .i64 0)) (p := ⟨H + 1, 0, none⟩) (fun _ => .inr rfl) (.int .i64 0))).trans t3 (fun _ _ hf => hf.elim)
          have ca : w3.heap[H]? = some (.cells #[.int .i64 0] 3 (0, 0)) := by
            rw [t3.block H (by simpa [World.setCell] using lH) (fun hf => hf), Below.heap_setCell _ _ _ _ (by simp), setCell_block ha1]; rfl
          have cb : w3.heap[H + 1]? = some (.cells #[.int .i64 0] 25 (0, 0)) := by
            rw [t3.block (H + 1) (by simpa [World.setCell] using lH1) (fun hf => hf), setCell_block (c := #[.int .i64 0]) (t := 25) (z := (0, 0)) (by rw [Below.heap_setCell _ _ _ _ (by simp)]; exact hb1)]; rfl
          have ca' : w3.cell? ⟨H, 0, none⟩ = some (.int .i64 0) := by simp [World.cell?, ca]
          have cb' : w3.cell? ⟨H + 1, 0, none⟩ = some (.int .i64 0) := by simp [World.cell?, cb]
          have hpost : CutPost B w S I J E Dq (.returned (.tuple #[.int .i64 0, .int .i64 0])) w3 :=
            cut_end hE HH.out hs1 f1 E2.out ha1 hb1 t5 Htk.out Hcm.out (by rw [Hm.out, Hcut.out]) (fun _ => hJ1') (fun h => absurd (Hm.out.symm.trans h) (by omega))
          have Hpost := Lib.hid hpost
          clear hpost t5 ca cb
          simp [Leaves, settle, results, Tryd.results39, go_sem, ca', cb']
          exact Hpost.out
    · have hme : m = S.text.size := by omega
      have hcut : Lx.cutE E S.at_ S.rest = (m, ⟨ts, cs, none⟩) := by
        rw [Hres.out]
        have hl : S'.rest = [] := by
          unfold Scn.rest
          rw [E2.out, Hm.out, hme]
          exact List.drop_eq_nil_of_le (Nat.le_refl _)
        rw [hl]
        simp [Lx.cutE_nil, Lx.Out.pre]
      have Hcut := Lib.hid hcut
      have Hme := Lib.hid hme
      clear hcut hme
      have hd : decide ((m : Int) < (S.text.size : Int)) = false := by simp; omega
      go_wp2_with fail
      refine wp_region_noPanic ?_
      go_quiet (fail)
      refine NoPanic.normal ?_
      have hs1 := hsc.drewN nq
      have hI1 := hE.keep _ _ _ _ hI' hs1 ((Turned.refl _ _).drewN nq) rfl rfl
      have f1 : CutFrame w S Dq (wr.drewN nq) S' := ⟨hfr.turned.drewN nq, hfr.own, hfr.sb⟩
      have ha1 : (wr.drewN nq).heap[H]? = some (.cells #[.int .i64 0] 3 (0, 0)) := ha
      have hb1 : (wr.drewN nq).heap[H + 1]? = some (.cells #[.int .i64 0] 25 (0, 0)) := hb
      generalize wr.drewN nq = V at *
      have lH := lt_of_block ha1
      have lH1 := lt_of_block hb1
      have x0 : V.cell? ⟨H, 0, none⟩ = some (.int .i64 0) := by simp [World.cell?, ha1]
      have x1 : V.cell? ⟨H + 1, 0, none⟩ = some (.int .i64 0) := by simp [World.cell?, hb1]
      have y0 : V.frozen? ⟨H, 0, none⟩ = false := by simp [World.frozen?, ha1]
      have y1 : V.frozen? ⟨H + 1, 0, none⟩ = false := by simp [World.frozen?, hb1]
      clear hI' hsc c5 c3 hfr ha hb hd
      go_wp2
      refine leaves_cons (f := 65) (args := #[.pointer (some ⟨H, 0, none⟩), .pointer (some ⟨H + 1, 0, none⟩)]) (by simp) (by simp [go_sem]) ?_
      refine (catch_idle _ _ _).mono ?_
      rintro e u' w3 ⟨rfl, rfl, t3⟩
      have t5 : Turned V w3 (fun k => k = H ∨ k = H + 1) := ((Turned.setCell (Turned.setCell (Turned.refl V (fun k => k = H ∨ k = H + 1)) (p := ⟨H, 0, none⟩) (fun _ => .inl rfl) (.int .i64 0)) (p := ⟨H + 1, 0, none⟩) (fun _ => .inr rfl) (.int .i64 0))).trans t3 (fun _ _ hf => hf.elim)
      have ca : w3.heap[H]? = some (.cells #[.int .i64 0] 3 (0, 0)) := by
        rw [t3.block H (by simpa [World.setCell] using lH) (fun hf => hf), Below.heap_setCell _ _ _ _ (by simp), setCell_block ha1]; rfl
      have cb : w3.heap[H + 1]? = some (.cells #[.int .i64 0] 25 (0, 0)) := by
        rw [t3.block (H + 1) (by simpa [World.setCell] using lH1) (fun hf => hf), setCell_block (c := #[.int .i64 0]) (t := 25) (z := (0, 0)) (by rw [Below.heap_setCell _ _ _ _ (by simp)]; exact hb1)]; rfl
      have ca' : w3.cell? ⟨H, 0, none⟩ = some (.int .i64 0) := by simp [World.cell?, ca]
      have cb' : w3.cell? ⟨H + 1, 0, none⟩ = some (.int .i64 0) := by simp [World.cell?, cb]
      have hpost : CutPost B w S I J E Dq (.returned (.tuple #[.int .i64 0, .int .i64 0])) w3 :=
        cut_end hE HH.out hs1 f1 E2.out ha1 hb1 t5 Htk.out Hcm.out (by rw [Hm.out, Hcut.out]) (fun h => absurd h (by rw [Hm.out, Hme.out]; exact Nat.lt_irrefl _)) (fun _ => hI1)
      have Hpost := Lib.hid hpost
      clear hpost t5 ca cb
      simp [Leaves, settle, results, Tryd.results39, go_sem, ca', cb']
      exact Hpost.out
end Go.Proofs.YtinogdeolnldhaaDoor
