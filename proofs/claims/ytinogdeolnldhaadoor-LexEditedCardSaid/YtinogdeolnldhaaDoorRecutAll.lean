/- The tokens of an edited text, made of those that there were: a loop that keeps what its question left, a search, the question, the whole. -/
import Derived.Test.YtinogdeolnldhaaDoorCut
import Derived.Test.YtinogdeolnldhaaDoorLeaf
import Derived.IntWalk
import Derived.Lib.Hide
import Derived.Test.YtinogdeolnldhaaDoorSame
import Derived.Test.YtinogdeolnldhaaDoorPure
import Derived.Deep.QuietTactic
import Derived.BigQuiet
import Derived.Test.YtinogdeolnldhaaDoorTok
import Derived.Test.YtinogdeolnldhaaDoorMake
import Derived.Test.YtinogdeolnldhaaDoorSpell
import Derived.Deep.CutRange

namespace Go.Proofs.YtinogdeolnldhaaDoor
open Go.RowKit Go.WideMaps Go.Maps

/-- As Enough, where what holds once it has said yes may speak of how far the scanner is. -/
structure EnoughB (B : Nat) (g : FuncId) (caps : Array Value) (I J : World → Scn → Prop) (E : Nat → Bool) (Dq : Nat → Prop) (H0 : Nat) : Prop where
  run : ∀ (w : World), (callFunc g caps).run Tryd.prog w = .ok (.enter g caps) w
  scan : ∀ w S, I w S → Scan B w S
  scanJ : ∀ w S, J w S → Scan B w S
  keep : ∀ w S w' S', I w S → Scan B w' S' → Turned w w' (fun k => S.own k ∨ H0 ≤ k) → S'.sb = S.sb → S'.text = S.text → I w' S'
  keepJ : ∀ w S w' S', J w S → Scan B w' S' → Turned w w' (fun k => S.own k ∨ H0 ≤ k) → S'.sb = S.sb → S'.text = S.text → S'.at_ = S.at_ → J w' S'
  calls : ∀ w S, I w S → S.at_ < S.text.size → Calls Tryd.prog g caps w (fun e w' => e = .returned (.bool (E S.at_)) ∧ Turned w w' Dq ∧ (E S.at_ = true → J w' S) ∧ (E S.at_ = false → I w' S))

def CutPostB (B : Nat) (w : World) (S : Scn) (I J : World → Scn → Prop) (E : Nat → Bool) (Dq : Nat → Prop) (e : Ending) (w' : World) : Prop :=
  ∃ S', Scan B w' S' ∧ CutFrame w S Dq w' S' ∧
    match (Lx.cutE E S.at_ S.rest).2.bad with
    | some q => e = .returned (.tuple #[.int .i64 q, .int .i64 10]) ∧ ∃ V0 S0, I V0 S0 ∧ S0.sb = S.sb ∧ Turned V0 w' (fun k => S0.own k ∨ w.heap.size ≤ k)
    | none => e = .returned (.tuple #[.int .i64 0, .int .i64 0]) ∧ S'.text = S.text ∧ S'.at_ = (Lx.cutE E S.at_ S.rest).1 ∧ S'.toks = S.toks ++ (Lx.cutE E S.at_ S.rest).2.toks ∧ S'.coms = S.coms ++ (Lx.cutE E S.at_ S.rest).2.coms ∧
        (S'.at_ < S.text.size → J w' S') ∧ (S'.at_ = S.text.size → I w' S')

theorem cut_endB {B : Nat} {w w1 w3 : World} {S S' : Scn} {g : FuncId} {caps : Array Value} {I J : World → Scn → Prop} {E : Nat → Bool} {Dq : Nat → Prop} {H : Nat} {ts : List Lx.Tok} {cs : List (Nat × Nat)}
    (hE : EnoughB B g caps I J E Dq H) (hH : w.heap.size = H) (hsc : Scan B w1 S') (f : CutFrame w S Dq w1 S') (hx : S'.text = S.text)
    (ha : w1.heap[H]? = some (.cells #[.int .i64 0] 3 (0, 0))) (hb : w1.heap[H + 1]? = some (.cells #[.int .i64 0] 25 (0, 0)))
    (t : Turned w1 w3 (fun k => k = H ∨ k = H + 1)) (htk : S'.toks = S.toks ++ ts) (hcm : S'.coms = S.coms ++ cs) (hcut : Lx.cutE E S.at_ S.rest = (S'.at_, ⟨ts, cs, none⟩))
    (hJ : S'.at_ < S.text.size → J w1 S') (hI : S'.at_ = S.text.size → I w1 S') : CutPostB B w S I J E Dq (.returned (.tuple #[.int .i64 0, .int .i64 0])) w3 := by
  have hs3 := scan_catch hsc ha hb t
  have t2 : Turned w1 w3 (fun k => S'.own k ∨ w.heap.size ≤ k) := t.mono (fun k _ hk => .inr (by rcases hk with hk | hk <;> omega))
  subst hH
  refine ⟨S', hs3, ⟨f.turned.trans t (fun k hk e => by rcases e with e | e <;> omega), f.own, f.sb⟩, ?_⟩
  rw [hcut]
  exact ⟨rfl, hx, rfl, htk, hcm, fun h => hE.keepJ _ _ _ _ (hJ h) hs3 t2 rfl rfl rfl, fun h => hE.keep _ _ _ _ (hI h) hs3 t2 rfl rfl⟩

set_option maxRecDepth 100000 in
set_option maxHeartbeats 1600000 in
theorem cut_keep (B : Nat) (w : World) (S : Scn) (g : FuncId) (caps : Array Value) (I J : World → Scn → Prop) (E : Nat → Bool) (Dq : Nat → Prop) (hE : EnoughB B g caps I J E Dq w.heap.size) (hI : I w S)
    (hs : S.text.size ≤ 140737488351232) (hat : S.at_ ≤ S.text.size) (hDq : ∀ k, Dq k → k < w.heap.size ∧ ¬ S.own k)
    (M : Nat) (hM : ∀ p, p < S.text.size → E p = false → p ≤ M) (hn : (S.toks.length + M + 1) * 48 ≤ 140737488355328) (hn2 : (S.coms.length + M + 1) * 16 ≤ 140737488355328) :
    Calls Tryd.prog 39 #[.pointer (some ⟨S.sb, 0, none⟩), .func (.func g) #[] caps] w (CutPostB B w S I J E Dq) := by
  have hmf : ∀ (fn : Fn) (first cap : Array Value) (w : World), (Instr.makeFunc fn first cap).run Tryd.prog w = .ok (.func fn first cap) w := fun _ _ _ _ => rfl
  go_enter_defers Tryd.func39, Tryd.ntmps39
  go_wp2
  have sI := hE.scan w S hI
  have z0 := sI.fresh
  have sA := (sI.alloc (.cells #[.int .i64 0] 3)).alloc (.cells #[.int .i64 0] 25)
  have gA := ((Goes.refl w S).alloc (.cells #[.int .i64 0] 3)).alloc (.cells #[.int .i64 0] 25)
  have iA := hE.keep w S _ S hI sA (gA.turned.mono (fun _ _ h => .inl h)) rfl rfl
  have fA : CutFrame w S Dq ((w.alloc (.cells #[.int .i64 0] 3)).alloc (.cells #[.int .i64 0] 25)) S := ⟨gA.turned.mono (fun _ _ h => .inl h), gA.own, rfl⟩
  have hz : (w.alloc (.cells #[.int .i64 0] 3)).heap.size = w.heap.size + 1 := by simp
  have bA : ((w.alloc (.cells #[.int .i64 0] 3)).alloc (.cells #[.int .i64 0] 25)).heap[w.heap.size]? = some (.cells #[.int .i64 0] 3 (0, 0)) :=
    (Below.heap_alloc _ _ _ (by omega)).trans (heap_alloc_new w _)
  have bB : ((w.alloc (.cells #[.int .i64 0] 3)).alloc (.cells #[.int .i64 0] 25)).heap[w.heap.size + 1]? = some (.cells #[.int .i64 0] 25 (0, 0)) := by
    rw [← hz]; exact heap_alloc_new _ _
  generalize (w.alloc (.cells #[.int .i64 0] 3)).alloc (.cells #[.int .i64 0] 25) = W at *
  have hDq' : ∀ k, Dq k → k < w.heap.size := fun k hk => (hDq k hk).1
  generalize hH : w.heap.size = H at *
  have HH := Lib.hid hH
  clear hH hz sA gA
  go_loopw [7] (fun _ wr => ∃ S' : Scn, ∃ ts cs, I wr S' ∧ CutFrame w S Dq wr S' ∧ S'.text = S.text ∧ wr.heap[H]? = some (.cells #[.int .i64 0] 3 (0, 0)) ∧ wr.heap[H + 1]? = some (.cells #[.int .i64 0] 25 (0, 0)) ∧
      S'.toks = S.toks ++ ts ∧ S'.coms = S.coms ++ cs ∧ ts.length ≤ S'.at_ ∧ cs.length ≤ S'.at_ ∧ S'.at_ ≤ S.text.size ∧
      Lx.cutE E S.at_ S.rest = ((Lx.cutE E S'.at_ S'.rest).1, (Lx.cutE E S'.at_ S'.rest).2.pre ts cs))
    (fun _ wr => S.text.size - cellNat wr S.sb 5)
  case atStart => exact ⟨S, [], [], iA, fA, rfl, bA, bB, by simp, by simp, by simp, by simp, hat, by simp [Lx.Out.pre]⟩
  case round =>
    obtain ⟨S', ts, cs, hI', hfr, e2, ha, hb, htk, hcm, hlt, hlc, hat', hres⟩ := hrel
    have Hres := Lib.hid hres
    clear hres bA bB iA fA sI
    have hsc := hE.scan _ _ hI'
    have c5 := hsc.c5
    have c3 := hsc.c3
    have e1 := hfr.sb
    have hcn := hsc.nat5
    rw [e1] at c5 c3
    rw [e2] at c3
    rw [e1] at hcn
    have E1 := Lib.hid e1
    have E2 := Lib.hid e2
    have Htk := Lib.hid htk
    have Hcm := Lib.hid hcm
    clear e1 e2 htk hcm
    generalize hm : S'.at_ = m at *
    have Hcn := Lib.hid hcn
    have Hm := Lib.hid hm
    clear hm hcn
    by_cases hlt2 : m < S.text.size
    · have hi : (m : Int) < (S.text.size : Int) := by omega
      cases hEm : E m
      · have hm1 := hM m hlt2 hEm
        have b48 : (S'.toks.length + 1) * 48 ≤ 140737488355328 := by
          rw [Htk.out, List.length_append]; exact bound_help hlt hm1 hn
        have b16 : (S'.coms.length + 1) * 16 ≤ 140737488355328 := by
          rw [Hcm.out, List.length_append]; exact bound_help hlc hm1 hn2
        have B48 := Lib.hid b48
        have B16 := Lib.hid b16
        clear b48 b16 hm1
        go_wp2_with fail
        have hcall := hE.calls wr.drew S' (hE.keep _ _ _ _ hI' hsc.drew (Turned.refl _ _).drew rfl rfl) (by rw [Hm.out, E2.out]; exact hlt2)
        rw [Hm.out, hEm] at hcall
        have hrun := hE.run
        have Hcall := Lib.hid hcall
        clear hcall
        refine wp_region_noPanic ?_
        go_region_with ((with_reducible refine Hcall.out.mono ?_); rintro e w1 ⟨rfl, ht1, _, hI1⟩)
        all_goals
          refine NoPanic.normal ?_
          have hI1' : I w1 S' := by simpa using hI1
          have ht2 : Turned wr w1 Dq := (Turned.refl wr Dq).drew.trans ht1 (fun _ _ h => h)
          have hs1 := hE.scan _ _ hI1'
          have f1 : CutFrame w S Dq w1 S' := ⟨hfr.turned.trans ht2 (fun _ _ h => .inr h), fun k hk ho => hfr.own k hk ho, hfr.sb⟩
          have lH := lt_of_block ha
          have lH1 := lt_of_block hb
          have ha1 : w1.heap[H]? = _ := (ht2.block H lH (fun hd => by have := hDq' _ hd; omega)).trans ha
          have hb1 : w1.heap[H + 1]? = _ := (ht2.block (H + 1) lH1 (fun hd => by have := hDq' _ hd; omega)).trans hb
          have d4 := hs1.c4
          have d5 := hs1.c5
          have g4 := hs1.frozenAt 4
          rw [E1.out] at d4 d5 g4
          rw [Hm.out] at d5
          have hs2 := hs1.setFrom m
          have hI2 := hE.keep _ _ _ _ hI1' hs2 ((Goes.setFrom w1 S' m).turned.mono (fun _ _ h => .inl h)) rfl rfl
          have q2 := Goes.setFrom w1 S' m
          have hW : w1.setCell ⟨S'.sb, 4, none⟩ (.int .i64 m) = w1.setCell ⟨S.sb, 4, none⟩ (.int .i64 m) := by rw [E1.out]
          rw [hW] at hs2 hI2 q2
          clear hW
          clear ha hb hI1 ht1 ht2 hI' hsc c5 c3 hfr hI1' hs1 lH lH1
          go_wp2_with fail
          have f2 : CutFrame w S Dq (w1.setCell ⟨S.sb, 4, none⟩ (.int .i64 m)) { S' with from_ := m } :=
            ⟨f1.turned.trans q2.turned (fun k hk ho => .inl (f1.own k hk ho)), fun k hk ho => f1.own k hk (q2.own k (Nat.lt_of_lt_of_le hk f1.turned.size) ho), f1.sb⟩
          have ha2 : (w1.setCell ⟨S.sb, 4, none⟩ (.int .i64 m)).heap[H]? = some (.cells #[.int .i64 0] 3 (0, 0)) := by
            rw [Below.heap_setCell _ _ _ _ (show H ≠ S.sb by have := z0 S.sb (.inl (.inl rfl)); omega)]; exact ha1
          have hb2 : (w1.setCell ⟨S.sb, 4, none⟩ (.int .i64 m)).heap[H + 1]? = some (.cells #[.int .i64 0] 25 (0, 0)) := by
            rw [Below.heap_setCell _ _ _ _ (show H + 1 ≠ S.sb by have := z0 S.sb (.inl (.inl rfl)); omega)]; exact hb1
          generalize w1.setCell ⟨S.sb, 4, none⟩ (.int .i64 m) = V at *
          have d2 := hs2.c2
          have d3 := hs2.c3
          have d5 := hs2.c5
          simp only at d2 d3 d5
          rw [E1.out] at d2 d3 d5
          rw [E2.out] at d3
          rw [Hm.out] at d5
          clear f1 q2 d4 g4 ha1 hb1
          have hr := rest_at S' 0
          rw [Hm.out, E2.out] at hr
          have hr0 := hr (by omega)
          simp only [Nat.add_zero] at hr0
          obtain ⟨rr, hrr⟩ : ∃ rr, S'.rest = S.text[m] :: rr := by
            cases hl : S'.rest with
            | nil => rw [hl] at hr0; simp at hr0
            | cons x rr => rw [hl] at hr0; simp at hr0; exact ⟨rr, by rw [hr0]⟩
          have q1 : ({ S' with from_ := m } : Scn).text.size ≤ 140737488351232 := by show S'.text.size ≤ _; rw [E2.out]; exact hs
          have q2' : ({ S' with from_ := m } : Scn).at_ < ({ S' with from_ := m } : Scn).text.size := by show S'.at_ < S'.text.size; rw [E2.out, Hm.out]; exact hlt2
          have hst := calls_args (state_any B V.drew { S' with from_ := m } hs2.drew q1 q2' Hm.out.symm B48.out B16.out S.text[m] rr hrr) (a' := #[.pointer (some ⟨S.sb, 0, none⟩)]) (by show #[Value.pointer (some ⟨S'.sb, 0, none⟩)] = _; rw [E1.out])
          obtain ⟨r0, r4⟩ := cls_range S.text[m]
          have hlk := hs2.drew.states.look (Lx.classOf S.text[m]) r0 r4
          have hrs := run_state (Lx.classOf S.text[m]) r0 r4
          simp only at hlk
          have Hst := Lib.hid hst
          clear hst hr hr0 r0 r4
          generalize hf : stateOf (Lx.classOf S.text[m]) = f at *
          clear hf
          refine wp_region_still_tail 16 (by kernel_rfl) (by kernel_rfl) ?_
          change wpStill _ _ (World.drew _) _ _ _
          simp only [List.take_succ_cons, List.take_zero, List.drop_succ_cons, List.drop_zero]
          repeat (first | still_call (classOf_any _ _) | still_step)
          refine wpStill_nil ?_
          change wpList _ _ _ _ _ (World.drew _)
          have nH : ¬ ({ S' with from_ := m } : Scn).own H := hs2.not_own ha2 (by simp)
          have nH1 : ¬ ({ S' with from_ := m } : Scn).own (H + 1) := hs2.not_own hb2 (by simp)
          have lH := lt_of_block ha2
          have lH1 := lt_of_block hb2
          have HC := Lib.hid (Lx.cutE_cons E m S.text[m] rr)
          have Hrr := Lib.hid hrr
          clear hrr
          cases hstep : Lx.step S'.at_ S'.rest with
          | none =>
            have hst2 : StepPost B V.drew { S' with from_ := m } none = StepPost B V.drew { S' with from_ := m } (Lx.step S'.at_ S'.rest) := by rw [hstep]
            have Hst2 := Lib.hid hst2
            have Hstep := Lib.hid hstep
            clear hst2 hstep
            go_wp2_with fail
            refine Hst.out.mono ?_
            intro e w2 hp
            have hp2 : Thrown B V.drew { S' with from_ := m } e w2 := by
              have : StepPost B V.drew { S' with from_ := m } none e w2 := by rw [Hst2.out]; exact hp
              exact this
            obtain ⟨rfl, S3, k1, k2, k3⟩ := hp2
            have ha3 := (k3.turned.block H lH nH).trans ha2
            have hb3 := (k3.turned.block (H + 1) lH1 nH1).trans hb2
            refine leaves_cons (f := 65) (args := #[.pointer (some ⟨H, 0, none⟩), .pointer (some ⟨H + 1, 0, none⟩)]) (by simp) (by simp [go_sem]) ?_
            refine (catch_panicking H (H + 1) m [] w2 ha3 hb3).mono ?_
            rintro e u' w3 ⟨rfl, rfl, ha4, hb4, t4⟩
            have ca : w3.cell? ⟨H, 0, none⟩ = some (.int .i64 m) := by simp [World.cell?, ha4]
            have cb : w3.cell? ⟨H + 1, 0, none⟩ = some (.int .i64 10) := by simp [World.cell?, hb4]
            have hpost : CutPostB B w S I J E Dq (.returned (.tuple #[.int .i64 m, .int .i64 10])) w3 := by
              have hbad : (Lx.cutE E S.at_ S.rest).2.bad = some m := by
                have h5 := HC.out
                have h6 := Hstep.out
                rw [Hrr.out, Hm.out] at h6
                rw [hEm, h6] at h5
                rw [Hres.out, Hrr.out, h5]
                rfl
              have tV : Turned V w3 (fun k => ({ S' with from_ := m } : Scn).own k ∨ w.heap.size ≤ k) :=
                ((Turned.refl V (fun _ => False)).drew.mono (fun _ _ hf => hf.elim)).trans ((k3.turned.mono (fun _ _ h => .inl h)).trans t4 (fun k _ e => .inr (by have := HH.out; rcases e with e | e <;> omega))) (fun _ _ h => h)
              exact ⟨S3, scan_catch k2 ha3 hb3 t4, frame_catch f2 k3 k1 t4 HH.out, by rw [hbad]; exact ⟨rfl, V, { S' with from_ := m }, hI2, E1.out, tV⟩⟩
            have Hpost := Lib.hid hpost
            clear hpost
            simp [Leaves, settle, results, Tryd.results39, go_sem, ca, cb]
            exact Hpost.out
          | some x =>
            obtain ⟨k, ts2, cs2⟩ := x
            have hst2 : StepPost B V.drew { S' with from_ := m } (some (k, ts2, cs2)) = StepPost B V.drew { S' with from_ := m } (Lx.step S'.at_ S'.rest) := by rw [hstep]
            have Hst2 := Lib.hid hst2
            have Hstep := Lib.hid hstep
            clear hst2 hstep
            go_wp2_with fail
            refine Hst.out.mono ?_
            intro e w2 hp
            have hp2 : Fine B V.drew { S' with from_ := m } (fun tv cv => { S' with from_ := m, tv := tv, cv := cv, at_ := S'.at_ + k, toks := S'.toks ++ ts2, coms := S'.coms ++ cs2 }) e w2 := by
              have : StepPost B V.drew { S' with from_ := m } (some (k, ts2, cs2)) e w2 := by rw [Hst2.out]; exact hp
              exact this
            obtain ⟨rfl, tv, cv, k2, k3⟩ := hp2
            have ha3 := (k3.turned.block H lH nH).trans ha2
            have hb3 := (k3.turned.block (H + 1) lH1 nH1).trans hb2
            have hI3 := hE.keep _ _ _ _ hI2 k2 (((Goes.refl V _).drew.trans k3).turned.mono (fun _ _ h => .inl h)) rfl rfl
            have f3 := frame_step f2 k3 rfl
            have hlen := Lx.step_len _ _ Hstep.out
            have hrl : S'.rest.length = S.text.size - m := by simp [Scn.rest, E2.out, Hm.out]
            clear hp Hst hlk hrs hI2 f2 hs2 ha2 hb2 d2 d3 d5
            go_wp2
            go_roundw
            case rel =>
              refine ⟨{ S' with from_ := m, tv := tv, cv := cv, at_ := S'.at_ + k, toks := S'.toks ++ ts2, coms := S'.coms ++ cs2 }, ts ++ ts2, cs ++ cs2, hI3, f3, E2.out, ha3, hb3, ?_, ?_, ?_, ?_, ?_, ?_⟩
              · show S'.toks ++ ts2 = _; rw [Htk.out, List.append_assoc]
              · show S'.coms ++ cs2 = _; rw [Hcm.out, List.append_assoc]
              · show _ ≤ S'.at_ + k; rw [Hm.out, List.length_append]; exact Nat.add_le_add hlt (Nat.le_trans hlen.2.2.1 hlen.1)
              · show _ ≤ S'.at_ + k; rw [Hm.out, List.length_append]; exact Nat.add_le_add hlc (Nat.le_trans hlen.2.2.2.1 hlen.1)
              · show S'.at_ + k ≤ _
                rw [Hm.out]
                have := hlen.2.1
                rw [hrl] at this
                exact Nat.le_trans (Nat.add_le_add_left this m) (Nat.le_of_eq (Nat.add_sub_cancel' (Nat.le_of_lt hlt2)))
              · have hd : ({ S' with from_ := m, tv := tv, cv := cv, at_ := S'.at_ + k, toks := S'.toks ++ ts2, coms := S'.coms ++ cs2 } : Scn).rest = S'.rest.drop k := by
                  show S'.text.data.toList.drop (S'.at_ + k) = (S'.text.data.toList.drop S'.at_).drop k
                  rw [List.drop_drop]
                rw [hd]
                show _ = ((Lx.cutE E (S'.at_ + k) _).1, _)
                have hs3 := Hstep.out
                rw [Hm.out] at hs3 ⊢
                exact cut_round Hrr.out hEm hs3 Hres.out
            case measure =>
              have a1 := k2.nat5
              have e3 : ({ S' with from_ := m, tv := tv, cv := cv, at_ := S'.at_ + k, toks := S'.toks ++ ts2, coms := S'.coms ++ cs2 } : Scn).sb = S.sb := E1.out
              rw [e3] at a1
              have a2 := Hcn.out
              rw [a1, a2]
              show S.text.size - (S'.at_ + k) < S.text.size - m
              rw [Hm.out]
              have := hlen.1
              exact Nat.sub_lt_sub_left hlt2 (Nat.lt_add_of_pos_right this)
      · have hcut : Lx.cutE E S.at_ S.rest = (m, ⟨ts, cs, none⟩) := by
          rw [Hres.out]
          cases hl : S'.rest with
          | nil => simp [Lx.cutE_nil, Lx.Out.pre]
          | cons c rr => rw [Lx.cutE_cons, hEm]; simp [Lx.Out.pre]
        have Hcut := Lib.hid hcut
        clear hcut
        go_wp2_with fail
        have hcall := hE.calls wr.drew S' (hE.keep _ _ _ _ hI' hsc.drew (Turned.refl _ _).drew rfl rfl) (by rw [Hm.out, E2.out]; exact hlt2)
        rw [Hm.out, hEm] at hcall
        have hrun := hE.run
        have Hcall := Lib.hid hcall
        clear hcall
        refine wp_region_noPanic ?_
        go_region_with ((with_reducible refine Hcall.out.mono ?_); rintro e V ⟨rfl, ht1, hJ1, _⟩)
        all_goals
          refine NoPanic.normal ?_
          have hJ1' : J V S' := by simpa using hJ1
          have ht2 : Turned wr V Dq := (Turned.refl wr Dq).drew.trans ht1 (fun _ _ h => h)
          have hs1 := hE.scanJ _ _ hJ1'
          have f1 : CutFrame w S Dq V S' := ⟨hfr.turned.trans ht2 (fun _ _ h => .inr h), fun k hk ho => hfr.own k hk ho, hfr.sb⟩
          have l0 := lt_of_block ha
          have l1 := lt_of_block hb
          have ha1 : V.heap[H]? = some (.cells #[.int .i64 0] 3 (0, 0)) := (ht2.block H l0 (fun hd => by have := hDq' _ hd; omega)).trans ha
          have hb1 : V.heap[H + 1]? = some (.cells #[.int .i64 0] 25 (0, 0)) := (ht2.block (H + 1) l1 (fun hd => by have := hDq' _ hd; omega)).trans hb
          have lH := lt_of_block ha1
          have lH1 := lt_of_block hb1
          have x0 : V.cell? ⟨H, 0, none⟩ = some (.int .i64 0) := by simp [World.cell?, ha1]
          have x1 : V.cell? ⟨H + 1, 0, none⟩ = some (.int .i64 0) := by simp [World.cell?, hb1]
          have y0 : V.frozen? ⟨H, 0, none⟩ = false := by simp [World.frozen?, ha1]
          have y1 : V.frozen? ⟨H + 1, 0, none⟩ = false := by simp [World.frozen?, hb1]
          clear hI' hsc c5 c3 hfr hJ1 ht1 ht2 l0 l1 ha hb
          go_wp2
          refine leaves_cons (f := 65) (args := #[.pointer (some ⟨H, 0, none⟩), .pointer (some ⟨H + 1, 0, none⟩)]) (by simp) (by simp [go_sem]) ?_
          refine (catch_idle _ _ _).mono ?_
          rintro e u' w3 ⟨rfl, rfl, t3⟩
          have t5 : Turned V w3 (fun k => k = H ∨ k = H + 1) := ((Turned.setCell (Turned.setCell (Turned.refl V (fun k => k = H ∨ k = H + 1)) (p := ⟨H, 0, none⟩) (fun _ => .inl rfl) (.int .i64 0)) (p := ⟨H + 1, 0, none⟩) (fun _ => .inr rfl) (.int .i64 0))).trans t3 (fun _ _ hf => hf.elim)
          have ca : w3.heap[H]? = some (.cells #[.int .i64 0] 3 (0, 0)) := by
            rw [t3.block H (by simpa [World.setCell] using lH) (fun hf => hf), Below.heap_setCell _ _ _ _ (by simp), setCell_block ha1]; rfl
          have cb : w3.heap[H + 1]? = some (.cells #[.int .i64 0] 25 (0, 0)) := by
            rw [t3.block (H + 1) (by simpa [World.setCell] using lH1) (fun hf => hf), setCell_block (c := #[.int .i64 0]) (t := 25) (z := (0, 0)) (by rw [Below.heap_setCell _ _ _ _ (by simp)]; exact hb1)]; rfl
          have ca' : w3.cell? ⟨H, 0, none⟩ = some (.int .i64 0) := by simp [World.cell?, ca]
          have cb' : w3.cell? ⟨H + 1, 0, none⟩ = some (.int .i64 0) := by simp [World.cell?, cb]
          have hpost : CutPostB B w S I J E Dq (.returned (.tuple #[.int .i64 0, .int .i64 0])) w3 :=
            cut_endB hE HH.out hs1 f1 E2.out ha1 hb1 t5 Htk.out Hcm.out (by rw [Hm.out, Hcut.out]) (fun _ => hJ1') (fun h => absurd (Hm.out.symm.trans h) (by omega))
          have Hpost := Lib.hid hpost
          clear hpost t5 ca cb
          simp [Leaves, settle, results, Tryd.results39, go_sem, ca', cb']
          exact Hpost.out
    · have hme : m = S.text.size := by omega
      have hcut : Lx.cutE E S.at_ S.rest = (m, ⟨ts, cs, none⟩) := by
        rw [Hres.out]
        have hl : S'.rest = [] := by
          unfold Scn.rest
          rw [E2.out, Hm.out, hme]
          exact List.drop_eq_nil_of_le (Nat.le_refl _)
        rw [hl]
        simp [Lx.cutE_nil, Lx.Out.pre]
      have Hcut := Lib.hid hcut
      have Hme := Lib.hid hme
      clear hcut hme
      have hd : decide ((m : Int) < (S.text.size : Int)) = false := by simp; omega
      go_wp2_with fail
      refine wp_region_noPanic ?_
      go_quiet (fail)
      refine NoPanic.normal ?_
      have hs1 := hsc.drewN nq
      have hI1 := hE.keep _ _ _ _ hI' hs1 ((Turned.refl _ _).drewN nq) rfl rfl
      have f1 : CutFrame w S Dq (wr.drewN nq) S' := ⟨hfr.turned.drewN nq, hfr.own, hfr.sb⟩
      have ha1 : (wr.drewN nq).heap[H]? = some (.cells #[.int .i64 0] 3 (0, 0)) := ha
      have hb1 : (wr.drewN nq).heap[H + 1]? = some (.cells #[.int .i64 0] 25 (0, 0)) := hb
      generalize wr.drewN nq = V at *
      have lH := lt_of_block ha1
      have lH1 := lt_of_block hb1
      have x0 : V.cell? ⟨H, 0, none⟩ = some (.int .i64 0) := by simp [World.cell?, ha1]
      have x1 : V.cell? ⟨H + 1, 0, none⟩ = some (.int .i64 0) := by simp [World.cell?, hb1]
      have y0 : V.frozen? ⟨H, 0, none⟩ = false := by simp [World.frozen?, ha1]
      have y1 : V.frozen? ⟨H + 1, 0, none⟩ = false := by simp [World.frozen?, hb1]
      clear hI' hsc c5 c3 hfr ha hb hd
      go_wp2
      refine leaves_cons (f := 65) (args := #[.pointer (some ⟨H, 0, none⟩), .pointer (some ⟨H + 1, 0, none⟩)]) (by simp) (by simp [go_sem]) ?_
      refine (catch_idle _ _ _).mono ?_
      rintro e u' w3 ⟨rfl, rfl, t3⟩
      have t5 : Turned V w3 (fun k => k = H ∨ k = H + 1) := ((Turned.setCell (Turned.setCell (Turned.refl V (fun k => k = H ∨ k = H + 1)) (p := ⟨H, 0, none⟩) (fun _ => .inl rfl) (.int .i64 0)) (p := ⟨H + 1, 0, none⟩) (fun _ => .inr rfl) (.int .i64 0))).trans t3 (fun _ _ hf => hf.elim)
      have ca : w3.heap[H]? = some (.cells #[.int .i64 0] 3 (0, 0)) := by
        rw [t3.block H (by simpa [World.setCell] using lH) (fun hf => hf), Below.heap_setCell _ _ _ _ (by simp), setCell_block ha1]; rfl
      have cb : w3.heap[H + 1]? = some (.cells #[.int .i64 0] 25 (0, 0)) := by
        rw [t3.block (H + 1) (by simpa [World.setCell] using lH1) (fun hf => hf), setCell_block (c := #[.int .i64 0]) (t := 25) (z := (0, 0)) (by rw [Below.heap_setCell _ _ _ _ (by simp)]; exact hb1)]; rfl
      have ca' : w3.cell? ⟨H, 0, none⟩ = some (.int .i64 0) := by simp [World.cell?, ca]
      have cb' : w3.cell? ⟨H + 1, 0, none⟩ = some (.int .i64 0) := by simp [World.cell?, cb]
      have hpost : CutPostB B w S I J E Dq (.returned (.tuple #[.int .i64 0, .int .i64 0])) w3 :=
        cut_endB hE HH.out hs1 f1 E2.out ha1 hb1 t5 Htk.out Hcm.out (by rw [Hm.out, Hcut.out]) (fun h => absurd h (by rw [Hm.out, Hme.out]; exact Nat.lt_irrefl _)) (fun _ => hI1)
      have Hpost := Lib.hid hpost
      clear hpost t5 ca cb
      simp [Leaves, settle, results, Tryd.results39, go_sem, ca', cb']
      exact Hpost.out
end Go.Proofs.YtinogdeolnldhaaDoor

namespace Go.Proofs.YtinogdeolnldhaaDoor
open Go.RowKit

def Found (n : Nat) (P : Nat → Bool) (I : World → Prop) (e : Ending) (w' : World) : Prop :=
  ∃ r : Nat, e = .returned (.int .i64 r) ∧ r ≤ n ∧ (0 < r → P (r - 1) = false) ∧ (r < n → P r = true) ∧ I w'

set_option maxRecDepth 100000 in
set_option maxHeartbeats 800000 in
theorem search_any (g : FuncId) (caps : Array Value) (n : Nat) (hn : n ≤ 1000000000) (P : Nat → Bool) (I : World → Prop)
    (hrun : ∀ (h : Nat) (w : World), (callFunc g (#[.int .i64 h] ++ caps)).run Tryd.prog w = .ok (.enter g (#[.int .i64 h] ++ caps)) w)
    (hc : ∀ h, h < n → ∀ w, I w → Calls Tryd.prog g (#[.int .i64 h] ++ caps) w fun e w' => e = .returned (.bool (P h)) ∧ I w') (w : World) (hI : I w) :
    Calls Tryd.prog 58 #[.int .i64 n, .func (.func g) #[] caps] w (Found n P I) := by
  have Hc := Lib.hid hc
  clear hc
  go_enter Tryd.func58, Tryd.ntmps58
  go_wp2_with fail
  go_loopw [5, 6] (fun a b wr => ∃ i j : Nat, a = .int .i64 i ∧ b = .int .i64 j ∧ i ≤ j ∧ j ≤ n ∧ (0 < i → P (i - 1) = false) ∧ (j < n → P j = true) ∧ I wr) (fun a b _ => (intOf b).toNat - (intOf a).toNat)
  case atStart => exact ⟨0, n, rfl, rfl, Nat.zero_le _, Nat.le_refl _, fun h => absurd h (Nat.lt_irrefl _), fun h => absurd h (Nat.lt_irrefl _), hI⟩
  case round =>
    obtain ⟨i, j, rfl, rfl, hij, hjn, hi, hj, hIr⟩ := hrel
    have Hi := Lib.hid hi
    have Hj := Lib.hid hj
    clear hi hj
    by_cases hlt : i < j
    · have hlti : (i : Int) < (j : Int) := by omega
      have hu : IntKind.u64.wrap ((i : Int) + (j : Int)) = (i : Int) + (j : Int) := IntWalk.u64_in _ (by omega)
      obtain ⟨m, hm⟩ : ∃ m : Nat, ((i : Int) + (j : Int)) / 2 = (m : Int) := ⟨(i + j) / 2, by omega⟩
      have hm1 : i ≤ m := by omega
      have hm2 : m < j := by omega
      have hcm := Hc.out m (by omega) wr hIr
      cases hP : P m with
      | false =>
        rw [hP] at hcm
        have HP := Lib.hid hP
        have Hcm := Lib.hid hcm
        clear hP hcm
        go_wp2_with fail
        refine Hcm.out.mono ?_
        rintro e w2 ⟨rfl, hI2⟩
        clear hu hm
        go_wp2
        go_roundw
        case rel => exact ⟨m + 1, j, by go_num, rfl, by omega, hjn, fun _ => HP.out, Hj.out, hI2⟩
        case measure => simp [intOf]; omega
      | true =>
        rw [hP] at hcm
        have HP := Lib.hid hP
        have Hcm := Lib.hid hcm
        clear hP hcm
        go_wp2_with fail
        refine Hcm.out.mono ?_
        rintro e w2 ⟨rfl, hI2⟩
        clear hu hm
        go_wp2
        go_roundw
        case rel => exact ⟨i, m, rfl, rfl, hm1, by omega, Hi.out, fun _ => HP.out, hI2⟩
        case measure => simp [intOf]; omega
    · obtain rfl : i = j := by omega
      have hf : Found n P I (.returned (.int .i64 i)) wr := ⟨i, rfl, hjn, Hi.out, Hj.out, hIr⟩
      have Hf := Lib.hid hf
      clear hf
      go_wp2
      go_ret
      exact Hf.out
end Go.Proofs.YtinogdeolnldhaaDoor

namespace Lx

/-- Where a binary search ends a list is parted as by passing over. -/
theorem split_at (q : Tok → Bool) (o : List Tok) (hm : ∀ (i j : Nat) (a b : Tok), i < j → o[i]? = some a → o[j]? = some b → q a = true → q b = true) (r : Nat) (hr : r ≤ o.length)
    (h1 : ∀ t, 0 < r → o[r - 1]? = some t → q t = false) (h2 : ∀ t, o[r]? = some t → q t = true) :
    o.takeWhile (fun t => !q t) = o.take r ∧ o.dropWhile (fun t => !q t) = o.drop r := by
  have hall : ∀ t ∈ o.take r, (!q t) = true := by
    intro t ht
    obtain ⟨i, hi⟩ := List.getElem?_of_mem ht
    have hir : i < r := by
      have := (List.getElem?_eq_some_iff.1 hi).1
      rw [List.length_take] at this
      omega
    rw [List.getElem?_take, if_pos hir] at hi
    cases hq : q t with
    | false => rfl
    | true =>
      exfalso
      have hlast : ∃ u, o[r - 1]? = some u := ⟨_, List.getElem?_eq_getElem (by omega)⟩
      obtain ⟨u, hu⟩ := hlast
      have hu2 := h1 u (by omega) hu
      rcases Nat.lt_or_ge i (r - 1) with h | h
      · rw [hm i (r - 1) t u h hi hu hq] at hu2; cases hu2
      · have : i = r - 1 := by omega
        subst this
        rw [hi] at hu
        obtain rfl := Option.some.inj hu
        rw [hq] at hu2; cases hu2
  have hsp : o = o.take r ++ o.drop r := (List.take_append_drop r o).symm
  have hhead : (o.drop r).takeWhile (fun t => !q t) = [] ∧ (o.drop r).dropWhile (fun t => !q t) = o.drop r := by
    cases hd : o.drop r with
    | nil => exact ⟨rfl, rfl⟩
    | cons t ts =>
      have ht : o[r]? = some t := by
        have : (o.drop r)[0]? = some t := by rw [hd]; rfl
        rwa [List.getElem?_drop] at this
      have := h2 t ht
      simp [this]
  constructor
  · conv => lhs; rw [hsp]
    rw [List.takeWhile_append_of_pos hall, hhead.1, List.append_nil]
  · conv => lhs; rw [hsp]
    rw [List.dropWhile_append_of_pos hall, hhead.2]

/-- Tokens stand one behind the other. -/
def Rising (o : List Tok) : Prop := ∀ (i j : Nat) (a b : Tok), i < j → o[i]? = some a → o[j]? = some b → a.end_ ≤ b.at_ ∧ a.at_ < a.end_ ∧ b.at_ < b.end_

theorem rising_toks (l : Bytes) : Rising (toks l).toks := by
  intro i j a b hij ha hb
  have hw := toks_within l.length 0 l (Nat.le_refl _)
  have e : (cuts 0 l).toks = (toks l).toks := rfl
  rw [e] at hw
  have h1 := List.pairwise_iff_getElem.1 hw.2 i j ((List.getElem?_eq_some_iff.1 ha).1) ((List.getElem?_eq_some_iff.1 hb).1) hij
  rw [(List.getElem?_eq_some_iff.1 ha).2, (List.getElem?_eq_some_iff.1 hb).2] at h1
  exact ⟨h1, (hw.1 a (List.mem_of_getElem? ha)).2.1, (hw.1 b (List.mem_of_getElem? hb)).2.1⟩

theorem ahead_at {o : List Tok} (ho : Rising o) (A r : Nat) (hr : r ≤ o.length) (h1 : ∀ t, 0 < r → o[r - 1]? = some t → decide (A ≤ t.end_) = false) (h2 : ∀ t, o[r]? = some t → decide (A ≤ t.end_) = true) :
    aheadOf o A = o.take r := by
  have := (split_at (fun t => decide (A ≤ t.end_)) o (fun i j a b hij ha hb h => by
    have := ho i j a b hij ha hb
    simp only [decide_eq_true_eq] at h ⊢
    omega) r hr h1 h2).1
  rw [← this]
  unfold aheadOf
  congr 1
  funext t
  by_cases h : t.end_ < A
  · simp [h]
  · simp [h]; omega

theorem from_at {o : List Tok} (ho : Rising o) (d : Int) (p r : Nat) (hr : r ≤ o.length) (h1 : ∀ t, 0 < r → o[r - 1]? = some t → decide ((p : Int) ≤ (t.at_ : Int) + d) = false) (h2 : ∀ t, o[r]? = some t → decide ((p : Int) ≤ (t.at_ : Int) + d) = true) :
    fromOn o d p = o.drop r := by
  have := (split_at (fun t => decide ((p : Int) ≤ (t.at_ : Int) + d)) o (fun i j a b hij ha hb h => by
    have := ho i j a b hij ha hb
    simp only [decide_eq_true_eq] at h ⊢
    omega) r hr h1 h2).2
  rw [← this]
  unfold fromOn
  congr 1
  funext t
  by_cases h : (t.at_ : Int) + d < p
  · simp [h]
  · simp [h]; omega
end Lx
namespace Go.Proofs.YtinogdeolnldhaaDoor
open Go.RowKit

/-- The old tokens and the edit, boxed. -/
structure Kept2 (w : World) (b4 b5 : Nat) (va : Option Addr) (vc : Nat) (A C : Nat) (s : Lx.Bytes) (o : List Lx.Tok) : Prop where
  h4 : w.heap[b4]? = some (.cells #[.slice va o.length vc] 24 (0, 0))
  h5 : w.heap[b5]? = some (.cells #[.int .i64 A, .int .i64 C, .string ⟨s.toArray⟩] 31 (0, 0))
  row : ∀ (j : Nat) (t : Lx.Tok), o[j]? = some t → ∃ g off, va = some ⟨g, off, none⟩ ∧ g < w.heap.size ∧ ∀ (i : Nat) (u : Value), (tokCells t)[i]? = some u → w.cell? ⟨g, off + j * 5 + i, none⟩ = some u

theorem Kept2.turned {w w' : World} {b4 b5 : Nat} {va : Option Addr} {vc A C : Nat} {s : Lx.Bytes} {o : List Lx.Tok} {D : Nat → Prop} (h : Kept2 w b4 b5 va vc A C s o) (t : Turned w w' D) (n4 : ¬ D b4) (n5 : ¬ D b5) (ng : ∀ g off, va = some ⟨g, off, none⟩ → ¬ D g) : Kept2 w' b4 b5 va vc A C s o where
  h4 := (t.block b4 (lt_of_block h.h4) n4).trans h.h4
  h5 := (t.block b5 (lt_of_block h.h5) n5).trans h.h5
  row := fun j x hx => by
    obtain ⟨g, off, hva, hg, hc⟩ := h.row j x hx
    exact ⟨g, off, hva, Nat.lt_of_lt_of_le hg t.size, fun i u hu => (t.cell (p := ⟨g, off + j * 5 + i, none⟩) hg (ng g off hva)).trans (hc i u hu)⟩

theorem Kept2.quiet {w w' : World} {b4 b5 : Nat} {va : Option Addr} {vc A C : Nat} {s : Lx.Bytes} {o : List Lx.Tok} (h : Kept2 w b4 b5 va vc A C s o) (t : Turned w w' (fun _ => False)) : Kept2 w' b4 b5 va vc A C s o :=
  h.turned t (fun hf => hf) (fun hf => hf) (fun _ _ _ hf => hf)

set_option maxRecDepth 100000 in
set_option maxHeartbeats 800000 in
theorem recut1_any (b4 b5 : Nat) (va : Option Addr) (vc A C : Nat) (s : Lx.Bytes) (o : List Lx.Tok) (k : Nat) (t : Lx.Tok) (hk : o[k]? = some t) (w : World) (h : Kept2 w b4 b5 va vc A C s o) :
    Calls Tryd.prog 59 #[.int .i64 k, .pointer (some ⟨b4, 0, none⟩), .pointer (some ⟨b5, 0, none⟩)] w fun e w' => e = .returned (.bool (decide (A ≤ t.end_))) ∧ Turned w w' (fun _ => False) := by
  obtain ⟨g, off, rfl, hg, hc⟩ := h.row k t hk
  have hkl := (List.getElem?_eq_some_iff.1 hk).1
  have hki : (k : Int) < (o.length : Int) := by omega
  have c4 : w.cell? ⟨b4, 0, none⟩ = some (.slice (some ⟨g, off, none⟩) o.length vc) := by simp [World.cell?, h.h4]
  have c5 : w.cell? ⟨b5, 0, none⟩ = some (.int .i64 A) := by simp [World.cell?, h.h5]
  have p4 : w.cell? ⟨g, off + k * 5 + 4, none⟩ = some (.int .i64 t.end_) := hc 4 _ rfl
  clear h hc hk
  go_enter Tryd.func59, Tryd.ntmps59
  go_wp2_with fail
  go_quiet (fail)
  go_wp2
  go_ret
  exact ⟨rfl, (Turned.refl w _).drewN _⟩

theorem run_recut1 (k : Nat) (b4 b5 : Nat) (w : World) : (callFunc 59 (#[.int .i64 k] ++ #[.pointer (some ⟨b4, 0, none⟩), .pointer (some ⟨b5, 0, none⟩)])).run Tryd.prog w = .ok (.enter 59 (#[.int .i64 k] ++ #[.pointer (some ⟨b4, 0, none⟩), .pointer (some ⟨b5, 0, none⟩)])) w := by kernel_rfl

set_option maxRecDepth 100000 in
set_option maxHeartbeats 800000 in
theorem recut21_any (b4 b5 b9 b11 sb : Nat) (va : Option Addr) (vc A C : Nat) (s : Lx.Bytes) (o : List Lx.Tok) (d : Int) (p : Nat) (k : Nat) (t : Lx.Tok) (hk : o[k]? = some t) (hb : t.at_ ≤ 1000000) (hd : -1000000 ≤ d ∧ d ≤ 1000000) (w : World) (h : Kept2 w b4 b5 va vc A C s o)
    (h9 : w.heap[b9]? = some (.cells #[.pointer (some ⟨sb, 0, none⟩)] 53 (0, 0))) (h11 : w.heap[b11]? = some (.cells #[.int .i64 d] 3 (0, 0))) (hs : w.cell? ⟨sb, 5, none⟩ = some (.int .i64 p)) :
    Calls Tryd.prog 61 #[.int .i64 k, .pointer (some ⟨b4, 0, none⟩), .pointer (some ⟨b11, 0, none⟩), .pointer (some ⟨b9, 0, none⟩)] w fun e w' => e = .returned (.bool (decide ((p : Int) ≤ (t.at_ : Int) + d))) ∧ Turned w w' (fun _ => False) := by
  obtain ⟨g, off, rfl, hg, hc⟩ := h.row k t hk
  have hkl := (List.getElem?_eq_some_iff.1 hk).1
  have hki : (k : Int) < (o.length : Int) := by omega
  have c4 : w.cell? ⟨b4, 0, none⟩ = some (.slice (some ⟨g, off, none⟩) o.length vc) := by simp [World.cell?, h.h4]
  have c9 : w.cell? ⟨b9, 0, none⟩ = some (.pointer (some ⟨sb, 0, none⟩)) := by simp [World.cell?, h9]
  have c11 : w.cell? ⟨b11, 0, none⟩ = some (.int .i64 d) := by simp [World.cell?, h11]
  have p3 : w.cell? ⟨g, off + k * 5 + 3, none⟩ = some (.int .i64 t.at_) := hc 3 _ rfl
  have hsum : IntKind.i64.wrap ((t.at_ : Int) + d) = (t.at_ : Int) + d := IntWalk.i64_in _ (by omega)
  clear h hc hk h9 h11
  go_enter Tryd.func61, Tryd.ntmps61
  go_wp2_with fail
  go_quiet (fail)
  go_wp2
  go_ret
  exact ⟨rfl, (Turned.refl w _).drewN _⟩

theorem run_recut21 (k : Nat) (b4 b11 b9 : Nat) (w : World) : (callFunc 61 (#[.int .i64 k] ++ #[.pointer (some ⟨b4, 0, none⟩), .pointer (some ⟨b11, 0, none⟩), .pointer (some ⟨b9, 0, none⟩)])).run Tryd.prog w = .ok (.enter 61 (#[.int .i64 k] ++ #[.pointer (some ⟨b4, 0, none⟩), .pointer (some ⟨b11, 0, none⟩), .pointer (some ⟨b9, 0, none⟩)])) w := by kernel_rfl
end Go.Proofs.YtinogdeolnldhaaDoor

namespace Go.Proofs.YtinogdeolnldhaaDoor
open Go.RowKit

/-- What a box of an int leaves of a scanner. -/
theorem scan_box {B : Nat} {w w' : World} {S : Scn} {b : Nat} {c : Array Value} (h : Scan B w S) (hb : w.heap[b]? = some (.cells c 3 (0, 0))) (t : Turned w w' (fun k => k = b)) : Scan B w' S := by
  have nb : ¬ S.own b := h.not_own hb (by simp)
  refine h.turned t (fun k hk e => ?_)
  rcases hk with hk | hk | hk | hk
  · subst e; exact nb hk
  · subst hk; rw [← e] at hb; exact h.words.not_cells hb
  · subst hk; rw [← e] at hb; exact h.signs.not_cells hb
  · subst hk; rw [← e] at hb; exact h.states.not_cells hb

/-- All that the function value looks at; bh: what it has said to stand behind. -/
structure RecI (B b4 b5 b9 b11 b12 sb : Nat) (va : Option Addr) (vc A C : Nat) (s : Lx.Bytes) (o : List Lx.Tok) (d : Int) (ed : Lx.Bytes) (bh : Nat) (w : World) (S : Scn) : Prop where
  scan : Scan B w S
  same : S.sb = sb
  text : S.text = ⟨ed.toArray⟩
  kept : Kept2 w b4 b5 va vc A C s o
  h9 : w.heap[b9]? = some (.cells #[.pointer (some ⟨sb, 0, none⟩)] 53 (0, 0))
  h11 : w.heap[b11]? = some (.cells #[.int .i64 d] 3 (0, 0))
  h12 : w.heap[b12]? = some (.cells #[.int .i64 bh] 3 (0, 0))

theorem RecI.moved {B b4 b5 b9 b11 b12 sb : Nat} {va : Option Addr} {vc A C : Nat} {s : Lx.Bytes} {o : List Lx.Tok} {d : Int} {ed : Lx.Bytes} {bh : Nat} {w w' : World} {S S' : Scn} {D : Nat → Prop}
    (h : RecI B b4 b5 b9 b11 b12 sb va vc A C s o d ed bh w S) (hs : Scan B w' S') (e1 : S'.sb = S.sb) (e2 : S'.text = S.text) (t : Turned w w' D) (n4 : ¬ D b4) (n5 : ¬ D b5) (n9 : ¬ D b9) (n11 : ¬ D b11) (n12 : ¬ D b12) (ng : ∀ g off, va = some ⟨g, off, none⟩ → ¬ D g) :
    RecI B b4 b5 b9 b11 b12 sb va vc A C s o d ed bh w' S' where
  scan := hs
  same := e1.trans h.same
  text := e2.trans h.text
  kept := h.kept.turned t n4 n5 ng
  h9 := (t.block b9 (lt_of_block h.h9) n9).trans h.h9
  h11 := (t.block b11 (lt_of_block h.h11) n11).trans h.h11
  h12 := (t.block b12 (lt_of_block h.h12) n12).trans h.h12

theorem RecI.quiet {B b4 b5 b9 b11 b12 sb : Nat} {va : Option Addr} {vc A C : Nat} {s : Lx.Bytes} {o : List Lx.Tok} {d : Int} {ed : Lx.Bytes} {bh : Nat} {w w' : World} {S : Scn}
    (h : RecI B b4 b5 b9 b11 b12 sb va vc A C s o d ed bh w S) (t : Turned w w' (fun _ => False)) : RecI B b4 b5 b9 b11 b12 sb va vc A C s o d ed bh w' S :=
  h.moved (h.scan.turned t (fun _ _ hf => hf)) rfl rfl t (fun hf => hf) (fun hf => hf) (fun hf => hf) (fun hf => hf) (fun hf => hf) (fun _ _ _ hf => hf)

/-- What it has found. -/
def RecJ (B b4 b5 b9 b11 b12 sb : Nat) (va : Option Addr) (vc A C : Nat) (s : Lx.Bytes) (o : List Lx.Tok) (d : Int) (ed : Lx.Bytes) (w : World) (S : Scn) : Prop :=
  ∃ r, RecI B b4 b5 b9 b11 b12 sb va vc A C s o d ed r w S ∧ r ≤ o.length ∧ Lx.fromOn o d S.at_ = o.drop r

/-- What a search over places answers. -/
def placeP (o : List Lx.Tok) (d : Int) (p h : Nat) : Bool := match o[h]? with
  | some t => decide ((p : Int) ≤ (t.at_ : Int) + d)
  | none => true

def Rec2Post (B b4 b5 b9 b11 b12 sb : Nat) (va : Option Addr) (vc A C : Nat) (s : Lx.Bytes) (o : List Lx.Tok) (d : Int) (ed : Lx.Bytes) (w : World) (S : Scn) (E : Bool) (e : Ending) (w' : World) : Prop :=
  e = .returned (.bool E) ∧ Turned w w' (fun k => k = b12) ∧ (E = true → RecJ B b4 b5 b9 b11 b12 sb va vc A C s o d ed w' S) ∧ (E = false → RecI B b4 b5 b9 b11 b12 sb va vc A C s o d ed o.length w' S)

set_option maxRecDepth 100000 in
set_option maxHeartbeats 1600000 in
theorem recut2_any (B b4 b5 b9 b11 b12 sb : Nat) (va : Option Addr) (vc A C : Nat) (s : Lx.Bytes) (o : List Lx.Tok) (d : Int) (ed : Lx.Bytes) (w : World) (S : Scn) (h : RecI B b4 b5 b9 b11 b12 sb va vc A C s o d ed o.length w S)
    (ho : Lx.Rising o) (hol : o.length ≤ 1000000) (hoa : ∀ t ∈ o, t.at_ ≤ 1000000) (hd : -1000000 ≤ d ∧ d ≤ 1000000) (hA : A ≤ 1000000) (hsl : s.length ≤ 1000000)
    (n4 : b4 ≠ b12) (n5 : b5 ≠ b12) (n9 : b9 ≠ b12) (n11 : b11 ≠ b12) (ng : ∀ g off, va = some ⟨g, off, none⟩ → g ≠ b12) :
    Calls Tryd.prog 60 #[.pointer (some ⟨b9, 0, none⟩), .pointer (some ⟨b5, 0, none⟩), .pointer (some ⟨b4, 0, none⟩), .pointer (some ⟨b11, 0, none⟩), .pointer (some ⟨b12, 0, none⟩)] w
      (Rec2Post B b4 b5 b9 b11 b12 sb va vc A C s o d ed w S (Lx.again o d (A + s.length) S.at_)) := by
  have hmf : ∀ (fn : Fn) (first cap : Array Value) (w : World), (Instr.makeFunc fn first cap).run Tryd.prog w = .ok (.func fn first cap) w := fun _ _ _ _ => rfl
  have hk5 := h.kept.h5
  have hk4 := h.kept.h4
  have h9 := h.h9
  have c9 : w.cell? ⟨b9, 0, none⟩ = some (.pointer (some ⟨sb, 0, none⟩)) := by simp [World.cell?, h9]
  have c50 : w.cell? ⟨b5, 0, none⟩ = some (.int .i64 A) := by simp [World.cell?, hk5]
  have c52 : w.cell? ⟨b5, 2, none⟩ = some (.string ⟨s.toArray⟩) := by simp [World.cell?, hk5]
  have cs := h.scan.c5
  rw [h.same] at cs
  have H := Lib.hid h
  have hsum : IntKind.i64.wrap ((A : Int) + (s.length : Int)) = (A : Int) + (s.length : Int) := IntWalk.i64_in _ (by omega)
  obtain ⟨p, hpp⟩ : ∃ p, p = S.at_ := ⟨_, rfl⟩
  rw [← hpp] at cs
  have Hpp := Lib.hid hpp
  clear hk4 hk5 h9 hpp
  by_cases hlow : p < A + s.length
  · have hlowi : (p : Int) < (A : Int) + (s.length : Int) := by omega
    have hno : Lx.again o d (A + s.length) S.at_ = false := by
      unfold Lx.again
      rw [← Hpp.out, decide_eq_false (by omega), Bool.false_and]
    have hfin : ∀ n, Rec2Post B b4 b5 b9 b11 b12 sb va vc A C s o d ed w S (Lx.again o d (A + s.length) S.at_) (.returned (.bool false)) (w.drewN n) := fun n => by
      have tn : Turned w (w.drewN n) (fun _ => False) := (Turned.refl w _).drewN n
      rw [hno]
      exact ⟨rfl, tn.mono (fun _ _ hf => hf.elim), fun h => (by cases h), fun _ => H.out.quiet tn⟩
    have Hfin := Lib.hid hfin
    clear h hno hfin
    go_enter Tryd.func60, Tryd.ntmps60
    go_wp2_with fail
    go_quiet (fail)
    go_wp2
    go_ret
    exact Hfin.out _
  · have hlowi : ¬ (p : Int) < (A : Int) + (s.length : Int) := by omega
    have hs := fun (W : World) (hW : Turned w W (fun _ => False)) => search_any 61 #[.pointer (some ⟨b4, 0, none⟩), .pointer (some ⟨b11, 0, none⟩), .pointer (some ⟨b9, 0, none⟩)] o.length (by omega) (placeP o d p) (fun V => Turned w V (fun _ => False))
      (fun k w => run_recut21 k b4 b11 b9 w)
      (fun k hk V hV => by
        have hI := H.out.quiet hV
        have hx := List.getElem?_eq_getElem hk
        have cs2 := hI.scan.c5
        rw [hI.same, ← Hpp.out] at cs2
        refine (recut21_any b4 b5 b9 b11 sb va vc A C s o d p k _ hx (hoa _ (List.getElem_mem hk)) hd V hI.kept hI.h9 hI.h11 cs2).mono ?_
        rintro e w' ⟨rfl, t⟩
        exact ⟨by unfold placeP; rw [hx], hV.trans t (fun _ _ hf => hf)⟩) W hW
    have HS := Lib.hid hs
    clear h hs
    have hfr : ∀ r, r ≤ o.length → (0 < r → placeP o d p (r - 1) = false) → (r < o.length → placeP o d p r = true) → Lx.fromOn o d p = o.drop r := by
      intro r hr h1 h2
      refine Lx.from_at ho d p r hr (fun t h0 ht => ?_) (fun t ht => ?_)
      · have := h1 h0
        unfold placeP at this
        rwa [ht] at this
      · have := h2 (List.getElem?_eq_some_iff.1 ht).1
        unfold placeP at this
        rwa [ht] at this
    have Hfr := Lib.hid hfr
    have hag : Lx.again o d (A + s.length) S.at_ = (Lx.fromOn o d p).head?.any fun t => decide ((t.at_ : Int) + d = p) := by
      unfold Lx.again
      rw [← Hpp.out, decide_eq_true (by omega), Bool.true_and]
    have Hag := Lib.hid hag
    have hc4 := H.out.kept.h4
    have c4 : w.cell? ⟨b4, 0, none⟩ = some (.slice va o.length vc) := by simp [World.cell?, hc4]
    clear hfr hag hc4
    go_enter Tryd.func60, Tryd.ntmps60
    go_wp2_with fail
    go_quiet (fail)
    go_wp2_with fail
    have tn : Turned w (w.drewN nq) (fun _ => False) := (Turned.refl w _).drewN nq
    refine (HS.out _ tn).mono ?_
    rintro e w2 ⟨r, rfl, hr, hr1, hr2, t2⟩
    have hfrom := Hfr.out r hr hr1 hr2
    have HI := Lib.hid (H.out.quiet t2)
    have k4 := HI.out.kept.h4
    have k9 := HI.out.h9
    have k11 := HI.out.h11
    have k12 := HI.out.h12
    have c4' : w2.cell? ⟨b4, 0, none⟩ = some (.slice va o.length vc) := by simp [World.cell?, k4]
    have c9' : w2.cell? ⟨b9, 0, none⟩ = some (.pointer (some ⟨sb, 0, none⟩)) := by simp [World.cell?, k9]
    have c11' : w2.cell? ⟨b11, 0, none⟩ = some (.int .i64 d) := by simp [World.cell?, k11]
    have c12' : w2.cell? ⟨b12, 0, none⟩ = some (.int .i64 o.length) := by simp [World.cell?, k12]
    have z12 : w2.frozen? ⟨b12, 0, none⟩ = false := by simp [World.frozen?, k12]
    have cs' := HI.out.scan.c5
    rw [HI.out.same, ← Hpp.out] at cs'
    have T2 := Lib.hid t2
    have K12 := Lib.hid k12
    clear tn hr1 hr2 t2 k4 k9 k11 k12 c4 c9 c50 c52 cs
    have hno : ∀ E, Lx.again o d (A + s.length) S.at_ = false → E = false → ∀ n, Rec2Post B b4 b5 b9 b11 b12 sb va vc A C s o d ed w S (Lx.again o d (A + s.length) S.at_) (.returned (.bool E)) (w2.drewN n) := fun E hE hE2 n => by
      have tn : Turned w2 (w2.drewN n) (fun _ => False) := (Turned.refl w2 _).drewN n
      rw [hE, hE2]
      exact ⟨rfl, (T2.out.trans tn (fun _ _ hf => hf)).mono (fun _ _ hf => hf.elim), fun h => (by cases h), fun _ => HI.out.quiet tn⟩
    by_cases hrn : r = o.length
    · have hri : ((r : Int) == (o.length : Int)) = true := by rw [hrn]; exact beq_self_eq_true _
      have ha : Lx.again o d (A + s.length) S.at_ = false := by rw [Hag.out, hfrom, hrn, List.drop_length]; rfl
      have Hfin := Lib.hid (hno false ha rfl)
      clear hno ha hfrom hrn
      go_wp2_with fail
      go_quiet (fail)
      go_wp2
      go_ret
      exact Hfin.out _
    · have hrl : r < o.length := by omega
      have hri : ((r : Int) == (o.length : Int)) = false := by
        rw [Bool.eq_false_iff]; intro h; apply hrn; have : (r : Int) = (o.length : Int) := by simpa using h
        omega
      have hrli : (r : Int) < (o.length : Int) := by omega
      have hx := List.getElem?_eq_getElem hrl
      obtain ⟨g, off, rfl, hg, hcc⟩ := HI.out.kept.row r _ hx
      have hta := hoa o[r] (List.getElem_mem hrl)
      have hag2 : Lx.again o d (A + s.length) S.at_ = decide ((o[r].at_ : Int) + d = p) := by
        rw [Hag.out, hfrom, ← List.getElem_cons_drop hrl]; rfl
      have p3 : w2.cell? ⟨g, off + r * 5 + 3, none⟩ = some (.int .i64 o[r].at_) := hcc 3 _ rfl
      have hsum2 : IntKind.i64.wrap ((o[r].at_ : Int) + d) = (o[r].at_ : Int) + d := IntWalk.i64_in _ (by omega)
      generalize o[r].at_ = ta at *
      by_cases heq : (ta : Int) + d = (p : Int)
      · have ha : Lx.again o d (A + s.length) S.at_ = true := by rw [hag2, decide_eq_true heq]
        have hn1 : ((ta : Int) + d != (p : Int)) = false := by rw [heq]; exact bne_self_eq_false _
        have hyes : ∀ n, Rec2Post B b4 b5 b9 b11 b12 sb (some ⟨g, off, none⟩) vc A C s o d ed w S (Lx.again o d (A + s.length) S.at_) (.returned (.bool true)) ((w2.drewN n).setCell ⟨b12, 0, none⟩ (.int .i64 r)) := fun n => by
          have tn : Turned w2 (w2.drewN n) (fun _ => False) := (Turned.refl w2 _).drewN n
          have ts : Turned (w2.drewN n) ((w2.drewN n).setCell ⟨b12, 0, none⟩ (.int .i64 r)) (fun k => k = b12) := Turned.setCell (Turned.refl _ (fun k => k = b12)) (p := ⟨b12, 0, none⟩) (fun _ => rfl) _
          have hI2 := HI.out.quiet tn
          have hk12 : (w2.drewN n).heap[b12]? = _ := hI2.h12
          have hsc := scan_box hI2.scan hk12 ts
          rw [ha]
          refine ⟨rfl, (T2.out.mono (fun _ _ hf => hf.elim)).trans ((tn.mono (fun _ _ hf => hf.elim)).trans ts (fun _ _ h => h)) (fun _ _ h => h), fun _ => ?_, fun h => (by cases h)⟩
          refine ⟨r, ⟨hsc, hI2.same, hI2.text, hI2.kept.turned ts n4 n5 ng, (ts.block b9 (lt_of_block hI2.h9) n9).trans hI2.h9, (ts.block b11 (lt_of_block hI2.h11) n11).trans hI2.h11, ?_⟩, by omega, by rw [← Hpp.out]; exact hfrom⟩
          rw [setCell_block hk12]
          rfl
        have Hyes := Lib.hid hyes
        clear hno hyes hag2 ha hfrom hcc hx heq
        go_wp2_with fail
        go_quiet (fail)
        go_wp2
        go_ret
        exact Hyes.out _
      · have ha : Lx.again o d (A + s.length) S.at_ = false := by rw [hag2, decide_eq_false heq]
        have hn0 : ((ta : Int) + d == (p : Int)) = false := by
          rw [Bool.eq_false_iff]; intro h; exact heq (by simpa using h)
        have hn1 : ((ta : Int) + d != (p : Int)) = true := by simp only [bne, hn0, Bool.not_false]
        have Hfin := Lib.hid (hno false ha rfl)
        clear hno ha hag2 hfrom hcc hx heq
        go_wp2_with fail
        go_quiet (fail)
        go_wp2
        go_ret
        exact Hfin.out _

theorem run_recut2 (b9 b5 b4 b11 b12 : Nat) (w : World) : (callFunc 60 #[.pointer (some ⟨b9, 0, none⟩), .pointer (some ⟨b5, 0, none⟩), .pointer (some ⟨b4, 0, none⟩), .pointer (some ⟨b11, 0, none⟩), .pointer (some ⟨b12, 0, none⟩)]).run Tryd.prog w = .ok (.enter 60 #[.pointer (some ⟨b9, 0, none⟩), .pointer (some ⟨b5, 0, none⟩), .pointer (some ⟨b4, 0, none⟩), .pointer (some ⟨b11, 0, none⟩), .pointer (some ⟨b12, 0, none⟩)]) w := by kernel_rfl

theorem recut_enough (B b4 b5 b9 b11 b12 sb H0 : Nat) (va : Option Addr) (vc A C : Nat) (s : Lx.Bytes) (o : List Lx.Tok) (d : Int) (ed : Lx.Bytes)
    (ho : Lx.Rising o) (hol : o.length ≤ 1000000) (hoa : ∀ t ∈ o, t.at_ ≤ 1000000) (hd : -1000000 ≤ d ∧ d ≤ 1000000) (hA : A ≤ 1000000) (hsl : s.length ≤ 1000000)
    (l4 : b4 < H0) (l5 : b5 < H0) (l9 : b9 < H0) (l11 : b11 < H0) (l12 : b12 < H0) (hB : B ≤ H0) (gB : ∀ g off, va = some ⟨g, off, none⟩ → g < B)
    (n4 : b4 ≠ b12) (n5 : b5 ≠ b12) (n9 : b9 ≠ b12) (n11 : b11 ≠ b12) (ng : ∀ g off, va = some ⟨g, off, none⟩ → g ≠ b12) :
    EnoughB B 60 #[.pointer (some ⟨b9, 0, none⟩), .pointer (some ⟨b5, 0, none⟩), .pointer (some ⟨b4, 0, none⟩), .pointer (some ⟨b11, 0, none⟩), .pointer (some ⟨b12, 0, none⟩)]
      (RecI B b4 b5 b9 b11 b12 sb va vc A C s o d ed o.length) (RecJ B b4 b5 b9 b11 b12 sb va vc A C s o d ed) (Lx.again o d (A + s.length)) (fun k => k = b12) H0 := by
  have keep : ∀ bh w S w' S', RecI B b4 b5 b9 b11 b12 sb va vc A C s o d ed bh w S → Scan B w' S' → Turned w w' (fun k => S.own k ∨ H0 ≤ k) → S'.sb = S.sb → S'.text = S.text → RecI B b4 b5 b9 b11 b12 sb va vc A C s o d ed bh w' S' := by
    intro bh w S w' S' h hs t e1 e2
    refine h.moved hs e1 e2 t ?_ ?_ ?_ ?_ ?_ ?_
    · rintro (e | e)
      · exact h.scan.not_own h.kept.h4 (by simp) e
      · omega
    · rintro (e | e)
      · exact h.scan.not_own h.kept.h5 (by simp) e
      · omega
    · rintro (e | e)
      · exact h.scan.not_own h.h9 (by simp) e
      · omega
    · rintro (e | e)
      · exact h.scan.not_own h.h11 (by simp) e
      · omega
    · rintro (e | e)
      · exact h.scan.not_own h.h12 (by simp) e
      · omega
    · intro g off hva
      have hg := gB g off hva
      rintro (e | e)
      · have := (h.scan.own_tag e).1
        omega
      · omega
  refine ⟨run_recut2 b9 b5 b4 b11 b12, fun _ _ h => h.scan, fun _ _ ⟨_, h, _⟩ => h.scan, keep _, fun w S w' S' ⟨r, h, h1, h2⟩ hs t e1 e2 e3 => ⟨r, keep r w S w' S' h hs t e1 e2, h1, by rw [e3]; exact h2⟩, fun w S h _ => recut2_any B b4 b5 b9 b11 b12 sb va vc A C s o d ed w S h ho hol hoa hd hA hsl n4 n5 n9 n11 ng⟩
end Go.Proofs.YtinogdeolnldhaaDoor

namespace Go.Proofs.YtinogdeolnldhaaDoor
open Go.RowKit

/-- What a search over ends answers. -/
def endP (o : List Lx.Tok) (A h : Nat) : Bool := match o[h]? with
  | some t => decide (A ≤ t.end_)
  | none => true

/-- The old tokens, as they came in. -/
def OldRow (w : World) (va : Option Addr) (o : List Lx.Tok) : Prop :=
  ∀ (j : Nat) (t : Lx.Tok), o[j]? = some t → ∃ g off, va = some ⟨g, off, none⟩ ∧ g < w.heap.size ∧ ∀ (i : Nat) (u : Value), (tokCells t)[i]? = some u → w.cell? ⟨g, off + j * 5 + i, none⟩ = some u

theorem endOf_ahead (o : List Lx.Tok) (A : Nat) : Lx.endOf 0 (Lx.aheadOf o A) ≤ A := by
  unfold Lx.endOf
  cases h : (Lx.aheadOf o A).getLast? with
  | none => exact Nat.zero_le _
  | some t =>
    have hm := List.mem_of_getLast? h
    have := List.all_eq_true.1 (List.all_takeWhile (p := fun t : Lx.Tok => decide (t.end_ < A)) (l := o)) t hm
    simp only [decide_eq_true_eq] at this
    exact Nat.le_of_lt this

/-- What stands from a byte on, moved, stands there. -/
theorem from_ge {o : List Lx.Tok} (ho : Lx.Rising o) (d : Int) (p r : Nat) (h : Lx.fromOn o d p = o.drop r) (j : Nat) (t : Lx.Tok) (hj : r ≤ j) (ht : o[j]? = some t) : (p : Int) ≤ (t.at_ : Int) + d := by
  have hr : r < o.length := Nat.lt_of_le_of_lt hj (List.getElem?_eq_some_iff.1 ht).1
  have hd := List.head?_dropWhile_not (fun t : Lx.Tok => decide ((t.at_ : Int) + d < p)) o
  have e : (o.dropWhile fun t : Lx.Tok => decide ((t.at_ : Int) + d < p)).head? = some o[r] := by
    have : (o.dropWhile fun t : Lx.Tok => decide ((t.at_ : Int) + d < p)) = o.drop r := h
    rw [this, List.head?_drop, List.getElem?_eq_getElem hr]
  rw [e] at hd
  simp only [decide_eq_false_iff_not] at hd
  rcases Nat.lt_or_ge r j with h1 | h1
  · have := ho r j _ t h1 (List.getElem?_eq_getElem hr) ht
    omega
  · have : r = j := by omega
    subst this
    rw [List.getElem?_eq_getElem hr] at ht
    obtain rfl := Option.some.inj ht
    omega

theorem owns_base {w : World} {b b' : Nat} {e : TypeId} {z : Nat} {v : Value} {n : Nat} {xs : List Value} (h : w.ownsRow b e z v n xs) (hb : b' ≤ b) : w.ownsRow b' e z v n xs := by
  refine ⟨h.1, ?_⟩
  rcases h.2 with h2 | ⟨g, cap, cur, h2, h3, h4⟩
  · exact .inl h2
  · exact .inr ⟨g, cap, cur, h2, Nat.le_trans hb h3, h4⟩

theorem flatMap_of {α : Type} (f : α → List Value) (n : Nat) (hf : ∀ x, (f x).length = n) : ∀ (l : List α) (j : Nat) (u : Value), (l.flatMap f)[j]? = some u → ∃ q i x, j = q * n + i ∧ l[q]? = some x ∧ (f x)[i]? = some u
  | [], j, u, h => by simp at h
  | y :: l, j, u, h => by
    rw [List.flatMap_cons, List.getElem?_append, hf] at h
    split at h
    · exact ⟨0, j, y, by omega, rfl, h⟩
    · obtain ⟨q, i, x, e, h1, h2⟩ := flatMap_of f n hf l (j - n) u h
      exact ⟨q + 1, i, x, by rw [Nat.add_mul]; omega, h1, h2⟩

theorem tok_one (l : List Lx.Tok) : ∀ u ∈ l.flatMap tokCells, u.oneCell' = true := by
  intro u hu
  obtain ⟨t, -, hu⟩ := List.mem_flatMap.1 hu
  simp only [tokCells, str, List.mem_cons, List.not_mem_nil, or_false] at hu
  rcases hu with rfl | rfl | rfl | rfl | rfl <;> rfl

theorem tok_len (l : List Lx.Tok) : (l.flatMap tokCells).length = l.length * 5 := by
  induction l with
  | nil => rfl
  | cons t l ih => rw [List.flatMap_cons, List.length_append, ih, List.length_cons]; simp only [tokCells, List.length_cons, List.length_nil]; omega

/-- The cells of the old tokens up to one, as an append reads them. -/
theorem Kept2.news {w : World} {b4 b5 : Nat} {g off vc A C : Nat} {s : Lx.Bytes} {o : List Lx.Tok} (h : Kept2 w b4 b5 (some ⟨g, off, none⟩) vc A C s o) (r : Nat) :
    ∀ j u, ((o.take r).flatMap tokCells)[j]? = some u → w.cell? ((⟨g, off, none⟩ : Addr).add j) = some u := by
  intro j u hu
  obtain ⟨q, i, x, rfl, h1, h2⟩ := flatMap_of tokCells 5 (fun _ => rfl) _ j u hu
  have hx : o[q]? = some x := by
    rw [List.getElem?_take] at h1
    split at h1
    · exact h1
    · cases h1
  obtain ⟨g', off', e, -, h3⟩ := h.row q x hx
  cases e
  have e0 : (⟨g, off, none⟩ : Addr).add (q * 5 + i) = ⟨g, off + q * 5 + i, none⟩ := by
    unfold Addr.add
    split
    · rename_i h0; show (⟨g, off, none⟩ : Addr) = ⟨g, off + q * 5 + i, none⟩; simp only [Addr.mk.injEq, true_and, and_true]; omega
    · show (⟨g, off + (q * 5 + i), none⟩ : Addr) = ⟨g, off + q * 5 + i, none⟩; rw [Nat.add_assoc]
  rw [e0]
  exact h3 i u h2

/-- Behind the copy of what stands ahead of an edit. -/
structure RecMid (B b4 b5 b9 sb : Nat) (va : Option Addr) (vc A C : Nat) (s : Lx.Bytes) (o : List Lx.Tok) (ed : Lx.Bytes) (r : Nat) (W Z : World) (F : Scn) : Prop where
  scan : Scan B Z F
  same : F.sb = sb
  text : F.text = ⟨ed.toArray⟩
  toks : F.toks = o.take r
  at' : F.at_ = Lx.endOf 0 (o.take r)
  coms : F.coms = []
  kept : Kept2 Z b4 b5 va vc A C s o
  h9 : Z.heap[b9]? = some (.cells #[.pointer (some ⟨sb, 0, none⟩)] 53 (0, 0))
  below : Below B W Z

theorem mid_of {B b4 b5 b9 sb : Nat} {va : Option Addr} {vc A C : Nat} {s : Lx.Bytes} {o : List Lx.Tok} {ed : Lx.Bytes} {r : Nat} {W V Z : World} {F F2 : Scn}
    (h : Scan B V F) (e : F.sb = sb) (hk : Kept2 V b4 b5 va vc A C s o) (h9 : V.heap[b9]? = some (.cells #[.pointer (some ⟨sb, 0, none⟩)] 53 (0, 0))) (b : Below B W V)
    (hb4 : b4 < B) (hb5 : b5 < B) (hg : ∀ g off, va = some ⟨g, off, none⟩ → g < B) (t : Turned V Z (fun j => j = sb))
    (h2 : Scan B Z F2) (e1 : F2.sb = sb) (e2 : F2.text = ⟨ed.toArray⟩) (e3 : F2.toks = o.take r) (e4 : F2.at_ = Lx.endOf 0 (o.take r)) (e5 : F2.coms = []) : RecMid B b4 b5 b9 sb va vc A C s o ed r W Z F2 where
  scan := h2
  same := e1
  text := e2
  toks := e3
  at' := e4
  coms := e5
  kept := hk.turned t (by have := h.hB; omega) (by have := h.hB; omega) (fun g off e6 => by have := h.hB; have := hg g off e6; omega)
  h9 := (t.block b9 (lt_of_block h9) (fun e6 => h.not_own h9 (by simp) (.inl (e6.trans e.symm)))).trans h9
  below := b.trans (t.below (B := B) (by have := h.hB; have := h.lt; omega) (fun j hj => by have := h.hB; omega))

set_option maxRecDepth 100000 in
set_option maxHeartbeats 3200000 in
theorem recut_any (w : World) (he : Env w) (h7 : 7 ≤ w.heap.size) (l s : Lx.Bytes) (A C : Nat) (o : List Lx.Tok) (hoe : o = (Lx.toks l).toks) (hb : (Lx.toks l).bad = none) (hAC : A + C ≤ l.length) (hlen : l.length + s.length ≤ 20000)
    (va : Option Addr) (vc : Nat) (row : OldRow w va o) (hcap : o.length ≤ vc) (hvc : vc ≤ maxLen) (hgv : ∀ g off, va = some ⟨g, off, none⟩ → g < w.heap.size) (hva : 0 < vc → ∃ g off, va = some ⟨g, off, none⟩) (ed : Lx.Bytes) (hed : ed = l.take A ++ s ++ l.drop (A + C)) :
    Calls Tryd.prog 33 #[.string ⟨ed.toArray⟩, .slice va o.length vc, .agg #[.int .i64 A, .int .i64 C, .string ⟨s.toArray⟩]] w fun e w' => TokPost w.heap.size ⟨ed.toArray⟩ e w' ∧ Below w.heap.size w w' := by
  have hmf : ∀ (fn : Fn) (first cap : Array Value) (w : World), (Instr.makeFunc fn first cap).run Tryd.prog w = .ok (.func fn first cap) w := fun _ _ _ _ => rfl
  obtain ⟨i0, hi0, hz0, hz1, hz2⟩ := info_parts Tryd.infoTok
  unfold maxLen at hvc
  have hedl : ed.length ≤ 20000 := by
    rw [hed]
    simp only [List.length_append, List.length_take, List.length_drop]
    omega
  have hedA : A ≤ ed.length := by
    rw [hed]
    simp only [List.length_append, List.length_take, List.length_drop]
    omega
  have hrise : Lx.Rising o := by rw [hoe]; exact Lx.rising_toks l
  have hol : o.length ≤ 20000 := by
    have := cuts_count l.length 0 l (Nat.le_refl _)
    rw [hoe]
    exact Nat.le_trans this (by omega)
  have hw := Lx.toks_within l.length 0 l (Nat.le_refl _)
  have hoa : ∀ t ∈ o, t.at_ ≤ 20000 ∧ t.end_ ≤ 20000 ∧ t.at_ < t.end_ := by
    intro t ht
    rw [hoe] at ht
    have := hw.1 t ht
    omega
  have hrec := Lx.recut_eq l s A C hb hAC
  rw [← hed, ← hoe] at hrec
  simp only at hrec
  have hbig : ¬ (100000 : Int) < (ed.length : Int) := by omega
  -- the world with the boxes
  obtain ⟨W, hW⟩ : ∃ W, W = (w.alloc (.cells #[.slice va o.length vc] 24)).alloc (.cells #[.int .i64 A, .int .i64 C, .string ⟨s.toArray⟩] 31) := ⟨_, rfl⟩
  have z1 : (w.alloc (.cells #[.slice va o.length vc] 24)).heap.size = w.heap.size + 1 := by simp
  have tW : Turned w W (fun _ => False) := by rw [hW]; exact ((Turned.refl w _).alloc _).alloc _
  have k4 : W.heap[w.heap.size]? = some (.cells #[.slice va o.length vc] 24 (0, 0)) := by
    rw [hW]; exact (Below.heap_alloc _ _ _ (by simp)).trans (heap_alloc_new w _)
  have k5 : W.heap[w.heap.size + 1]? = some (.cells #[.int .i64 A, .int .i64 C, .string ⟨s.toArray⟩] 31 (0, 0)) := by
    rw [hW, ← z1]; exact heap_alloc_new _ _
  have hkept : Kept2 W w.heap.size (w.heap.size + 1) va vc A C s o := ⟨k4, k5, fun j t ht => by
    obtain ⟨g, off, h1, h2, h3⟩ := row j t ht
    exact ⟨g, off, h1, Nat.lt_of_lt_of_le h2 tW.size, fun i u hu => (tW.cell (p := ⟨g, off + j * 5 + i, none⟩) h2 (fun hf => hf)).trans (h3 i u hu)⟩⟩
  have eW : Env W := he.turned tW h7 (fun _ hf => hf.elim)
  have h7W : 7 ≤ W.heap.size := Nat.le_trans h7 tW.size
  have bW : Below w.heap.size w W := tW.below (Nat.le_refl _) (fun _ hf => hf.elim)
  have hNew := newScanner_any W eW h7W
  have lB := lt_of_block k5
  have HNew := Lib.hid hNew
  have HK := Lib.hid hkept
  have BW := Lib.hid bW
  have Hrec := Lib.hid hrec
  have Hoe := Lib.hid hoe
  have Hed := Lib.hid hed
  clear hNew hkept bW hrec row hoe hed hw eW h7W k4 k5 he h7 hb tW z1
  go_enter Tryd.func33, Tryd.ntmps33
  go_wp2_with fail
  rw [← hW]
  refine HNew.out.mono ?_
  rintro e w1 ⟨S, rfl, h1, b1, -, -, -, -⟩
  have HW := Lib.hid hW
  clear hW
  have g2 := (Goes.refl w1 S).alloc (.cells #[.pointer (some ⟨S.sb, 0, none⟩)] 53)
  have s2 := h1.alloc (.cells #[.pointer (some ⟨S.sb, 0, none⟩)] 53)
  have k9 := heap_alloc_new w1 (.cells #[.pointer (some ⟨S.sb, 0, none⟩)] 53)
  go_wp2_with fail
  refine (begin_any W.heap.size _ S s2 ⟨ed.toArray⟩).mono ?_
  rintro e w3 ⟨rfl, h3, g3⟩
  have hlow : ∀ k, k < W.heap.size → ¬ S.own k := fun k hk ho => by have := (s2.own_tag ho).1; omega
  have n9 : ¬ S.own w1.heap.size := s2.not_own k9 (by simp)
  have tw1 : Turned W w1 (fun _ => False) := Turned.ofBelow b1 (fun k hk hle => by omega)
  have t13 : Turned w1 w3 S.own := g2.turned.trans g3.turned (fun k _ h => h)
  have hgW : ∀ g off, va = some ⟨g, off, none⟩ → g < W.heap.size := fun g off h1 => by have := hgv g off h1; omega
  have kept3 : Kept2 w3 w.heap.size (w.heap.size + 1) va vc A C s o := by
    have hq := HK.out.quiet tw1
    refine ⟨(t13.block _ (lt_of_block hq.h4) (hlow _ (by omega))).trans hq.h4, (t13.block _ (lt_of_block hq.h5) (hlow _ lB)).trans hq.h5, fun j t ht => ?_⟩
    obtain ⟨g, off, e1, e2, e3⟩ := hq.row j t ht
    have hgg := hgW g off e1
    exact ⟨g, off, e1, Nat.lt_of_lt_of_le e2 t13.size, fun i u hu => (t13.cell (p := ⟨g, off + j * 5 + i, none⟩) e2 (hlow _ hgg)).trans (e3 i u hu)⟩
  have k93 : w3.heap[w1.heap.size]? = some (.cells #[.pointer (some ⟨S.sb, 0, none⟩)] 53 (0, 0)) := (g3.turned.block _ (lt_of_block k9) n9).trans k9
  have b3 : Below W.heap.size W w3 := b1.trans (t13.below (B := W.heap.size) b1.size (fun k hk => (h1.own_tag hk).1))
  have HK3 := Lib.hid kept3
  have K93 := Lib.hid k93
  have B3 := Lib.hid b3
  have Hlow := Lib.hid hlow
  have HgW := Lib.hid hgW
  have lb9 := lt_of_block k93
  have hw1 : W.heap.size ≤ w1.heap.size := b1.size
  have c4 : w3.cell? ⟨w.heap.size, 0, none⟩ = some (.slice va o.length vc) := by simp [World.cell?, kept3.h4]
  have hs5 := fun (V : World) (hV : Turned w3 V (fun _ => False)) => search_any 59 #[.pointer (some ⟨w.heap.size, 0, none⟩), .pointer (some ⟨w.heap.size + 1, 0, none⟩)] o.length (by omega) (endP o A) (fun V => Turned w3 V (fun _ => False))
    (fun k w' => run_recut1 k w.heap.size (w.heap.size + 1) w')
    (fun k hk V hV => by
      have hx := List.getElem?_eq_getElem hk
      refine (recut1_any w.heap.size (w.heap.size + 1) va vc A C s o k _ hx V (HK3.out.quiet hV)).mono ?_
      rintro e w' ⟨rfl, t⟩
      exact ⟨by unfold endP; rw [hx], hV.trans t (fun _ _ hf => hf)⟩) V hV
  have HS5 := Lib.hid hs5
  clear hs5 kept3 k93 b3 hlow hgW tw1 t13 n9 k9 s2 g2 g3 b1 h1
  generalize hF : S.fresh ⟨ed.toArray⟩ = F at *
  have HF := Lib.hid hF
  clear hF
  go_wp2_with fail
  refine (HS5.out _ (Turned.refl _ _)).mono ?_
  rintro e w4 ⟨r, rfl, hr, hr1, hr2, t4⟩
  have hah : Lx.aheadOf o A = o.take r := by
    refine Lx.ahead_at hrise A r hr (fun t h0 ht => ?_) (fun t ht => ?_)
    · have := hr1 h0
      unfold endP at this
      rwa [ht] at this
    · have := hr2 (List.getElem?_eq_some_iff.1 ht).1
      unfold endP at this
      rwa [ht] at this
  have Hah := Lib.hid hah
  clear hr1 hr2 hah c4
  have hk4 := HK3.out.quiet t4
  have k94 := (t4.block _ lb9 (fun hf => hf)).trans K93.out
  have h4 := h3.turned t4 (fun _ _ hf => hf)
  have hFsb0 : F.sb = S.sb := by rw [← HF.out]; rfl
  have hFtv0 : F.tv = .slice none 0 0 := by rw [← HF.out]; rfl
  have hFtk0 : F.toks = [] := by rw [← HF.out]; rfl
  have hFtx0 : F.text = ⟨ed.toArray⟩ := by rw [← HF.out]; rfl
  have hFat0 : F.at_ = 0 := by rw [← HF.out]; rfl
  have hFco0 : F.coms = [] := by rw [← HF.out]; rfl
  have hB4 : W.heap.size ≤ w4.heap.size := Nat.le_trans B3.out.size t4.size
  have b4' : Below W.heap.size W w4 := B3.out.trans (t4.below (B := W.heap.size) B3.out.size (fun _ hf => hf.elim))
  have hmid := fun (Z : World) (F2 : Scn) (t : Turned w4 Z (fun j => j = S.sb)) (h2 : Scan W.heap.size Z F2) (e1 : F2.sb = S.sb) => mid_of (ed := ed) (r := r) h4 hFsb0 hk4 k94 b4' (by omega) lB HgW.out t h2 e1
  have Hmid := Lib.hid hmid
  have HK4 := Lib.hid hk4
  have K94 := Lib.hid k94
  have H4 := Lib.hid h4
  have B4' := Lib.hid b4'
  clear hmid b4'
  go_upto_if 29 with fail
  go_cut [] from 29 to 49 (fun wx => ∃ F2 : Scn, RecMid W.heap.size w.heap.size (w.heap.size + 1) w1.heap.size S.sb va vc A C s o ed r W wx F2)
  case first =>
    by_cases hr0 : r = 0
    · have hr0i : ¬ (0 : Int) < (r : Int) := by omega
      have hend := Hmid.out w4 F (Turned.refl _ _) h4 hFsb0 hFtx0 (by rw [hFtk0, hr0]; rfl) (by rw [hFat0, hr0]; rfl) hFco0
      have Hend := Lib.hid hend
      clear hk4 k94 h4 t4 hend hr0
      go_wp2_with fail
      go_meet
      exact ⟨F, Hend.out⟩
    · have hr0i : (0 : Int) < (r : Int) := by omega
      have hri : (r : Int) ≤ (vc : Int) := by omega
      obtain ⟨g, off, hvae⟩ := hva (by omega)
      obtain ⟨x, hx⟩ : ∃ x, o[r - 1]? = some x := ⟨_, List.getElem?_eq_getElem (by omega)⟩
      obtain ⟨g', off', hva', lg, hcell⟩ := hk4.row (r - 1) x hx
      rw [hvae] at hva'
      cases hva'
      have hlast : Lx.endOf 0 (o.take r) = x.end_ := by
        unfold Lx.endOf
        rw [List.getLast?_take, if_neg hr0, hx]
        rfl
      have hgB := HgW.out g off hvae
      have q4e : w4.cell? ⟨g, off + (r - 1) * 5 + 4, none⟩ = some (.int .i64 x.end_) := hcell 4 _ rfl
      have hk4g := hk4
      rw [hvae] at hk4g
      have q4 : w4.cell? ⟨w.heap.size, 0, none⟩ = some (.slice (some ⟨g, off, none⟩) o.length vc) := by simp [World.cell?, hk4g.h4]
      have q9 : w4.cell? ⟨w1.heap.size, 0, none⟩ = some (.pointer (some ⟨S.sb, 0, none⟩)) := by simp [World.cell?, k94]
      have d6 := h4.c6
      have f6 := h4.frozenAt 6
      have hown := h4.toks
      rw [hFsb0, hFtv0] at d6
      rw [hFsb0] at f6
      rw [hFtv0, hFtk0] at hown
      simp only [List.length_nil, List.flatMap_nil] at hown
      have hnews2 : ∀ j u, ((o.take r).flatMap tokCells)[j]? = some u → w4.drew.cell? ((⟨g, off, none⟩ : Addr).add j) = some u := hk4g.news r
      have hnl : ((o.take r).flatMap tokCells).length = r * 5 := by rw [tok_len, List.length_take, Nat.min_eq_left hr]
      have hone := tok_one (o.take r)
      have lS := h4.lt
      have hBS := h4.hB
      rw [hFsb0] at lS hBS
      have l9 := lt_of_block k94
      have l4 := lt_of_block hk4.h4
      have n9S : w1.heap.size ≠ S.sb := fun e6 => h4.not_own k94 (by simp) (.inl (e6.trans hFsb0.symm))
      have hmax : 0 + r ≤ maxLen := by unfold maxLen; omega
      have hfin : ∀ (wn : World) (gg cap : Nat), wn.ownsRow W.heap.size 48 5 (.slice (some ⟨gg, 0, none⟩) (0 + r) cap) (0 + r) ([] ++ (o.take r).flatMap tokCells) → w4.drew.grownBy wn (Value.slice none 0 0).ownBlock →
          Scan W.heap.size (wn.setCell ⟨S.sb, 6, none⟩ (.slice (some ⟨gg, 0, none⟩) r cap)) { F with tv := .slice (some ⟨gg, 0, none⟩) r cap, toks := o.take r } ∧ Turned w4 (wn.setCell ⟨S.sb, 6, none⟩ (.slice (some ⟨gg, 0, none⟩) r cap)) (fun j => j = S.sb) := by
        intro wn gg cap h1 hg
        have t0 : Turned w4 wn (fun _ => False) := Turned.grown (Turned.refl w4 _).drew hg (fun j _ hj => by simp [Value.ownBlock] at hj)
        rw [Nat.zero_add, List.nil_append] at h1
        have h5 := h4.appendToks (t0.mono (E := fun j => F.tv.ownBlock = some j) (fun _ _ hf => hf.elim)) (.slice (some ⟨gg, 0, none⟩) r cap) (o.take r) (by rw [List.length_take, Nat.min_eq_left hr]; exact h1)
        rw [show wn.setCell ⟨F.sb, 6, none⟩ (.slice (some ⟨gg, 0, none⟩) r cap) = wn.setCell ⟨S.sb, 6, none⟩ (.slice (some ⟨gg, 0, none⟩) r cap) by rw [hFsb0]] at h5
        exact ⟨h5, (t0.mono (E := fun j => j = S.sb) (fun _ _ hf => hf.elim)).setCell (p := ⟨S.sb, 6, none⟩) (fun _ => rfl) _⟩
      have Hfin := Lib.hid hfin
      have hxe := (hoa x (List.mem_of_getElem? hx)).2.1
      have T4 := Lib.hid t4
      have Hlast := Lib.hid hlast
      have hs1 : IntKind.i64.wrap ((r : Int) - 1) = ((r - 1 : Nat) : Int) := by rw [IntWalk.i64_in _ (by omega)]; omega
      have hs2 : ((r - 1 : Nat) : Int) < (o.length : Int) := by omega
      clear hk4 hk4g k94 h4 t4 hlast hcell hx hfin hvae
      go_upto_region 7 with fail
      go_cut [] from 29 to 40 (fun wx => ∃ v : Value, Scan W.heap.size wx { F with tv := v, toks := o.take r } ∧ Turned w4 wx (fun j => j = S.sb))
      case first =>
        go_region_law
          ((refine step_append_lies _ (by rfl) _ _ _ (by rfl) W.heap.size 48 i0 _ 5 48 Tryd.underlying24 hi0 hz0 hz1 hz2 rfl (by omega) (.slice none 0 0) 0 [] (by rfl) hown.drew ⟨g, off, none⟩ r vc ((o.take r).flatMap tokCells) (by rfl) hnl hnews2 hone (by omega) hmax (by omega) hB4 w4.heap.size (by rfl) ?_; intro gg cap wn hown1 hgrow hat hlt; have c9' : wn.cell? ⟨w1.heap.size, 0, none⟩ = some (.pointer (some ⟨S.sb, 0, none⟩)) := (hgrow.cell_far ⟨w1.heap.size, 0, none⟩ l9 (by simp [Value.ownBlock])).trans q9; have c4' : wn.cell? ⟨w.heap.size, 0, none⟩ = some (.slice (some ⟨g, off, none⟩) o.length vc) := (hgrow.cell_far ⟨w.heap.size, 0, none⟩ l4 (by simp [Value.ownBlock])).trans q4; have c6' : wn.cell? ⟨S.sb, 6, none⟩ = some (.slice none 0 0) := (hgrow.cell_far ⟨S.sb, 6, none⟩ lS (by simp [Value.ownBlock])).trans d6; have f6' : wn.frozen? ⟨S.sb, 6, none⟩ = false := (hgrow.frozen_far ⟨S.sb, 6, none⟩ lS (by simp [Value.ownBlock])).trans f6))
        all_goals
          go_wp2_with fail
          have hfz := Hfin.out wn gg cap hown1 hgrow
          clear hown1 hgrow hat hlt c9' c4' c6' f6'
          go_meet
          exact ⟨_, hfz⟩
      case rest =>
        obtain ⟨v, hZ, tZ⟩ := hcut
        generalize wc = Z at *
        have z9 := (tZ.cell (p := ⟨w1.heap.size, 0, none⟩) l9 n9S).trans q9
        have z4 := (tZ.cell (p := ⟨w.heap.size, 0, none⟩) l4 (by show ¬ w.heap.size = S.sb; omega)).trans q4
        have z4e := (tZ.cell (p := ⟨g, off + (r - 1) * 5 + 4, none⟩) lg (by show ¬ g = S.sb; omega)).trans q4e
        have z5 := hZ.c5
        have zf := hZ.frozenAt 5
        have hx1 : ({ F with tv := v, toks := o.take r } : Scn).sb = S.sb := hFsb0
        rw [hx1] at z5 zf
        have hend : RecMid W.heap.size w.heap.size (w.heap.size + 1) w1.heap.size S.sb va vc A C s o ed r W (Z.setCell ⟨S.sb, 5, none⟩ (.int .i64 x.end_)).drew { F with tv := v, toks := o.take r, at_ := x.end_ } := by
          have h5 := (hZ.stored 5 (.int .i64 x.end_) { F with tv := v, toks := o.take r, at_ := x.end_ } rfl (by simp [Scn.cells]) rfl rfl rfl hZ.toks hZ.coms).drew
          have e6 : Z.setCell ⟨({ F with tv := v, toks := o.take r } : Scn).sb, 5, none⟩ (.int .i64 x.end_) = Z.setCell ⟨S.sb, 5, none⟩ (.int .i64 x.end_) := by rw [hx1]
          rw [e6] at h5
          exact Hmid.out _ _ (tZ.setCell (p := ⟨S.sb, 5, none⟩) (fun _ => rfl) _).drew h5 hFsb0 hFtx0 rfl Hlast.out.symm hFco0
        have Hend := Lib.hid hend
        clear hZ tZ hend
        go_wp2_with fail
        go_region
        go_wp2_with fail
        go_meet
        exact ⟨_, Hend.out⟩
  case rest =>
  obtain ⟨F, hm⟩ := hcut
  generalize wc = V at *
  have hkV := hm.kept
  have k9V := hm.h9
  have hF := hm.scan
  have bV := hm.below
  have hFsb := hm.same
  have hFtext := hm.text
  have hFtoks := hm.toks
  have hFat := hm.at'
  have hFcoms := hm.coms
  clear hm hk4 k94 h4 t4 hFsb0 hFtv0 hFtk0 hFtx0 hFat0 hFco0 Hmid HK4 K94 H4 B4'
  have c51 : V.cell? ⟨w.heap.size + 1, 1, none⟩ = some (.int .i64 C) := by simp [World.cell?, hkV.h5]
  have c52 : V.cell? ⟨w.heap.size + 1, 2, none⟩ = some (.string ⟨s.toArray⟩) := by simp [World.cell?, hkV.h5]
  have c40 : V.cell? ⟨w.heap.size, 0, none⟩ = some (.slice va o.length vc) := by simp [World.cell?, hkV.h4]
  have c90 : V.cell? ⟨w1.heap.size, 0, none⟩ = some (.pointer (some ⟨S.sb, 0, none⟩)) := by simp [World.cell?, k9V]
  have lV4 := lt_of_block hkV.h4
  have lV5 := lt_of_block hkV.h5
  have lV9 := lt_of_block k9V
  have hCl : C ≤ 20000 := by omega
  have hsl20 : s.length ≤ 20000 := by omega
  obtain ⟨V2, hV2⟩ : ∃ V2, V2 = (V.alloc (.cells #[.int .i64 ((s.length : Int) - (C : Int))] 3)).alloc (.cells #[.int .i64 o.length] 3) := ⟨_, rfl⟩
  have tV2 : Turned V V2 (fun _ => False) := by rw [hV2]; exact ((Turned.refl V _).alloc _).alloc _
  have zV : (V.alloc (.cells #[.int .i64 ((s.length : Int) - (C : Int))] 3)).heap.size = V.heap.size + 1 := by simp
  have k11 : V2.heap[V.heap.size]? = some (.cells #[.int .i64 ((s.length : Int) - (C : Int))] 3 (0, 0)) := by
    rw [hV2]; exact (Below.heap_alloc _ _ _ (by simp)).trans (heap_alloc_new V _)
  have k12 : V2.heap[V.heap.size + 1]? = some (.cells #[.int .i64 o.length] 3 (0, 0)) := by
    rw [hV2, ← zV]; exact heap_alloc_new _ _
  have l12 := lt_of_block k12
  have hI : RecI W.heap.size w.heap.size (w.heap.size + 1) w1.heap.size V.heap.size (V.heap.size + 1) S.sb va vc A C s o ((s.length : Int) - (C : Int)) ed o.length V2 F :=
    ⟨hF.turned tV2 (fun _ _ hf => hf), hFsb, hFtext, hkV.quiet tV2, (tV2.block _ lV9 (fun hf => hf)).trans k9V, k11, k12⟩
  have hbW : W.heap.size ≤ V.heap.size := bV.size
  have hEn := recut_enough W.heap.size w.heap.size (w.heap.size + 1) w1.heap.size V.heap.size (V.heap.size + 1) S.sb V2.heap.size va vc A C s o ((s.length : Int) - (C : Int)) ed hrise (by omega) (fun t ht => by have := (hoa t ht).1; omega) (by omega) (by omega) (by omega)
    (by omega) (by omega) (by omega) (by omega) (by omega) (by omega) HgW.out (by omega) (by omega) (by omega) (by omega) (fun g off h1 => by have := HgW.out g off h1; omega)
  have hFs : F.text.size = ed.length := by rw [hFtext]; simp [ByteArray.size]
  have hcut := cut_keep W.heap.size V2 F 60 #[.pointer (some ⟨w1.heap.size, 0, none⟩), .pointer (some ⟨w.heap.size + 1, 0, none⟩), .pointer (some ⟨w.heap.size, 0, none⟩), .pointer (some ⟨V.heap.size, 0, none⟩), .pointer (some ⟨V.heap.size + 1, 0, none⟩)] _ _ _ _ hEn hI
    (by rw [hFs]; omega) (by rw [hFs, hFat, ← Hah.out]; have := endOf_ahead o A; omega) (fun k hk => by subst hk; exact ⟨l12, hI.scan.not_own k12 (by simp)⟩)
    20000 (fun p hp _ => by rw [hFs] at hp; omega) (by rw [hFtoks, List.length_take]; omega) (by rw [hFcoms]; simp)
  rw [hFsb] at hcut
  have Hcut := Lib.hid hcut
  have HI := Lib.hid hI
  have K12 := Lib.hid k12
  have HF2 := Lib.hid hF
  have hdd : ((s.length : Int) - (C : Int)) = ((s.length : Int) - (C : Int)) := rfl
  clear hcut hEn hI k11 k12 hdd
  go_wp2_with fail
  rw [← hV2]
  refine Hcut.out.mono ?_
  rintro e w7 ⟨S', hsc, hfr, hm⟩
  have hX2 : Lx.recut o ed A C s.length = ⟨o.take r ++ (Lx.cutE (Lx.again o ((s.length : Int) - (C : Int)) (A + s.length)) F.at_ F.rest).2.toks ++
      (if (Lx.cutE (Lx.again o ((s.length : Int) - (C : Int)) (A + s.length)) F.at_ F.rest).1 < ed.length then (Lx.fromOn o ((s.length : Int) - (C : Int)) (Lx.cutE (Lx.again o ((s.length : Int) - (C : Int)) (A + s.length)) F.at_ F.rest).1).map (Lx.Tok.byI ((s.length : Int) - (C : Int))) else []), [],
      (Lx.cutE (Lx.again o ((s.length : Int) - (C : Int)) (A + s.length)) F.at_ F.rest).2.bad⟩ := by
    have hrest : F.rest = ed.drop (Lx.endOf 0 (o.take r)) := by
      unfold Scn.rest
      rw [hFtext, hFat]
    rw [hrest, hFat]
    unfold Lx.recut
    rw [Hah.out]
  have hXb := Lx.cutE_cuts (Lx.again o ((s.length : Int) - (C : Int)) (A + s.length)) F.rest.length F.at_ F.rest (Nat.le_refl _)
  generalize Lx.cutE (Lx.again o ((s.length : Int) - (C : Int)) (A + s.length)) F.at_ F.rest = X at *
  have nB : ∀ k, k < W.heap.size → ¬ S'.own k := fun k hk ho => by have := (hsc.own_tag ho).1; omega
  have hw7 : Below w.heap.size w w7 := by
    have h1 : Below W.heap.size W V2 := bV.trans (tV2.below (B := W.heap.size) bV.size (fun _ hf => hf.elim))
    have h2 : Below W.heap.size W w7 := h1.trans (hfr.turned.below (B := W.heap.size) h1.size (fun k hk => by
      rcases hk with hk | hk
      · exact (HF2.out.own_tag hk).1
      · omega))
    exact BW.out.trans (h2.mono BW.out.size)
  cases hbad : X.2.bad with
  | some q =>
    rw [hbad] at hm hX2
    obtain ⟨rfl, V0, S0, hI0, hsb0, tV0⟩ := hm
    have hno : ∀ b, (¬ S0.own b) → b < V2.heap.size → ¬ (S0.own b ∨ V2.heap.size ≤ b) := fun b h1 h2 h3 => by rcases h3 with h3 | h3; exact h1 h3; omega
    have q4 := (tV0.block _ (lt_of_block hI0.kept.h4) (hno _ (hI0.scan.not_own hI0.kept.h4 (by simp)) (by omega))).trans hI0.kept.h4
    have q9 := (tV0.block _ (lt_of_block hI0.h9) (hno _ (hI0.scan.not_own hI0.h9 (by simp)) (by omega))).trans hI0.h9
    have q12 := (tV0.block _ (lt_of_block hI0.h12) (hno _ (hI0.scan.not_own hI0.h12 (by simp)) (by omega))).trans hI0.h12
    have d4 : w7.cell? ⟨w.heap.size, 0, none⟩ = some (.slice va o.length vc) := by simp [World.cell?, q4]
    have d9 : w7.cell? ⟨w1.heap.size, 0, none⟩ = some (.pointer (some ⟨S.sb, 0, none⟩)) := by simp [World.cell?, q9]
    have d12 : w7.cell? ⟨V.heap.size + 1, 0, none⟩ = some (.int .i64 o.length) := by simp [World.cell?, q12]
    have hpost : TokPost w.heap.size ⟨ed.toArray⟩ (.returned (.tuple #[.slice none 0 0, .int .i64 q, .int .i64 10])) w7 := by
      have hb2 := Hrec.out.1
      rw [hX2] at hb2
      unfold TokPost
      rw [show (⟨ed.toArray⟩ : ByteArray).size = ed.length by simp [ByteArray.size], if_neg (by omega), show (⟨ed.toArray⟩ : ByteArray).data.toList = ed from rfl, ← hb2]
    have Hpost := Lib.hid hpost
    have Hw7 := Lib.hid hw7
    have hci : (o.length : Int) ≤ (vc : Int) := by omega
    clear hpost hX2 hXb hI0 hsb0 tV0 hno q4 q9 q12 nB hw7 hbad hfr hF hkV hFsb hFtext hFtoks hFat hFcoms hFs hV2 tV2
    by_cases hnv : o.length = vc
    · subst hnv
      go_wp2_with fail
      go_loopw [68] (fun i wr => i = .int .i64 0 ∧ wr = w7) (fun _ _ => 0)
      case atStart => exact ⟨rfl, rfl⟩
      case round =>
        obtain ⟨rfl, rfl⟩ := hrel
        go_wp2_with fail
        refine (result_bad S.sb _ q).mono ?_
        rintro e w8 ⟨rfl, rfl⟩
        go_wp2
        go_ret3
        exact ⟨Hpost.out, Hw7.out⟩
    · obtain ⟨g, off, rfl⟩ := hva (by omega)
      have hci2 : (o.length : Int) < (vc : Int) := by omega
      go_wp2_with fail
      go_loopw [68] (fun i wr => i = .int .i64 0 ∧ wr = w7) (fun _ _ => 0)
      case atStart => exact ⟨rfl, rfl⟩
      case round =>
        obtain ⟨rfl, rfl⟩ := hrel
        go_wp2_with fail
        refine (result_bad S.sb _ q).mono ?_
        rintro e w8 ⟨rfl, rfl⟩
        go_wp2
        go_ret3
        exact ⟨Hpost.out, Hw7.out⟩
  | none =>
    rw [hbad] at hm hX2
    obtain ⟨rfl, htx, hat, htk, hcm, hJ, hIe⟩ := hm
    have hFl : F.rest.length = ed.length - F.at_ := by
      unfold Scn.rest
      rw [hFtext, List.length_drop]
    have hFa : F.at_ ≤ ed.length := by rw [hFat, ← Hah.out]; have := endOf_ahead o A; omega
    have hX1 : X.1 ≤ ed.length := by
      have := (hXb.2 hbad).2.1
      omega
    have htail : ∃ r2, r2 ≤ o.length ∧ RecI W.heap.size w.heap.size (w.heap.size + 1) w1.heap.size V.heap.size (V.heap.size + 1) S.sb va vc A C s o ((s.length : Int) - (C : Int)) ed r2 w7 S' ∧
        (if X.1 < ed.length then (Lx.fromOn o ((s.length : Int) - (C : Int)) X.1).map (Lx.Tok.byI ((s.length : Int) - (C : Int))) else []) = (o.drop r2).map (Lx.Tok.byI ((s.length : Int) - (C : Int))) ∧
        (∀ (j : Nat) (t : Lx.Tok), r2 ≤ j → o[j]? = some t → 0 ≤ (t.at_ : Int) + ((s.length : Int) - (C : Int))) := by
      by_cases hlt : X.1 < ed.length
      · obtain ⟨r2, h1, h2, h3⟩ := hJ (by rw [hFs, hat]; exact hlt)
        rw [hat] at h3
        exact ⟨r2, h2, h1, by rw [if_pos hlt, h3], fun j t hj ht => by have := from_ge hrise _ _ _ h3 j t hj ht; omega⟩
      · exact ⟨o.length, Nat.le_refl _, hIe (by rw [hFs, hat]; omega), by rw [if_neg hlt, List.drop_length]; rfl, fun j t hj ht => by have := (List.getElem?_eq_some_iff.1 ht).1; omega⟩
    obtain ⟨r2, hr2, hR, hdrop, hpos⟩ := htail
    have hall : S'.toks ++ (o.drop r2).map (Lx.Tok.byI ((s.length : Int) - (C : Int))) = (Lx.toks ed).toks ∧ (Lx.toks ed).bad = none := by
      have h1 := Hrec.out
      rw [hX2] at h1
      simp only at h1
      have h2 := h1.2 h1.1.symm
      rw [hdrop] at h2
      rw [htk, hFtoks]
      exact ⟨h2, h1.1.symm⟩
    have hpost : ∀ (V' : World) (S2 : Scn), Scan W.heap.size V' S2 → S2.toks = (Lx.toks ed).toks → TokPost w.heap.size ⟨ed.toArray⟩ (.returned (.tuple #[S2.tv, .int .i64 0, .int .i64 0])) V' := by
      intro V' S2 h1 h2
      have hc := cuts_count ed.length 0 ed (Nat.le_refl _)
      have hc2 : (Lx.toks ed).toks.length ≤ 20000 := Nat.le_trans hc hedl
      unfold TokPost
      rw [show (⟨ed.toArray⟩ : ByteArray).size = ed.length by simp [ByteArray.size], if_neg (by omega), show (⟨ed.toArray⟩ : ByteArray).data.toList = ed from rfl, hall.2]
      simp only
      rw [if_neg (by omega), ← h2]
      exact ⟨_, rfl, owns_base h1.toks BW.out.size⟩
    have hlen : (S'.toks ++ (o.drop r2).map (Lx.Tok.byI ((s.length : Int) - (C : Int)))).length ≤ 20000 := by
      rw [hall.1]
      exact Nat.le_trans (cuts_count ed.length 0 ed (Nat.le_refl _)) hedl
    have hdb : -20000 ≤ (s.length : Int) - (C : Int) ∧ (s.length : Int) - (C : Int) ≤ 20000 := by omega
    have Hall := Lib.hid hall.1
    have Hpost := Lib.hid hpost
    have Hpos := Lib.hid hpos
    have Hw7 := Lib.hid hw7
    have HR := Lib.hid hR
    have Hoa := Lib.hid hoa
    have Hrise := Lib.hid hrise
    have d4 : w7.cell? ⟨w.heap.size, 0, none⟩ = some (.slice va o.length vc) := by simp [World.cell?, hR.kept.h4]
    have d9 : w7.cell? ⟨w1.heap.size, 0, none⟩ = some (.pointer (some ⟨S.sb, 0, none⟩)) := by simp [World.cell?, hR.h9]
    have d12 : w7.cell? ⟨V.heap.size + 1, 0, none⟩ = some (.int .i64 r2) := by simp [World.cell?, hR.h12]
    clear hall hpost hpos hX2 hXb hJ hIe htk hcm hat htx nB hw7 hbad hfr hF hkV hFsb hFtext hFtoks hFat hFcoms hFs hFl hFa hX1 hV2 tV2 hdrop hR hoa hrise HI HF2 Hcut HF
    generalize ((s.length : Int) - (C : Int)) = d at *
    have hci : (r2 : Int) ≤ (vc : Int) := by omega
    have hci3 : (r2 : Int) ≤ (o.length : Int) := by omega
    by_cases hnv : r2 = vc
    · have hle : r2 = o.length := by omega
      subst hle
      subst hnv
      have hro := result_ok W.heap.size w7 S' HR.out.scan (by simp only [List.length_append] at hlen; omega)
      rw [HR.out.same] at hro
      have HRo := Lib.hid hro
      clear hro
      go_wp2_with fail
      go_loopw [68] (fun i wr => i = .int .i64 0 ∧ wr = w7) (fun _ _ => 0)
      case atStart => exact ⟨rfl, rfl⟩
      case round =>
        obtain ⟨rfl, rfl⟩ := hrel
        go_wp2_with fail
        refine HRo.out.mono ?_
        rintro e w8 ⟨rfl, rfl⟩
        go_wp2
        go_ret3
        exact ⟨Hpost.out _ S' HR.out.scan (by rw [← Hall.out, List.drop_length]; simp), Hw7.out⟩
    · obtain ⟨g, off, rfl⟩ := hva (by omega)
      have hci2 : (r2 : Int) < (vc : Int) := by omega
      go_wp2_with fail
      go_loopw [68] (fun i wr => ∃ (k : Nat) (v : Value), k ≤ o.length - r2 ∧ i = .int .i64 k ∧
        RecI W.heap.size w.heap.size (w.heap.size + 1) w1.heap.size V.heap.size (V.heap.size + 1) S.sb (some ⟨g, off, none⟩) vc A C s o d ed r2 wr { S' with tv := v, toks := S'.toks ++ ((o.drop r2).take k).map (Lx.Tok.byI d) } ∧ Below w.heap.size w wr) (fun i _ => o.length - r2 - (intOf i).toNat)
      case atStart => exact ⟨0, S'.tv, Nat.zero_le _, rfl, by simpa using HR.out, Hw7.out⟩
      case round =>
        obtain ⟨k, v, hk, rfl, hR, hB⟩ := hrel
        have hBs := hB.size
        have q9 : wr.cell? ⟨w1.heap.size, 0, none⟩ = some (.pointer (some ⟨S.sb, 0, none⟩)) := by simp [World.cell?, hR.h9]
        by_cases hlt : k < o.length - r2
        · have hki : (k : Int) < ((o.length - r2 : Nat) : Int) := by omega
          obtain ⟨x, hx⟩ : ∃ x, o[r2 + k]? = some x := ⟨_, List.getElem?_eq_getElem (by omega)⟩
          obtain ⟨g', off', hva', lg, hcell⟩ := hR.kept.row (r2 + k) x hx
          cases hva'
          have hxp := Hpos.out (r2 + k) x (by omega) hx
          have hxm := List.mem_of_getElem? hx
          have hxa := Hoa.out x hxm
          have htake : (o.drop r2).take (k + 1) = (o.drop r2).take k ++ [x] := by rw [List.take_add_one, List.getElem?_drop, hx]; rfl
          have hadd : off + (r2 + k) * 5 = off + r2 * 5 + k * 5 := by omega
          rw [hadd] at hcell
          obtain ⟨tk, tn, ts, ta, te⟩ := x
          simp only at hxp hxa
          have p0 : wr.cell? ⟨g, off + r2 * 5 + k * 5, none⟩ = some (.int .i64 tk) := hcell 0 _ rfl
          have p1 : wr.cell? ⟨g, off + r2 * 5 + k * 5 + 1, none⟩ = some (.int .i64 tn) := hcell 1 _ rfl
          have p2 : wr.cell? ⟨g, off + r2 * 5 + k * 5 + 2, none⟩ = some (.string ⟨ts.toArray⟩) := hcell 2 _ rfl
          have p3 : wr.cell? ⟨g, off + r2 * 5 + k * 5 + 3, none⟩ = some (.int .i64 ta) := hcell 3 _ rfl
          have p4 : wr.cell? ⟨g, off + r2 * 5 + k * 5 + 4, none⟩ = some (.int .i64 te) := hcell 4 _ rfl
          have q11 : wr.cell? ⟨V.heap.size, 0, none⟩ = some (.int .i64 d) := by simp [World.cell?, hR.h11]
          have lv11 := lt_of_block hR.h11
          have lv9 := lt_of_block hR.h9
          have hs1 : IntKind.i64.wrap ((ta : Int) + d) = (ta : Int) + d := IntWalk.i64_in _ (by omega)
          have hs2 : IntKind.i64.wrap ((te : Int) + d) = (te : Int) + d := IntWalk.i64_in _ (by omega)
          have HBk := Lib.hid hB
          have Htake := Lib.hid htake
          have Hx := Lib.hid hx
          obtain ⟨Sk, hSk⟩ : ∃ Sk : Scn, Sk = { S' with tv := v, toks := S'.toks ++ ((o.drop r2).take k).map (Lx.Tok.byI d) } := ⟨_, rfl⟩
          have hnk : Sk.toks.length ≤ 20000 := by
            rw [hSk]
            simp only [List.length_append, List.length_map, List.length_take, List.length_drop] at hlen ⊢
            omega
          rw [← hSk] at hR
          have HSk := Lib.hid hSk
          have HRk := Lib.hid hR
          clear hR hB htake hcell hadd hxm hx hSk
          go_wp2_with fail
          have hA := HRk.out.scan.alloc (.cells #[.int .i64 tk, .int .i64 tn, .string ⟨ts.toArray⟩, .int .i64 ((ta : Int) + d), .int .i64 ((te : Int) + d)] 48)
          have tU : Turned wr (wr.alloc (.cells #[.int .i64 tk, .int .i64 tn, .string ⟨ts.toArray⟩, .int .i64 ((ta : Int) + d), .int .i64 ((te : Int) + d)] 48)) (fun _ => False) := (Turned.refl wr _).alloc _
          have hX := heap_alloc_new wr (.cells #[.int .i64 tk, .int .i64 tn, .string ⟨ts.toArray⟩, .int .i64 ((ta : Int) + d), .int .i64 ((te : Int) + d)] 48)
          have hfr0 := HRk.out.scan.fresh
          generalize wr.alloc (.cells #[.int .i64 tk, .int .i64 tn, .string ⟨ts.toArray⟩, .int .i64 ((ta : Int) + d), .int .i64 ((te : Int) + d)] 48) = U at *
          generalize hHe : wr.heap.size = H at *
          have HHe := Lib.hid hHe
          clear hHe p0 p1 p2 p3 p4 q9 q11
          have hRU := HRk.out.quiet tU
          have q9 : U.cell? ⟨w1.heap.size, 0, none⟩ = some (.pointer (some ⟨Sk.sb, 0, none⟩)) := by simp [World.cell?, hRU.h9, HRk.out.same]
          have d6 := hA.c6
          have f6 := hA.frozenAt 6
          have hH : H < U.heap.size := lt_of_block hX
          have e0 : U.cell? ⟨H, 0, none⟩ = some (.int .i64 tk) := by simp [World.cell?, hX]
          have e1 : U.cell? ⟨H, 1, none⟩ = some (.int .i64 tn) := by simp [World.cell?, hX]
          have e2 : U.cell? ⟨H, 2, none⟩ = some (.string ⟨ts.toArray⟩) := by simp [World.cell?, hX]
          have e3 : U.cell? ⟨H, 3, none⟩ = some (.int .i64 ((ta : Int) + d)) := by simp [World.cell?, hX]
          have e4 : U.cell? ⟨H, 4, none⟩ = some (.int .i64 ((te : Int) + d)) := by simp [World.cell?, hX]
          have hown := hA.toks
          have hBH : W.heap.size ≤ U.heap.size := by have := hA.hB; have := hA.lt; omega
          have hmax : Sk.toks.length + 1 ≤ maxLen := by unfold maxLen; omega
          have hlS : Sk.sb < U.heap.size := hA.lt
          have l9U : w1.heap.size < U.heap.size := lt_of_block hRU.h9
          have hbsb : some Sk.sb ≠ Sk.tv.ownBlock := fun e => (hA.own_disj.1 _ e.symm).1 rfl
          have hb9 : some w1.heap.size ≠ Sk.tv.ownBlock := fun e => hA.not_own hRU.h9 (by simp) (.inr (.inl e.symm))
          have HA := Lib.hid hA
          have HRU := Lib.hid hRU
          have HU := Lib.hid tU
          have hfin : ∀ (wn : World) (gg cap : Nat), wn.ownsRow W.heap.size 48 5 (.slice (some ⟨gg, 0, none⟩) (Sk.toks.length + 1) cap) (Sk.toks.length + 1) (Sk.toks.flatMap tokCells ++ [.int .i64 tk, .int .i64 tn, .string ⟨ts.toArray⟩, .int .i64 ((ta : Int) + d), .int .i64 ((te : Int) + d)]) →
              Turned U wn (fun j => Sk.tv.ownBlock = some j) →
              RecI W.heap.size w.heap.size (w.heap.size + 1) w1.heap.size V.heap.size (V.heap.size + 1) S.sb (some ⟨g, off, none⟩) vc A C s o d ed r2 (wn.setCell ⟨Sk.sb, 6, none⟩ (.slice (some ⟨gg, 0, none⟩) (Sk.toks.length + 1) cap)) { S' with tv := .slice (some ⟨gg, 0, none⟩) (Sk.toks.length + 1) cap, toks := S'.toks ++ ((o.drop r2).take (k + 1)).map (Lx.Tok.byI d) } ∧
              Below w.heap.size w (wn.setCell ⟨Sk.sb, 6, none⟩ (.slice (some ⟨gg, 0, none⟩) (Sk.toks.length + 1) cap)) := by
            intro wn gg cap h1 t1
            have hlist : (Sk.toks ++ [Lx.Tok.byI d ⟨tk, tn, ts, ta, te⟩]).flatMap tokCells = Sk.toks.flatMap tokCells ++ [.int .i64 tk, .int .i64 tn, .string ⟨ts.toArray⟩, .int .i64 ((ta : Int) + d), .int .i64 ((te : Int) + d)] := by
              have e3 : (((ta : Int) + d).toNat : Int) = (ta : Int) + d := Int.toNat_of_nonneg (by omega)
              have e4 : (((te : Int) + d).toNat : Int) = (te : Int) + d := Int.toNat_of_nonneg (by omega)
              simp [List.flatMap_append, tokCells, str, Lx.Tok.byI, e3, e4]
            have hs := HA.out.appendToks t1 (.slice (some ⟨gg, 0, none⟩) (Sk.toks.length + 1) cap) (Sk.toks ++ [Lx.Tok.byI d ⟨tk, tn, ts, ta, te⟩]) (by rw [hlist, List.length_append]; exact h1)
            have t2 : Turned U (wn.setCell ⟨Sk.sb, 6, none⟩ (.slice (some ⟨gg, 0, none⟩) (Sk.toks.length + 1) cap)) (fun j => Sk.own j) := (t1.mono (fun j _ hj => .inr (.inl hj))).setCell (p := ⟨Sk.sb, 6, none⟩) (fun _ => .inl rfl) _
            have e : ({ S' with tv := .slice (some ⟨gg, 0, none⟩) (Sk.toks.length + 1) cap, toks := S'.toks ++ ((o.drop r2).take (k + 1)).map (Lx.Tok.byI d) } : Scn) = { Sk with tv := .slice (some ⟨gg, 0, none⟩) (Sk.toks.length + 1) cap, toks := Sk.toks ++ [Lx.Tok.byI d ⟨tk, tn, ts, ta, te⟩] } := by
              rw [Htake.out, HSk.out]
              simp [List.map_append, List.append_assoc]
            rw [e]
            refine ⟨HRU.out.moved hs rfl rfl t2 (HRU.out.scan.not_own HRU.out.kept.h4 (by simp)) (HRU.out.scan.not_own HRU.out.kept.h5 (by simp)) (HRU.out.scan.not_own HRU.out.h9 (by simp)) (HRU.out.scan.not_own HRU.out.h11 (by simp)) (HRU.out.scan.not_own HRU.out.h12 (by simp))
              (fun g1 off1 e1 hj => by have := HgW.out g1 off1 e1; have := (HRU.out.scan.own_tag hj).1; omega), ?_⟩
            exact HBk.out.trans (((HU.out.mono (E := fun j => Sk.own j) (fun _ _ hf => hf.elim)).trans t2 (fun _ _ h => h)).below (B := w.heap.size) (by have := HHe.out; omega) (fun j hj => by have := (HRU.out.scan.own_tag hj).1; omega))
          have Hfin := Lib.hid hfin
          clear hX hA hRU tU hfr0 hfin
          go_region_law
            ((refine step_append_lies _ (by rfl) _ _ _ (by rfl) W.heap.size 48 i0 _ 5 48 Tryd.underlying24 hi0 hz0 hz1 hz2 rfl (by omega) Sk.tv Sk.toks.length _ (by rfl) ((hown.alloc _).drew)
                ⟨U.heap.size, 0, none⟩ 1 1 [.int .i64 tk, .int .i64 tn, .string ⟨ts.toArray⟩, .int .i64 ((ta : Int) + d), .int .i64 ((te : Int) + d)] (by rfl) (by rfl) (World.news_of_block (cs := #[.int .i64 tk, .int .i64 tn, .string ⟨ts.toArray⟩, .int .i64 ((ta : Int) + d), .int .i64 ((te : Int) + d)]) (t := 48) (fr := (0, 0)) (heap_alloc_new U _)) (by simp [Value.oneCell'])
                (by omega) hmax (by omega) (by simp; omega) (U.heap.size + 1) (by simp) ?_; intro gg cap wn hown1 hgrow hat hlt; have f6' : wn.frozen? ⟨Sk.sb, 6, none⟩ = false := (hgrow.frozen_far _ (by simp; omega) hbsb).trans ((frozen_past hlS).trans f6); have c6' : wn.cell? ⟨Sk.sb, 6, none⟩ = some Sk.tv := (hgrow.cell_far _ (by simp; omega) hbsb).trans ((cell_past hlS).trans d6); have c9' : wn.cell? ⟨w1.heap.size, 0, none⟩ = some (.pointer (some ⟨Sk.sb, 0, none⟩)) := (hgrow.cell_far _ (by simp; omega) hb9).trans ((cell_past l9U).trans q9)))
          all_goals
            go_wp2
            have t1 : Turned U wn (fun j => Sk.tv.ownBlock = some j) := Turned.grown (((Turned.refl U _).alloc _).drew) hgrow (fun j _ hj => hj)
            obtain ⟨f1, f2⟩ := Hfin.out wn gg cap hown1 t1
            exact ⟨⟨k + 1, _, by omega, by go_num, f1, f2⟩, by simp [intOf]; omega⟩
        · have hke : k = o.length - r2 := by omega
          have hki : ¬ (k : Int) < ((o.length - r2 : Nat) : Int) := by omega
          have htk : S'.toks ++ ((o.drop r2).take k).map (Lx.Tok.byI d) = (Lx.toks ed).toks := by
            rw [List.take_of_length_le (by rw [List.length_drop]; omega)]
            exact Hall.out
          have hro := result_ok W.heap.size wr _ hR.scan (by
            show (S'.toks ++ ((o.drop r2).take k).map (Lx.Tok.byI d)).length ≤ 20000
            rw [htk, ← Hall.out]; exact hlen)
          rw [hR.same] at hro
          have HRo := Lib.hid hro
          have HRk := Lib.hid hR
          have HBk := Lib.hid hB
          have Htk := Lib.hid htk
          clear hro hR hB htk
          go_wp2_with fail
          refine HRo.out.mono ?_
          rintro e w8 ⟨rfl, rfl⟩
          go_wp2
          go_ret3
          exact ⟨Hpost.out _ _ HRk.out.scan Htk.out, HBk.out⟩
end Go.Proofs.YtinogdeolnldhaaDoor

namespace Go.Proofs.YtinogdeolnldhaaDoor
open Go.RowKit

/-- Whether an edit fits into a text of n bytes. -/
def withinB (a c n : Int) : Bool := decide (0 ≤ a ∧ 0 ≤ c ∧ a ≤ n ∧ c ≤ n - a)

set_option maxRecDepth 100000 in
set_option maxHeartbeats 800000 in
theorem isWithin_any (a c n : Int) (s : ByteArray) (hn : 0 ≤ n ∧ n ≤ 1000000000000) (w : World) :
    Calls Tryd.prog 32 #[.agg #[.int .i64 a, .int .i64 c, .string s], .int .i64 n] w fun e w' => e = .returned (.bool (withinB a c n)) ∧ Turned w w' (fun _ => False) := by
  have hfin : ∀ (v : Bool), v = withinB a c n → (Ending.returned (.bool v) = Ending.returned (.bool (withinB a c n)) ∧ Turned w (w.alloc (.cells #[.int .i64 a, .int .i64 c, .string s] 31)) (fun _ => False)) :=
    fun v hv => ⟨by rw [hv], (Turned.refl w _).alloc _⟩
  have Hfin := Lib.hid hfin
  clear hfin
  by_cases h1 : 0 ≤ a
  · by_cases h2 : 0 ≤ c
    · by_cases h3 : a ≤ n
      · have hs : IntKind.i64.wrap (n - a) = n - a := IntWalk.i64_in _ (by omega)
        by_cases h4 : c ≤ n - a
        · have e : true = withinB a c n := (decide_eq_true (p := 0 ≤ a ∧ 0 ≤ c ∧ a ≤ n ∧ c ≤ n - a) ⟨h1, h2, h3, h4⟩).symm
          have E := Lib.hid (Hfin.out true e)
          clear e
          go_enter Tryd.func32, Tryd.ntmps32
          go_wp2
          go_ret
          exact E.out
        · have e : false = withinB a c n := (decide_eq_false (p := 0 ≤ a ∧ 0 ≤ c ∧ a ≤ n ∧ c ≤ n - a) (fun h => h4 h.2.2.2)).symm
          have E := Lib.hid (Hfin.out false e)
          clear e
          go_enter Tryd.func32, Tryd.ntmps32
          go_wp2
          go_ret
          exact E.out
      · have e : false = withinB a c n := (decide_eq_false (p := 0 ≤ a ∧ 0 ≤ c ∧ a ≤ n ∧ c ≤ n - a) (fun h => h3 h.2.2.1)).symm
        have E := Lib.hid (Hfin.out false e)
        clear e
        go_enter Tryd.func32, Tryd.ntmps32
        go_wp2
        go_ret
        exact E.out
    · have e : false = withinB a c n := (decide_eq_false (p := 0 ≤ a ∧ 0 ≤ c ∧ a ≤ n ∧ c ≤ n - a) (fun h => h2 h.2.1)).symm
      have E := Lib.hid (Hfin.out false e)
      clear e
      go_enter Tryd.func32, Tryd.ntmps32
      go_wp2
      go_ret
      exact E.out
  · have e : false = withinB a c n := (decide_eq_false (p := 0 ≤ a ∧ 0 ≤ c ∧ a ≤ n ∧ c ≤ n - a) (fun h => h1 h.1)).symm
    have E := Lib.hid (Hfin.out false e)
    clear e
    go_enter Tryd.func32, Tryd.ntmps32
    go_wp2
    go_ret
    exact E.out
end Go.Proofs.YtinogdeolnldhaaDoor
