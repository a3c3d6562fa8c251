/- LexBack: the walk. -/
import Derived.Test.YtbcmjinifilamaaGreatDoorRRight
import Derived.Test.YtbcmjinifilamaaGreatDoorLike
import Derived.Deep.QuietTactic
import Derived.BigQuiet
namespace Go.Proofs.YtbcmjinifilamaaGreatDoor
open Go.RowKit

theorem rem_in (z : Int) (n : Nat) (h0 : 0 < n) (hn : n ≤ 100000) : ∃ K : Nat, K < n ∧ wrap64 ((IntKind.u64.wrap z).tmod (n : Int)) = (K : Int) := by
  have h0' : 0 ≤ IntKind.u64.wrap z := by rw [IntKind.wrap_u64]; omega
  have h1 : (IntKind.u64.wrap z).tmod (n : Int) = IntKind.u64.wrap z % (n : Int) := Int.tmod_eq_emod_of_nonneg h0'
  have h2 := Int.emod_nonneg (IntKind.u64.wrap z) (show (n : Int) ≠ 0 by omega)
  have h3 := Int.emod_lt_of_pos (IntKind.u64.wrap z) (show 0 < (n : Int) by omega)
  rw [h1]
  generalize IntKind.u64.wrap z % (n : Int) = r at *
  refine ⟨r.toNat, by omega, ?_⟩
  unfold wrap64
  omega

theorem speltA_snoc (l : List ATok) (k : Nat) (h : k < l.length) : speltA (l.take (k + 1)) = speltA (l.take k) + (spell l[k]).length := by
  unfold speltA
  rw [List.take_succ_eq_append_getElem h, List.map_append, List.sum_append]
  simp

theorem speltA_le : ∀ (l : List ATok), (∀ a ∈ l, rightB a = true) → speltA l ≤ 32 * l.length ∧ l.length ≤ speltA l
  | [], _ => by simp [speltA]
  | a :: l, h => by
    have ih := speltA_le l (fun x hx => h x (List.mem_cons_of_mem _ hx))
    have ha := h a List.mem_cons_self
    have h1 := rightB_len ha
    obtain ⟨hp, hr⟩ := right_plain ha
    have h2 := Lx.right_pos hr
    rw [← plain_spell hp] at h2
    have e : speltA (a :: l) = (spell a).length + speltA l := by simp [speltA]
    rw [e, List.length_cons]
    omega

theorem joinV_err {l : List ATok} (h : l.all rightB = false) : joinV l = .tuple #[.string ⟨#[]⟩, .int .i64 1] := by
  unfold joinV
  rw [if_pos h]

theorem joinV_ok {l : List ATok} (h : l.all rightB = true) (h1 : l.length ≤ 20000) (h2 : (joinFrom l).length ≤ 100000) : joinV l = .tuple #[.string ⟨(joinFrom l).toArray⟩, .int .i64 0] := by
  unfold joinV
  rw [if_neg (by rw [h]; simp), if_neg (by omega), if_neg (by omega)]

set_option maxRecDepth 100000 in
set_option maxHeartbeats 3200000 in
theorem lexBack_any (w : World) (he : Env w) (h7 : 7 ≤ w.heap.size) (v : Value) (l : List ATok) (z : Int) (hv : RowOf w v l) (hw : ∀ t ∈ l, t.wide) (hs : ∀ t ∈ l, t.s.length ≤ 140737488351232) (hln : l.length ≤ 9223372036854775807) :
    Calls Tryz.prog 6 #[v, .int .i64 z] w fun e w' => e = .returned (.bool true) ∧ Below w.heap.size w w' := by
  have H7 := Lib.hid h7
  have hE : ∀ W, Below w.heap.size w W → Env W ∧ 7 ≤ W.heap.size := fun W hW => ⟨he.below hW h7, Nat.le_trans h7 hW.size⟩
  have hV : ∀ W, Below w.heap.size w W → RowOf W v l := fun W hW => hv.turned (Turned.ofBelow hW (D := fun _ => False) (fun k hk hle => by omega)) (fun _ _ _ _ hf => hf)
  have hFew := fun W (hW : Below w.heap.size w W) => few_any v l W (hV W hW) hs hln
  have HFew := Lib.hid hFew
  have hv2 := hv
  obtain ⟨va, vc, hve, -⟩ := hv2
  clear h7 hFew
  cases hfew : fewB l with
  | false =>
    have Hfew := Lib.hid hfew
    clear hfew hV hE hv hw hs
    subst hve
    go_enter Tryz.func6, Tryz.ntmps6
    go_wp2_with fail
    refine (sane_any w he H7.out).mono ?_
    rintro e w1 ⟨rfl, b1⟩
    go_wp2_with fail
    refine (HFew.out _ b1).mono ?_
    rintro e w2 ⟨rfl, t2⟩
    rw [Hfew.out]
    have b2 := b1.trans (t2.below (B := w.heap.size) b1.size (fun _ hf => hf.elim))
    go_wp2
    go_ret
    exact ⟨rfl, b2⟩
  | true =>
    have hl2 : l.length ≤ 2000 := by
      unfold fewB at hfew
      simp only [Bool.and_eq_true, decide_eq_true_eq] at hfew
      exact hfew.1
    have Hfew := Lib.hid hfew
    have hJ := fun W (hW : Below w.heap.size w W) => join_any W (hE W hW).1 (hE W hW).2 v l (hV W hW) hw (by omega)
    have hRs := fun W (hW : Below w.heap.size w W) => rights_any v l W (hE W hW).1 (hE W hW).2 (hV W hW) hw (by omega)
    clear hfew hs
    cases hall : l.all rightB with
    | false =>
      rw [joinV_err hall] at hJ
      rw [hall] at hRs
      have HJ := Lib.hid hJ
      have HRs := Lib.hid hRs
      clear hJ hRs hall hV hE hv hw
      subst hve
      go_enter Tryz.func6, Tryz.ntmps6
      go_wp2_with fail
      refine (sane_any w he H7.out).mono ?_
      rintro e w1 ⟨rfl, b1⟩
      go_wp2_with fail
      refine (HFew.out _ b1).mono ?_
      rintro e w2 ⟨rfl, t2⟩
      rw [Hfew.out]
      have b2 := b1.trans (t2.below (B := w.heap.size) b1.size (fun _ hf => hf.elim))
      clear b1 t2
      go_wp2_with fail
      refine (HJ.out _ b2).mono ?_
      rintro e w3 ⟨rfl, b3⟩
      have b3' := b2.trans (b3.mono b2.size)
      clear b2 b3
      go_wp2_with fail
      refine (HRs.out _ b3').mono ?_
      rintro e w4 ⟨rfl, t4⟩
      have b4 := b3'.trans (t4.below (B := w.heap.size) b3'.size (fun _ hf => hf.elim))
      go_wp2
      go_ret
      exact ⟨rfl, b4⟩
    | true =>
      obtain ⟨hb, hlike, hlo, hhi, hcut⟩ := back_law l hall
      obtain ⟨hsp1, hsp2⟩ := speltA_le l (List.all_eq_true.1 hall)
      have hXl : (joinFrom l).length ≤ 70000 := by omega
      rw [joinV_ok hall (by omega) (by omega)] at hJ
      have hcnt : (Lx.toks (joinFrom l)).toks.length = l.length := by
        have := congrArg List.length ((likeB_iff _ _).1 hlike)
        simpa using this.symm
      have hT := fun W (hW : Below w.heap.size w W) => tokens_fine w W he H7.out hW (joinFrom l) (by omega) hb (by omega)
      have hLk := fun W (hW : Below w.heap.size w W) (va2 : Option Addr) (vc2 : Nat) (ho : RowOf W (.slice va2 l.length vc2) ((Lx.toks (joinFrom l)).toks.map ofTok)) =>
        like_all v (.slice va2 l.length vc2) l ((Lx.toks (joinFrom l)).toks.map ofTok) W (hV W hW) ho (by omega) (by rw [List.length_map]; omega)
      rw [hcnt] at hT
      rw [hlike] at hLk
      have hTx := fun (t : ATok) (ht : t ∈ l) W (hW : Below w.heap.size w W) => text_any t W (hE W hW).1 (hE W hW).2 (hw t ht)
      have htake : ∀ k, speltA (l.take k) ≤ speltA l := by
        intro k
        have : speltA l = speltA (l.take k) + speltA (l.drop k) := by
          unfold speltA
          rw [← List.sum_append, ← List.map_append, List.take_append_drop]
        omega
      have HJ := Lib.hid hJ
      have HT := Lib.hid hT
      have Hcnt := Lib.hid hcnt
      have HLk := Lib.hid hLk
      have HTx := Lib.hid hTx
      have HV := Lib.hid hV
      have Htake := Lib.hid htake
      have Hcut := Lib.hid hcut
      have Hall := Lib.hid hall
      clear hJ hT hLk hTx hRs hV hE hv hw htake hcut hall hb hlike hcnt
      subst hve
      generalize joinFrom l = X at *
      go_enter Tryz.func6, Tryz.ntmps6
      go_wp2_with fail
      refine (sane_any w he H7.out).mono ?_
      rintro e w1 ⟨rfl, b1⟩
      go_wp2_with fail
      refine (HFew.out _ b1).mono ?_
      rintro e w2 ⟨rfl, t2⟩
      rw [Hfew.out]
      have b2 := b1.trans (t2.below (B := w.heap.size) b1.size (fun _ hf => hf.elim))
      clear b1 t2
      go_wp2_with fail
      refine (HJ.out _ b2).mono ?_
      rintro e w3 ⟨rfl, b3⟩
      have b3' := b2.trans (b3.mono b2.size)
      clear b2 b3
      go_wp2_with fail
      refine (HT.out _ b3').mono ?_
      rintro e w4 ⟨va4, vc4, rfl, ho4, b4, -⟩
      have r4 := rowOf_owns (l := (Lx.toks X).toks.map ofTok) (v := .slice va4 l.length vc4) (by rw [flat_ofTok, List.length_map, Hcnt.out]; exact ho4)
      clear b3' ho4
      go_wp2_with fail
      refine (HLk.out _ b4 va4 vc4 r4).mono ?_
      rintro e w5 ⟨rfl, t5⟩
      have b5 := b4.trans (t5.below (B := w.heap.size) b4.size (fun _ hf => hf.elim))
      have B5 := Lib.hid b5
      have V5 := Lib.hid (HV.out _ b5)
      clear b4 r4 t5 b5
      go_wp2_with fail
      go_loopw [9, 49] (fun m i wr => ∃ k : Nat, k ≤ l.length ∧ i = .int .i64 k ∧ m = .int .i64 (speltA (l.take k) : Nat) ∧ Turned w5 wr (fun _ => False)) (fun _ i _ => l.length - (intOf i).toNat)
      case atStart => exact ⟨0, Nat.zero_le _, rfl, rfl, Turned.refl _ _⟩
      case round =>
        obtain ⟨k, hk, rfl, rfl, ht⟩ := hrel
        by_cases hlt : k < l.length
        · have hki : (k : Int) < (l.length : Int) := by omega
          obtain ⟨g, off, rfl, lg, xc⟩ := rowA_at V5.out k hlt
          have h1 := speltA_snoc l k hlt
          have h2 := Htake.out (k + 1)
          have hc := HTx.out l[k] (List.getElem_mem hlt)
          rw [h1] at h2
          generalize speltA (l.take k) = M at *
          generalize l[k] = x at *
          obtain ⟨k1, n1, s1, a1, e1⟩ := x
          have hM : M + (spell ⟨k1, n1, s1, a1, e1⟩).length ≤ 64000 := by omega
          unfold ATok.val at hc
          simp only at hc
          have pa := fun (i : Nat) (u : Value) (hu : (ATok.cells ⟨k1, n1, s1, a1, e1⟩)[i]? = some u) => (ht.cell (p := ⟨g, off + k * 5 + i, none⟩) lg (fun hf => hf)).trans (xc i u hu)
          have p0 : wr.cell? ⟨g, off + k * 5, none⟩ = some (.int .i64 k1) := pa 0 _ rfl
          have p1 : wr.cell? ⟨g, off + k * 5 + 1, none⟩ = some (.int .i64 n1) := pa 1 _ rfl
          have p2 : wr.cell? ⟨g, off + k * 5 + 2, none⟩ = some (.string ⟨s1.toArray⟩) := pa 2 _ rfl
          have p3 : wr.cell? ⟨g, off + k * 5 + 3, none⟩ = some (.int .i64 a1) := pa 3 _ rfl
          have p4 : wr.cell? ⟨g, off + k * 5 + 4, none⟩ = some (.int .i64 e1) := pa 4 _ rfl
          have lg' : g < wr.heap.size := Nat.lt_of_lt_of_le lg ht.size
          have H1 := Lib.hid h1
          have Hc := Lib.hid hc
          have ta := ht.alloc (.cells #[.int .i64 k1, .int .i64 n1, .string ⟨s1.toArray⟩, .int .i64 a1, .int .i64 e1] 43)
          clear xc pa lg h1 h2 hc
          generalize spell ⟨k1, n1, s1, a1, e1⟩ = sx at *
          go_wp2_with fail
          refine (Hc.out _ (B5.out.trans (ta.below (B := w.heap.size) B5.out.size (fun _ hf => hf.elim)))).mono ?_
          rintro e w6 ⟨rfl, t6⟩
          have t7 := ta.trans t6 (fun _ _ hf => hf)
          go_wp2
          go_roundw
          case rel => exact ⟨k + 1, by omega, by go_num, by rw [H1.out]; go_num, t7⟩
          case measure => simp [intOf]; omega
        · obtain rfl : k = l.length := by omega
          have b6 := B5.out.trans (ht.below (B := w.heap.size) B5.out.size (fun _ hf => hf.elim))
          rw [List.take_of_length_le (Nat.le_refl _)]
          clear ht
          generalize speltA l = N at *
          have hA : ¬ X.length < N := by omega
          have hA2 : ¬ (X.length : Int) < (N : Int) := by omega
          have hB : (X.length : Int) ≤ (N : Int) + max ((l.length : Int) - 1) 0 := by omega
          clear Htake
          by_cases hX0 : X.length = 0
          · have hx0 : ((X.length : Int) == 0) = true := by rw [hX0]; rfl
            have hl0 : ((l.length : Int) == 0) = true := by rw [show l.length = 0 by omega]; rfl
            clear hX0 hhi hlo hsp1 hsp2
            go_wp2_with fail
            go_ret
            exact ⟨rfl, b6⟩
          · have hx0 : ((X.length : Int) == 0) = false := by
              rw [Bool.eq_false_iff]; intro h; apply hX0; have : (X.length : Int) = 0 := by simpa using h
              omega
            obtain ⟨K, hK, hKe⟩ := rem_in z X.length (by omega) (by omega)
            have hw1 : IntKind.u64.wrap (X.length : Int) = (X.length : Int) := IntWalk.u64_in _ (by omega)
            have hd := fun (w : World) => run_string_add_lists (P := Tryz.prog) w (X.take K) (X.drop (K + 1)) (by rw [List.length_take]; omega) (by rw [List.length_drop]; omega)
            have hcut := Hcut.out K hK
            have hUl : (X.take K ++ X.drop (K + 1)).length ≤ 70000 := by rw [List.length_append, List.length_take, List.length_drop]; omega
            have hex1 := ext_take X K
            have hex2 := ext_drop X (K + 1) X.length rfl
            have i0 : ((K : Nat) : Int) ≤ (X.length : Int) := by omega
            have i1 : ((K : Nat) : Int) + 1 ≤ (X.length : Int) := by omega
            have i2 : (0 : Int) ≤ ((K : Nat) : Int) + 1 := by omega
            have i3 : (((K : Nat) : Int) + 1).toNat = K + 1 := by omega
            have i4 : IntKind.i64.wrap (((K : Nat) : Int) + 1) = ((K : Nat) : Int) + 1 := IntWalk.i64_in _ (by omega)
            generalize X.take K ++ X.drop (K + 1) = U at *
            have Hcut2 := Lib.hid hcut
            clear hcut Hcut hX0 hhi hlo hsp1 hsp2
            go_wp2_with fail
            go_quiet (fail)
            have b7 := b6.trans (((Turned.refl wr (fun _ => False)).drewN nq).below (B := w.heap.size) b6.size (fun _ hf => hf.elim))
            have HVU := HV.out
            have hLU := fun W (hW : Below w.heap.size w W) (va2 : Option Addr) (vc2 : Nat) (hn : (Lx.toks U).toks.length ≤ 1000000) (ho : RowOf W (.slice va2 (Lx.toks U).toks.length vc2) ((Lx.toks U).toks.map ofTok)) =>
              like_all (.slice va l.length vc) (.slice va2 (Lx.toks U).toks.length vc2) l ((Lx.toks U).toks.map ofTok) W (HVU W hW) ho (by omega) (by rw [List.length_map]; exact hn)
            clear hd hex1 hex2 i0 i1 i2 i3 i4 hKe hw1 hx0 hA hA2 hB HVU
            cases hbU : (Lx.toks U).bad with
            | some q =>
              have hT := tokens_err w _ he H7.out b7 U (by omega) q hbU
              have HTU := Lib.hid hT
              clear hT hLU hbU
              go_wp2_with fail
              refine HTU.out.mono ?_
              rintro e w8 ⟨rfl, b8, -⟩
              go_wp2
              go_ret
              exact ⟨rfl, b8⟩
            | none =>
              by_cases hm : 20000 < (Lx.toks U).toks.length
              · have hT := tokens_many w _ he H7.out b7 U (by omega) hbU hm
                have HTU := Lib.hid hT
                clear hT hLU hbU hm
                go_wp2_with fail
                refine HTU.out.mono ?_
                rintro e w8 ⟨rfl, b8, -⟩
                go_wp2
                go_ret
                exact ⟨rfl, b8⟩
              · have hT := tokens_fine w _ he H7.out b7 U (by omega) hbU (by omega)
                have hno := Hcut2.out hbU
                rw [hno] at hLU
                have hn2 : (Lx.toks U).toks.length ≤ 1000000 := by omega
                have HTU := Lib.hid hT
                have HLU := Lib.hid hLU
                clear hT hLU hbU hm hno
                go_wp2_with fail
                refine HTU.out.mono ?_
                rintro e w8 ⟨va8, vc8, rfl, ho8, b8, -⟩
                have r8 := rowOf_owns (l := (Lx.toks U).toks.map ofTok) (v := .slice va8 (Lx.toks U).toks.length vc8) (by rw [flat_ofTok, List.length_map]; exact ho8)
                have HL8 := Lib.hid (HLU.out _ b8 va8 vc8 hn2 r8)
                clear ho8 r8 hn2
                go_wp2_with fail
                refine HL8.out.mono ?_
                rintro e w9 ⟨rfl, t9⟩
                have b9 := b8.trans (t9.below (B := w.heap.size) b8.size (fun _ hf => hf.elim))
                go_wp2
                go_ret
                exact ⟨rfl, b9⟩
end Go.Proofs.YtbcmjinifilamaaGreatDoor
