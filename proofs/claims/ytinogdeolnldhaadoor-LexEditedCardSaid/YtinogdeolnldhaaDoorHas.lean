/- A text's tokens, held against what they are to be. -/
import Derived.Test.YtinogdeolnldhaaDoorSane
namespace Go.Proofs.YtinogdeolnldhaaDoor
open Go.RowKit

set_option maxRecDepth 100000 in
set_option maxHeartbeats 1600000 in
theorem has_yes (l : Lx.Bytes) (n : Nat) (words : List Lx.Bytes) (ats : List Nat) (bw ba : Nat) (w : World) (he : Env w) (h7 : 7 ≤ w.heap.size) (hl : l.length ≤ 1000) (hbad : (Lx.toks l).bad = none)
    (hn : (Lx.toks l).toks.length = n) (hn2 : n ≤ 100) (hbw : bw < w.heap.size) (hba : ba < w.heap.size)
    (hcw : ∀ j, j < n → w.cell? ⟨bw, j, none⟩ = some (str (words.getD j [])))
    (hca : ∀ j, j < n → w.cell? ⟨ba, j, none⟩ = some (.int .i64 (ats.getD j 0 : Nat)))
    (hok : ∀ j t, (Lx.toks l).toks[j]? = some t → spell (ofTok t) = words.getD j [] ∧ t.at_ = ats.getD j 0 ∧ (ofTok t).wide) :
    Calls Tryd.prog 21 #[.string ⟨l.toArray⟩, .slice (some ⟨bw, 0, none⟩) n n, .slice (some ⟨ba, 0, none⟩) n n] w fun e w' => e = .returned (.bool true) ∧ Below w.heap.size w w' := by
  have el : (⟨l.toArray⟩ : ByteArray).data.toList = l := by simp
  have es : (⟨l.toArray⟩ : ByteArray).size = l.length := by simp [ByteArray.size]
  have hp0 : ∀ e w', TokPost w.heap.size ⟨l.toArray⟩ e w' → ∃ va vc, e = .returned (.tuple #[.slice va n vc, .int .i64 0, .int .i64 0]) ∧ w'.ownsRow w.heap.size 48 5 (.slice va n vc) n ((Lx.toks l).toks.flatMap tokCells) := by
    intro e w' hp
    unfold TokPost at hp
    rw [el, es, if_neg (by omega), hbad] at hp
    simp only at hp
    rw [if_neg (by omega)] at hp
    obtain ⟨tv, rfl, ho⟩ := hp
    rw [hn] at ho
    rcases ho.2 with ⟨h1, h2⟩ | ⟨g, cap, cur, h1, _⟩
    · subst h2
      rw [h1] at ho ⊢
      exact ⟨none, 0, rfl, ho⟩
    · rw [h1] at ho ⊢
      exact ⟨_, cap, rfl, ho⟩
  have Hp0 := Lib.hid hp0
  have HE := Lib.hid he
  have H7 := Lib.hid h7
  have Hcw := Lib.hid hcw
  have Hca := Lib.hid hca
  have Hok := Lib.hid hok
  have Hn := Lib.hid hn
  clear hp0 el es hcw hca hok hn hbad
  go_enter Tryd.func21, Tryd.ntmps21
  go_wp2_with fail
  refine (tokens_any w HE.out H7.out ⟨l.toArray⟩).mono ?_
  rintro e w1 ⟨hp, b1⟩
  obtain ⟨va, vc, rfl, hrow⟩ := Hp0.out e w1 hp
  have Hrow := Lib.hid hrow
  have B1 := b1.size
  clear hp hrow Hp0
  go_wp2_with fail
  go_loopw [36] (fun i wr => ∃ k : Nat, k ≤ n ∧ i = .int .i64 k ∧ Turned w1 wr (fun _ => False)) (fun i _ => n - (intOf i).toNat)
  case atStart => exact ⟨0, Nat.zero_le _, rfl, Turned.refl _ _⟩
  case round =>
    obtain ⟨k, hk, rfl, ht⟩ := hrel
    by_cases hlt : k < n
    · have hki : (k : Int) < (n : Int) := by omega
      have hlk : k < (Lx.toks l).toks.length := by rw [Hn.out]; exact hlt
      obtain ⟨h1, h2, h3⟩ := Hok.out k _ (List.getElem?_eq_getElem hlk)
      have hfl := fun i u hu => flatMap_at tokCells 5 (fun _ => rfl) (Lx.toks l).toks k _ (List.getElem?_eq_getElem hlk) i u hu
      have xw : wr.cell? ⟨bw, k, none⟩ = some (str (words.getD k [])) := (ht.cell (p := ⟨bw, k, none⟩) (Nat.lt_of_lt_of_le hbw B1) (fun hf => hf)).trans ((b1.cell (p := ⟨bw, k, none⟩) hbw).trans (Hcw.out k hlt))
      have xc : wr.cell? ⟨ba, k, none⟩ = some (.int .i64 (ats.getD k 0 : Nat)) := (ht.cell (p := ⟨ba, k, none⟩) (Nat.lt_of_lt_of_le hba B1) (fun hf => hf)).trans ((b1.cell (p := ⟨ba, k, none⟩) hba).trans (Hca.out k hlt))
      have lbw : bw < wr.heap.size := Nat.lt_of_lt_of_le hbw (Nat.le_trans B1 ht.size)
      have lba : ba < wr.heap.size := Nat.lt_of_lt_of_le hba (Nat.le_trans B1 ht.size)
      have heW : Env wr := (HE.out.below b1 H7.out).turned ht (Nat.le_trans H7.out B1) (fun _ hf => hf.elim)
      have h7W : 7 ≤ wr.heap.size := Nat.le_trans H7.out (Nat.le_trans B1 ht.size)
      have htx := fun V (hv : Turned wr V (fun _ => False)) => text_any (ofTok (Lx.toks l).toks[k]) V (heW.turned hv h7W (fun _ hf => hf.elim)) (Nat.le_trans h7W hv.size) h3
      rw [h1] at htx
      rw [← h2] at xc
      generalize (Lx.toks l).toks[k] = x at *
      obtain ⟨kd, m, s, a, e⟩ := x
      have hcell : ∃ g0, va = some ⟨g0, 0, none⟩ ∧ g0 < wr.heap.size ∧ ∀ i u, (tokCells ⟨kd, m, s, a, e⟩)[i]? = some u → wr.cell? ⟨g0, k * 5 + i, none⟩ = some u := by
        rcases Hrow.out.2 with ⟨h5, h6⟩ | ⟨g0, cap0, cur0, h5, _, hg, _⟩
        · omega
        · simp only [Value.slice.injEq] at h5
          have hob : (Value.slice va n vc).ownBlock = some g0 := by rw [h5.1]; rfl
          refine ⟨g0, h5.1, Nat.lt_of_lt_of_le (lt_of_block hg) ht.size, fun i u hu => ?_⟩
          have h7 := Hrow.out.cells hob (k * 5 + i) u (hfl i u hu)
          have e0 : ((⟨g0, 0, none⟩ : Addr).add (k * 5 + i)) = ⟨g0, k * 5 + i, none⟩ := by
            unfold Addr.add
            split
            · rename_i h0; rw [h0]
            · simp
          rw [e0] at h7
          exact (ht.cell (p := ⟨g0, k * 5 + i, none⟩) (lt_of_block hg) (fun hf => hf)).trans h7
      obtain ⟨g0, rfl, lg, hcc⟩ := hcell
      have p0 : wr.cell? ⟨g0, k * 5, none⟩ = some (.int .i64 kd) := hcc 0 _ rfl
      have p1 : wr.cell? ⟨g0, k * 5 + 1, none⟩ = some (.int .i64 m) := hcc 1 _ rfl
      have p2 : wr.cell? ⟨g0, k * 5 + 2, none⟩ = some (.string ⟨s.toArray⟩) := hcc 2 _ rfl
      have p3 : wr.cell? ⟨g0, k * 5 + 3, none⟩ = some (.int .i64 a) := hcc 3 _ rfl
      have p4 : wr.cell? ⟨g0, k * 5 + 4, none⟩ = some (.int .i64 e) := hcc 4 _ rfl
      unfold str at xw
      generalize words.getD k [] = sp at *
      have Htx := Lib.hid htx
      clear hcc hfl htx h1 h2 h3
      go_wp2_with fail
      have kA := heap_alloc_new wr (.cells #[.int .i64 kd, .int .i64 m, .string ⟨s.toArray⟩, .int .i64 a, .int .i64 e] 48)
      have tA : Turned wr (wr.alloc (.cells #[.int .i64 kd, .int .i64 m, .string ⟨s.toArray⟩, .int .i64 a, .int .i64 e] 48)) (fun _ => False) := (Turned.refl wr _).alloc _
      have yw := (tA.cell (p := ⟨bw, k, none⟩) lbw (fun hf => hf)).trans xw
      have yc := (tA.cell (p := ⟨ba, k, none⟩) lba (fun hf => hf)).trans xc
      have mbw := Nat.lt_of_lt_of_le lbw tA.size
      have mba := Nat.lt_of_lt_of_le lba tA.size
      generalize wr.alloc (.cells #[.int .i64 kd, .int .i64 m, .string ⟨s.toArray⟩, .int .i64 a, .int .i64 e] 48) = V at *
      clear p0 p1 p2 p3 p4 xw xc
      generalize wr.heap.size = Z at *
      have lZ := lt_of_block kA
      have Sof : ∀ w' : World, Turned V w' (fun _ => False) → (w'.cell? ⟨Z, 0, none⟩ = some (.int .i64 kd) ∧ w'.cell? ⟨Z, 1, none⟩ = some (.int .i64 m) ∧ w'.cell? ⟨Z, 2, none⟩ = some (.string ⟨s.toArray⟩) ∧ w'.cell? ⟨Z, 3, none⟩ = some (.int .i64 a) ∧ w'.cell? ⟨Z, 4, none⟩ = some (.int .i64 e) ∧
          w'.cell? ⟨bw, k, none⟩ = some (.string ⟨sp.toArray⟩) ∧ w'.cell? ⟨ba, k, none⟩ = some (.int .i64 a) ∧ Turned V w' (fun _ => False)) := by
        intro w' t
        have k1 := (t.block Z lZ (fun hf => hf)).trans kA
        refine ⟨?_, ?_, ?_, ?_, ?_, (t.cell (p := ⟨bw, k, none⟩) mbw (fun hf => hf)).trans yw, (t.cell (p := ⟨ba, k, none⟩) mba (fun hf => hf)).trans yc, t⟩ <;> simp [World.cell?, k1]
      have HSof := Lib.hid Sof
      have hFin : ∀ w' : World, Turned V w' (fun _ => False) → Turned w1 w' (fun _ => False) := fun w' t => (ht.trans tA (fun _ _ hf => hf)).trans t (fun _ _ hf => hf)
      have HFin := Lib.hid hFin
      have HA := Lib.hid tA
      have tt : Turned V V.drew (fun _ => False) := (Turned.refl V _).drew
      obtain ⟨p0, p1, p2, p3, p4, q0, q1, _⟩ := Sof V (Turned.refl _ _)
      clear Sof hFin kA yw yc ht tA heW
      go_region_held3 (fun w' => w'.cell? ⟨Z, 0, none⟩ = some (.int .i64 kd) ∧ w'.cell? ⟨Z, 1, none⟩ = some (.int .i64 m) ∧ w'.cell? ⟨Z, 2, none⟩ = some (.string ⟨s.toArray⟩) ∧ w'.cell? ⟨Z, 3, none⟩ = some (.int .i64 a) ∧ w'.cell? ⟨Z, 4, none⟩ = some (.int .i64 e) ∧
          w'.cell? ⟨bw, k, none⟩ = some (.string ⟨sp.toArray⟩) ∧ w'.cell? ⟨ba, k, none⟩ = some (.int .i64 a) ∧ Turned V w' (fun _ => False))
        ((go_split_ands; first | exact HSof.out _ (by assumption) | exact HSof.out _ (Turned.drew (by assumption)) | exact HSof.out _ (Turned.alloc (by assumption) _) | exact HSof.out _ (Turned.trans (by assumption) t1 (fun _ _ hf => hf.elim))))
        (first
          | (go_at_call 41; go_split_ands; refine (Htx.out _ (Turned.trans HA.out (by assumption) (fun _ _ hf => hf))).mono ?_; rintro e w1 ⟨rfl, t1⟩; (first | (replace tt := Turned.trans tt t1 (fun _ _ hf => hf)) | skip)))
      have T := HFin.out _ tt
      go_wp2
      go_roundw
      case rel => exact ⟨k + 1, by omega, by go_num, T⟩
      case measure => simp [intOf]; omega
    · have hkn : k = n := by omega
      subst hkn
      go_wp2
      go_ret
      exact ⟨rfl, b1.trans (ht.below B1 (fun _ hf => hf.elim))⟩
end Go.Proofs.YtinogdeolnldhaaDoor
