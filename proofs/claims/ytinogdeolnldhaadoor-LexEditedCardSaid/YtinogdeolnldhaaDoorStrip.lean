/- Strip. -/
import Derived.Test.YtinogdeolnldhaaDoorSpell
import Derived.Test.YtinogdeolnldhaaDoorPure
import Derived.Lib.ConvBytes
import Derived.Laws.BytesString
import Derived.Laws.Cells
namespace Go.Proofs.YtinogdeolnldhaaDoor
open Go.RowKit

theorem el_of (l : Lx.Bytes) : (⟨l.toArray⟩ : ByteArray).data.toList = l := by simp
theorem es_of (l : Lx.Bytes) : (⟨l.toArray⟩ : ByteArray).size = l.length := by simp [ByteArray.size]

/-- Block H holds these bytes, which can be written. -/
def BytesAt (w : World) (H : Nat) (l : Lx.Bytes) : Prop :=
  ∃ (C : Array Value) (z : Nat × Nat), w.heap[H]? = some (.cells C 5 z) ∧ l.length ≤ z.1 ∧ ∀ (j : Nat) (b : UInt8), l[j]? = some b → C[j]? = some (Value.int .u8 b.toNat)

theorem BytesAt.cell {w : World} {H : Nat} {l : Lx.Bytes} (h : BytesAt w H l) (j : Nat) (hj : j < l.length) : w.cell? ⟨H, j, none⟩ = some (.int .u8 (l.getD j 0).toNat) := by
  obtain ⟨C, z, hb, _, hc⟩ := h
  rw [List.getD_eq_getElem?_getD, List.getElem?_eq_getElem hj]
  simp [World.cell?, hb, hc j _ (List.getElem?_eq_getElem hj)]
theorem BytesAt.free {w : World} {H : Nat} {l : Lx.Bytes} (h : BytesAt w H l) (j : Nat) (hj : j < l.length) : w.frozen? ⟨H, j, none⟩ = false := by
  obtain ⟨C, z, hb, hz, _⟩ := h
  obtain ⟨a, b⟩ := z
  simp only at hz
  simp [World.frozen?, hb]
  omega
theorem BytesAt.set {w : World} {H : Nat} {l : Lx.Bytes} (h : BytesAt w H l) (j : Nat) (hj : j < l.length) (x : UInt8) : BytesAt (w.setCell ⟨H, j, none⟩ (.int .u8 x.toNat)) H (l.set j x) := by
  obtain ⟨C, z, hb, hz, hc⟩ := h
  refine ⟨_, z, setCell_block hb _, by rw [List.length_set]; exact hz, fun i b hi => ?_⟩
  have hjC : j < C.size := (Array.getElem?_eq_some_iff.1 (hc j _ (List.getElem?_eq_getElem hj))).1
  rw [List.getElem?_set] at hi
  rw [Array.getElem?_setIfInBounds]
  split at hi
  · rename_i e
    rw [if_pos e]
    simp only [Option.some.injEq] at hi
    subst hi
    simp [hjC]
  · rename_i e
    rw [if_neg e]
    exact hc i b hi
theorem BytesAt.turned {w w' : World} {H : Nat} {l : Lx.Bytes} {D : Nat → Prop} (h : BytesAt w H l) (t : Turned w w' D) (hn : ¬ D H) : BytesAt w' H l := by
  obtain ⟨C, z, hb, hz, hc⟩ := h
  exact ⟨C, z, (t.block H (lt_of_block hb) hn).trans hb, hz, hc⟩
theorem BytesAt.lt {w : World} {H : Nat} {l : Lx.Bytes} (h : BytesAt w H l) : H < w.heap.size := by
  obtain ⟨C, z, hb, _⟩ := h
  exact lt_of_block hb

theorem bytesAt_new (w : World) (l : Lx.Bytes) : BytesAt (Lib.bytesWorld w 5 ⟨l.toArray⟩) w.heap.size l := by
  refine ⟨_, _, Lib.bytesWorld_at_new _ _ _, ?_, fun j b hj => ?_⟩
  · simp [Lib.bytesCells]
  · have hl := (List.getElem?_eq_some_iff.1 hj).1
    simp only [Lib.bytesCells]
    rw [Array.getElem?_append_left (by simpa using hl)]
    simp [hj]

theorem turned_bytesWorld (w : World) (l : Lx.Bytes) : Turned w (Lib.bytesWorld w 5 ⟨l.toArray⟩) (fun _ => False) := by
  have hos : (Lib.bytesWorld w 5 ⟨l.toArray⟩).os = w.os := by unfold Lib.bytesWorld World.freeze; split <;> rfl
  have hta : (Lib.bytesWorld w 5 ⟨l.toArray⟩).tape = w.tape := by unfold Lib.bytesWorld World.freeze; split <;> rfl
  have hou : (Lib.bytesWorld w 5 ⟨l.toArray⟩).output = w.output := by unfold Lib.bytesWorld World.freeze; split <;> rfl
  exact ⟨hos, hta, hou, by rw [Lib.bytesWorld_size]; omega, fun k hk _ => Lib.bytesWorld_at_old _ _ _ _ hk⟩

theorem fold_bytes : ∀ (l : Lx.Bytes) (r : ByteArray), (l.map (fun b => (b.toNat : Int))).foldl (fun r n => r.push (UInt8.ofNat n.toNat)) r = ⟨r.data ++ l.toArray⟩
  | [], r => by simp
  | b :: l, r => by
    rw [List.map_cons, List.foldl_cons, fold_bytes l]
    congr 1
    simp [ByteArray.push]

/-- The text of bytes. -/
theorem BytesAt.text {w : World} {H cap : Nat} {l : Lx.Bytes} (h : BytesAt w H l) : (convert 58 9 (.slice (some ⟨H, 0, none⟩) l.length cap)).run Tryd.prog w = .ok (.string ⟨l.toArray⟩) w := by
  rw [run_convert_bytes_string w _ _ _ _ _ _ Tryd.underlying58 Tryd.underlying5 Tryd.underlying9]
  have hl := run_loadCells_list (P := Tryd.prog) w ⟨H, 0, none⟩ ((l.map (fun b => (b.toNat : Int))).map (Value.int .u8)) (fun j v hv => by
    rw [List.getElem?_map, List.getElem?_map] at hv
    cases hj : l[j]? with
    | none => rw [hj] at hv; cases hv
    | some b =>
      rw [hj] at hv
      simp only [Option.map_some, Option.some.injEq] at hv
      subst hv
      have hlt := (List.getElem?_eq_some_iff.1 hj).1
      have hc := h.cell j hlt
      rw [List.getD_eq_getElem?_getD, hj] at hc
      unfold Addr.add
      split
      · rename_i h0; subst h0; exact hc
      · simpa using hc)
  rw [List.length_map, List.length_map] at hl
  rw [run_bytesToString w ⟨H, 0, none⟩ l.length cap _ hl, fold_bytes]
  simp

theorem coms_count : ∀ (n p : Nat) (l : Lx.Bytes), l.length ≤ n → (Lx.cuts p l).coms.length ≤ l.length
  | n, p, [], _ => by simp [Lx.cuts_nil]
  | n + 1, p, c :: r, hn => by
    rw [Lx.cuts_step p (c :: r) (by simp)]
    cases hs : Lx.step p (c :: r) with
    | none => simp
    | some x =>
      obtain ⟨k, ts, cs⟩ := x
      have hl := Lx.step_len _ _ hs
      have ih := coms_count n (p + k) ((c :: r).drop k) (by simp at hn ⊢; omega)
      simp only [Lx.Out.pre, List.length_append, List.length_drop] at ih ⊢
      simp only [List.length_cons] at hl ih ⊢
      omega

theorem cv_form {B : Nat} {w : World} {S : Scn} (h : Scan B w S) : ∃ a c, S.cv = .slice a S.coms.length c := by
  rcases h.coms.2 with ⟨h1, h2⟩ | ⟨g, cap, cur, h1, _⟩
  · exact ⟨none, 0, by rw [h1, h2]⟩
  · exact ⟨_, cap, h1⟩

/-- What Strip answers. -/
def stripV (l : Lx.Bytes) : Value :=
  if 100000 < l.length then .tuple #[.string ⟨#[]⟩, .int .i64 2]
  else match (Lx.toks l).bad with
    | some _ => .tuple #[.string ⟨#[]⟩, .int .i64 10]
    | none => if 20000 < (Lx.toks l).toks.length then .tuple #[.string ⟨#[]⟩, .int .i64 2] else .tuple #[.string ⟨(Lx.strip l).toArray⟩, .int .i64 0]

set_option maxRecDepth 100000 in
set_option maxHeartbeats 1600000 in
theorem strip_any (w : World) (he : Env w) (h7 : 7 ≤ w.heap.size) (l : Lx.Bytes) :
    Calls Tryd.prog 15 #[.string ⟨l.toArray⟩] w fun e w' => e = .returned (stripV l) ∧ Below w.heap.size w w' := by
  go_enter Tryd.func15, Tryd.ntmps15
  go_wp2_with fail
  refine (newScanner_any w he h7).mono ?_
  rintro e w1 ⟨S, rfl, h1, b1, _⟩
  go_wp2_with fail
  refine (all_any w.heap.size w1 S h1 ⟨l.toArray⟩).mono ?_
  rintro e w2 ⟨hp, S2, hsb, h2, g2, hcm⟩
  have hb2 : Below w.heap.size w w2 := b1.trans (g2.below h1)
  unfold TokPost at hp
  rw [el_of, es_of] at hp
  rw [el_of, es_of] at hcm
  by_cases hbig : 100000 < l.length
  · rw [if_pos hbig] at hp
    subst hp
    have hv : stripV l = .tuple #[.string ⟨#[]⟩, .int .i64 2] := by unfold stripV; rw [if_pos hbig]
    have Hv := Lib.hid hv
    clear hv hcm hsb
    go_wp2
    go_ret2
    rw [Hv.out]
    exact ⟨rfl, hb2⟩
  rw [if_neg hbig] at hp
  cases hbad : (Lx.toks l).bad with
  | some q =>
    rw [hbad] at hp
    simp only at hp
    subst hp
    have hv : stripV l = .tuple #[.string ⟨#[]⟩, .int .i64 10] := by unfold stripV; rw [if_neg hbig, hbad]
    have Hv := Lib.hid hv
    clear hv hcm hsb hbad
    go_wp2
    go_ret2
    rw [Hv.out]
    exact ⟨rfl, hb2⟩
  | none =>
    rw [hbad] at hp
    simp only at hp
    by_cases hmany : 20000 < (Lx.toks l).toks.length
    · rw [if_pos hmany] at hp
      subst hp
      have hv : stripV l = .tuple #[.string ⟨#[]⟩, .int .i64 2] := by unfold stripV; rw [if_neg hbig, hbad]; simp only; rw [if_pos hmany]
      have Hv := Lib.hid hv
      clear hv hcm hsb hbad
      go_wp2
      go_ret2
      rw [Hv.out]
      exact ⟨rfl, hb2⟩
    · rw [if_neg hmany] at hp
      obtain ⟨tv, rfl, -⟩ := hp
      have hv : stripV l = .tuple #[.string ⟨(Lx.strip l).toArray⟩, .int .i64 0] := by unfold stripV; rw [if_neg hbig, hbad]; simp only; rw [if_neg hmany]
      have Hv := Lib.hid hv
      have hco := hcm (by omega) hbad
      have hcl := coms_count l.length 0 l (Nat.le_refl _)
      have hcw := Lx.toks_coms_within l
      have hcl2 : (Lx.toks l).coms.length ≤ 100000 := Nat.le_trans hcl (by omega)
      have hst : Lx.strip l = Lx.stripBy l ((Lx.toks l).coms.take (Lx.toks l).coms.length) := by rw [List.take_length]; rfl
      obtain ⟨va, vc, hcv⟩ := cv_form h2
      have hrow := h2.coms
      have c7 := h2.c7
      rw [hsb, hcv, hco] at c7
      rw [hcv, hco] at hrow
      have hc := Lib.run_convert_string_bytes (P := Tryd.prog) w2 9 58 5 ⟨l.toArray⟩ Tryd.underlying9 Tryd.underlying58 Tryd.underlying5
      rw [es_of] at hc
      have hT := turned_bytesWorld w2 l
      have hBA := bytesAt_new w2 l
      have c7' := (hT.cell (p := ⟨S.sb, 7, none⟩) (by have := h2.lt; rw [hsb] at this; exact this) (fun hf => hf)).trans c7
      have hB3 : Below w.heap.size w (Lib.bytesWorld w2 5 ⟨l.toArray⟩) := hb2.trans (hT.below hb2.size (fun _ hf => hf.elim))
      have hrow3 := ownsRow_turned hrow hT (fun _ _ hf => hf)
      have hvlt : ∀ k, (Value.slice va (Lx.toks l).coms.length vc).ownBlock = some k → k < w2.heap.size := fun k hk => by
        obtain ⟨_, c, hc⟩ := ownsRow_tag hrow hk
        exact lt_of_block hc
      have Hrow := Lib.hid hrow3
      have Hvlt := Lib.hid hvlt
      have Hcw := Lib.hid hcw
      have Hst := Lib.hid hst
      have Hbad := Lib.hid hbad
      have hHl := hb2.size
      clear hv hcm hbad hco hcl hcw hst hcv hrow c7 hrow3 hvlt hsb h2 g2 h1 b1
      generalize grownCap w2 l.length 0 5 = cap at *
      generalize Lib.bytesWorld w2 5 ⟨l.toArray⟩ = W at *
      generalize w2.heap.size = H at *
      generalize hcs : (Lx.toks l).coms = cs at *
      have Hcs := Lib.hid hcs
      clear hcs hT
      go_wp2_with fail
      go_loopw [30] (fun i wr => ∃ k : Nat, k ≤ cs.length ∧ i = .int .i64 k ∧ BytesAt wr H (Lx.stripBy l (cs.take k)) ∧ Turned W wr (fun j => j = H)) (fun i _ => cs.length - (intOf i).toNat)
      case atStart => exact ⟨0, Nat.zero_le _, rfl, hBA, Turned.refl _ _⟩
      case round =>
        obtain ⟨k, hk, rfl, hba, ht⟩ := hrel
        by_cases hlt : k < cs.length
        · have hki : (k : Int) < (cs.length : Int) := by omega
          have hin := Hcw.out cs[k] (List.getElem_mem hlt)
          have hcell : ∃ g0, va = some ⟨g0, 0, none⟩ ∧ g0 < H ∧ wr.cell? ⟨g0, k * 2, none⟩ = some (.int .i64 cs[k].1) ∧ wr.cell? ⟨g0, k * 2 + 1, none⟩ = some (.int .i64 cs[k].2) := by
            rcases Hrow.out.2 with ⟨h5, h6⟩ | ⟨g0, cap0, cur0, h5, _⟩
            · omega
            · simp only [Value.slice.injEq] at h5
              have hob : (Value.slice va cs.length vc).ownBlock = some g0 := by rw [h5.1]; rfl
              have hg := Hvlt.out g0 hob
              obtain ⟨_, c0, hc0⟩ := ownsRow_tag Hrow.out hob
              have hcc : ∀ i u, (comCells cs[k])[i]? = some u → wr.cell? ((⟨g0, 0, none⟩ : Addr).add (k * 2 + i)) = some u := fun i u hu => by
                have h7 := Hrow.out.cells hob (k * 2 + i) u (flatMap_at comCells 2 (fun _ => rfl) cs k _ (List.getElem?_eq_getElem hlt) i u hu)
                refine (ht.cell (p := ((⟨g0, 0, none⟩ : Addr).add (k * 2 + i))) ?_ ?_).trans h7
                · unfold Addr.add; split <;> exact lt_of_block hc0
                · unfold Addr.add; split <;> (simp only; omega)
              refine ⟨g0, h5.1, hg, ?_, ?_⟩
              · have := hcc 0 _ rfl
                unfold Addr.add at this
                split at this
                · rename_i h0; rw [show k * 2 = 0 by omega]; exact this
                · simpa using this
              · have := hcc 1 _ rfl
                unfold Addr.add at this
                split at this
                · omega
                · simpa using this
          obtain ⟨g0, rfl, hgH, q0, q1⟩ := hcell
          have hstep := Lx.stripBy_snoc l cs k hlt
          have hln : (Lx.stripBy l (cs.take k)).length = l.length := Lx.stripBy_len _ _
          have hgl : g0 < wr.heap.size := Nat.lt_trans hgH hba.lt
          generalize cs[k] = c at *
          obtain ⟨a, z⟩ := c
          simp only at q0 q1 hin hstep
          generalize Lx.stripBy l (cs.take k) = cur at *
          have Hstep := Lib.hid hstep
          have Hln := Lib.hid hln
          have hbl : Lx.blankOut cur a a = cur := Lx.blankOut_self _ _
          have hbaA : BytesAt (wr.alloc (.cells #[.int .i64 a, .int .i64 z] 65)) H (Lx.blankOut cur a a) := by
            rw [hbl]; exact hba.turned ((Turned.refl wr (fun _ => False)).alloc _) (fun hf => hf)
          have htA := ht.alloc (.cells #[.int .i64 a, .int .i64 z] 65)
          have kA := heap_alloc_new wr (.cells #[.int .i64 a, .int .i64 z] 65)
          have hZ : wr.heap.size ≠ H := by have := hba.lt; omega
          have haz : a ≤ z := by omega
          have hzl : z ≤ 100000 := by omega
          have hZl : wr.heap.size < (wr.alloc (.cells #[.int .i64 a, .int .i64 z] 65)).heap.size := by simp
          clear hstep hln hbl
          go_wp2_with fail
          generalize wr.alloc (.cells #[.int .i64 a, .int .i64 z] 65) = V at *
          clear hba ht q0 q1 hgl
          generalize wr.heap.size = Z at *
          go_loopw [11] (fun i wr => ∃ m : Nat, a ≤ m ∧ m ≤ z ∧ i = .int .i64 m ∧ BytesAt wr H (Lx.blankOut cur a m) ∧ Turned W wr (fun j => j = H) ∧ wr.heap[Z]? = some (.cells #[.int .i64 a, .int .i64 z] 65 (0, 0))) (fun i _ => z - (intOf i).toNat)
          case atStart => exact ⟨a, Nat.le_refl _, haz, rfl, hbaA, htA, kA⟩
          case round =>
            obtain ⟨m, ham, hmz, rfl, hbm, htm, km⟩ := hrel
            have z1 : wr.cell? ⟨Z, 1, none⟩ = some (.int .i64 z) := by simp [World.cell?, km]
            have lZ := lt_of_block km
            by_cases hmlt : m < z
            · have hmi : (m : Int) < (z : Int) := by omega
              have hml : m < (Lx.blankOut cur a m).length := by rw [Lx.blankOut_len, Hln.out]; omega
              have hmll : (m : Int) < (l.length : Int) := by omega
              have x0 := hbm.cell m hml
              have xf := hbm.free m hml
              have hbs := Lx.blankOut_step cur a m ham (by rw [Hln.out]; omega)
              have lH := hbm.lt
              have hset := hbm.set m hml 32
              have tset : Turned W (wr.setCell ⟨H, m, none⟩ (.int .u8 (32 : UInt8).toNat)) (fun j => j = H) := htm.setCell (p := ⟨H, m, none⟩) (fun _ => rfl) _
              have kset : (wr.setCell ⟨H, m, none⟩ (.int .u8 (32 : UInt8).toNat)).heap[Z]? = some (.cells #[.int .i64 a, .int .i64 z] 65 (0, 0)) := (Below.heap_setCell _ _ _ _ hZ).trans km
              generalize (Lx.blankOut cur a m).getD m 0 = y at *
              by_cases h10 : y = 10
              · subst h10
                rw [if_pos rfl] at hbs
                have Hbs := Lib.hid hbs
                clear hbs hset tset kset
                go_wp2
                go_roundw
                case rel => exact ⟨m + 1, by omega, by omega, by go_num, by rw [Hbs.out]; exact hbm, htm, km⟩
                case measure => simp [intOf]; omega
              · rw [if_neg h10] at hbs
                have hy1 : ((y.toNat : Int) == 10) = false := by
                  rw [Bool.eq_false_iff]; intro e; apply h10; apply UInt8.toNat_inj.1; have e2 : (y.toNat : Int) = 10 := by simpa using e
                  show y.toNat = 10; omega
                have hy2 : ((y.toNat : Int) != 10) = true := by simp only [bne, hy1, Bool.not_false]
                have Hbs := Lib.hid hbs
                have Hset := Lib.hid hset
                have Tset := Lib.hid tset
                have Kset := Lib.hid kset
                clear hbs hset tset kset h10
                go_wp2
                go_roundw
                case rel => exact ⟨m + 1, by omega, by omega, by go_num, by rw [Hbs.out]; exact Hset.out, Tset.out, Kset.out⟩
                case measure => simp [intOf]; omega
            · obtain rfl : m = z := by omega
              have hmi : ¬ (m : Int) < (m : Int) := by omega
              go_wp2
              go_roundw
              case rel => exact ⟨k + 1, by omega, by go_num, by rw [Hstep.out]; exact hbm, htm⟩
              case measure => simp [intOf]; omega
        · obtain rfl : k = cs.length := by omega
          rw [← Hst.out] at hba
          have hln : (Lx.strip l).length = l.length := Lx.strip_len l
          have htx := hba.text (cap := cap)
          rw [hln] at htx
          have hfin : Below w.heap.size w wr := hB3.trans (ht.below hB3.size (fun _ e => by rw [e]; exact hHl))
          have Hfin := Lib.hid hfin
          clear hln hfin
          go_wp2
          go_ret2
          rw [Hv.out]
          exact ⟨rfl, Hfin.out⟩
end Go.Proofs.YtinogdeolnldhaaDoor
