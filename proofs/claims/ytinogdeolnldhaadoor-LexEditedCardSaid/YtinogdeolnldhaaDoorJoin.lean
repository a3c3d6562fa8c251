/- Join. -/
import Derived.Test.YtinogdeolnldhaaDoorJs
import Derived.Deep.QuietTactic
import Derived.BigQuiet
import Derived.IntWalk
namespace Go.Proofs.YtinogdeolnldhaaDoor
open Go.RowKit

/-- What stands between a token and the one before. -/
def sepB : Option ATok → ATok → Lx.Bytes
  | none, _ => []
  | some a, t => if apartB a t then [] else [32]

/-- The text of the first k tokens. -/
def joinPre (l : List ATok) : Nat → Lx.Bytes
  | 0 => []
  | k + 1 => joinPre l k ++ match l[k]? with
    | none => []
    | some t => sepB (if k = 0 then none else l[k - 1]?) t ++ spell t

/-- The text of tokens. -/
def joinFrom (l : List ATok) : Lx.Bytes := joinPre l l.length

theorem joinPre_len (l : List ATok) (h : l.all rightB = true) : ∀ k, (joinPre l k).length ≤ 33 * k
  | 0 => by simp [joinPre]
  | k + 1 => by
    have ih := joinPre_len l h k
    have hs : ∀ o t, (sepB o t).length ≤ 1 := by
      intro o t
      cases o with
      | none => simp [sepB]
      | some a => simp only [sepB]; split <;> simp
    rw [joinPre, List.length_append]
    cases hx : l[k]? with
    | none => simp only [List.length_nil]; omega
    | some t =>
      have h1 : rightB t = true := List.all_eq_true.1 h t (List.mem_of_getElem? hx)
      have h2 : (spell t).length ≤ 32 := by
        unfold rightB at h1
        simp at h1
        exact h1.1
      have h3 := hs (if k = 0 then none else l[k - 1]?) t
      simp only [List.length_append]
      omega

theorem rightB_len {a : ATok} (h : rightB a = true) : (spell a).length ≤ 32 := by
  unfold rightB at h
  simp at h
  exact h.1

theorem fresh_builder (B : Nat) (W : World) (h : B ≤ W.heap.size) : Lib.IsBuilderF 75 5 B W.heap.size (Lib.byteCells []) (W.alloc (.cells #[.pointer none, .slice none 0 0] 75)) :=
  .inl ⟨h, .slice none 0 0, heap_alloc_new W _, ⟨rfl, .inl ⟨rfl, rfl⟩⟩, by simp [Value.ownBlock]⟩

def joinV (l : List ATok) : Value :=
  if l.all rightB = false then .tuple #[.string ⟨#[]⟩, .int .i64 1]
  else if 20000 < l.length then .tuple #[.string ⟨#[]⟩, .int .i64 2]
  else if 100000 < (joinFrom l).length then .tuple #[.string ⟨#[]⟩, .int .i64 2]
  else .tuple #[.string ⟨(joinFrom l).toArray⟩, .int .i64 0]

set_option maxRecDepth 100000 in
set_option maxHeartbeats 1600000 in
theorem join_any (w : World) (he : Env w) (h7 : 7 ≤ w.heap.size) (v : Value) (l : List ATok) (hv : RowOf w v l) (hl : ∀ t ∈ l, t.wide) (hln : l.length ≤ 140737488351232) :
    Calls Tryd.prog 25 #[v] w fun e w' => e = .returned (joinV l) ∧ Below w.heap.size w w' := by
  obtain ⟨va, vc, rfl, hrow⟩ := hv
  go_enter Tryd.func25, Tryd.ntmps25
  go_wp2_with fail
  refine (newScanner_any w he h7).mono ?_
  rintro e w1 ⟨S, rfl, h1, b1, _⟩
  go_wp2_with fail
  have keep : ∀ W S' (a : ATok), Scan w.heap.size W S' → Below w.heap.size w W → S'.sb = S.sb → a.wide →
      Calls Tryd.prog 42 #[.pointer (some ⟨S.sb, 0, none⟩), a.val] W fun e w' => e = .returned (.bool (rightB a)) ∧ (∃ S2, S2.sb = S.sb ∧ Scan w.heap.size w' S2) ∧ Below w.heap.size w w' := by
    intro W S' a hs hb hsb hw
    rw [← hsb]
    refine (right_any w.heap.size W S' hs (he.below hb h7) h7 a hw).mono ?_
    rintro e w' ⟨rfl, S2, h2, h3, h4⟩
    exact ⟨rfl, ⟨S2, h2, h3⟩, hb.trans (h4.below hs)⟩
  go_loopw [13] (fun i wr => ∃ k : Nat, k ≤ l.length ∧ i = .int .i64 k ∧ (l.take k).all rightB = true ∧ (∃ S', S'.sb = S.sb ∧ Scan w.heap.size wr S') ∧ Below w.heap.size w wr) (fun i _ => l.length - (intOf i).toNat)
  case atStart => exact ⟨0, Nat.zero_le _, rfl, by simp, ⟨S, rfl, h1⟩, b1⟩
  case round =>
    obtain ⟨k, hk, rfl, hall, ⟨S', hsb, hs⟩, hb⟩ := hrel
    have Keep := Lib.hid keep
    have Hrow := Lib.hid hrow
    have Hl := Lib.hid hl
    have Hall := Lib.hid hall
    clear keep hrow hl hall
    by_cases hlt : k < l.length
    · have hkb : k + 1 ≤ 140737488351232 := by omega
      have hki : (k : Int) < (l.length : Int) := by omega
      obtain ⟨g, off, rfl, lg, hc⟩ := Hrow.out (by intro h; subst h; exact absurd hlt (Nat.not_lt_zero _))
      have xa := hc k _ (List.getElem?_eq_getElem hlt)
      have hwd : (l[k]).wide := Hl.out _ (List.getElem_mem hlt)
      have hst : (l.take (k + 1)).all rightB = rightB l[k] := by
        rw [List.take_succ_eq_append_getElem hlt, List.all_append, Hall.out]
        simp
      have hno : rightB l[k] = false → joinV l = .tuple #[.string ⟨#[]⟩, .int .i64 1] := by
        intro h
        unfold joinV
        rw [if_pos]
        rw [List.all_eq_false]
        exact ⟨_, List.getElem_mem hlt, by simpa using h⟩
      clear hc
      generalize l[k] = x at *
      obtain ⟨k1, n1, s1, a1, e1⟩ := x
      have p0 : wr.cell? ⟨g, off + k * 5, none⟩ = some (.int .i64 k1) := (hb.cell (p := ⟨g, off + k * 5 + 0, none⟩) lg).trans (xa 0 _ rfl)
      have p1 : wr.cell? ⟨g, off + k * 5 + 1, none⟩ = some (.int .i64 n1) := (hb.cell (p := ⟨g, off + k * 5 + 1, none⟩) lg).trans (xa 1 _ rfl)
      have p2 : wr.cell? ⟨g, off + k * 5 + 2, none⟩ = some (.string ⟨s1.toArray⟩) := (hb.cell (p := ⟨g, off + k * 5 + 2, none⟩) lg).trans (xa 2 _ rfl)
      have p3 : wr.cell? ⟨g, off + k * 5 + 3, none⟩ = some (.int .i64 a1) := (hb.cell (p := ⟨g, off + k * 5 + 3, none⟩) lg).trans (xa 3 _ rfl)
      have p4 : wr.cell? ⟨g, off + k * 5 + 4, none⟩ = some (.int .i64 e1) := (hb.cell (p := ⟨g, off + k * 5 + 4, none⟩) lg).trans (xa 4 _ rfl)
      have lg' : g < wr.heap.size := Nat.lt_of_lt_of_le lg hb.size
      have Hst := Lib.hid hst
      have Hno := Lib.hid hno
      clear xa hst hno
      have sA := hs.alloc (.cells #[.int .i64 k1, .int .i64 n1, .string ⟨s1.toArray⟩, .int .i64 a1, .int .i64 e1] 48)
      have bA := hb.alloc (o := .cells #[.int .i64 k1, .int .i64 n1, .string ⟨s1.toArray⟩, .int .i64 a1, .int .i64 e1] 48) (by have := hb.size; omega)
      go_wp2_with fail
      refine (Keep.out _ S' ⟨k1, n1, s1, a1, e1⟩ sA bA hsb hwd).mono ?_
      rintro e w2 ⟨rfl, h2, b2⟩
      clear p0 p1 p2 p3 p4 sA bA
      cases hr : rightB ⟨k1, n1, s1, a1, e1⟩
      · have hj := Hno.out hr
        have Hj := Lib.hid hj
        clear hj
        go_wp2
        go_ret2
        rw [Hj.out]
        exact ⟨rfl, b2⟩
      · have hst := Hst.out
        rw [hr] at hst
        have Hst2 := Lib.hid hst
        clear hst
        go_wp2
        go_roundw
        case rel => exact ⟨k + 1, by omega, by go_num, Hst2.out, h2, b2⟩
        case measure => simp [intOf]; omega
    · have hkn : k = l.length := by omega
      subst hkn
      have hall : l.all rightB = true := by have := Hall.out; rwa [List.take_length] at this
      by_cases hbig : 20000 < l.length
      · have hj : joinV l = .tuple #[.string ⟨#[]⟩, .int .i64 2] := by
          unfold joinV
          rw [if_neg (by simp [hall]), if_pos hbig]
        have Hj := Lib.hid hj
        have hbi : 20000 < (l.length : Int) := by omega
        clear hj hall
        go_wp2
        go_ret2
        rw [Hj.out]
        exact ⟨rfl, hb⟩
      · have hsm : ¬ 20000 < (l.length : Int) := by omega
        have hpl := joinPre_len l hall
        have bB := hb.size
        have sA := hs.alloc (.cells #[.pointer none, .slice none 0 0] 75)
        have bA := hb.alloc (o := .cells #[.pointer none, .slice none 0 0] 75) (by omega)
        have fA := fresh_builder w.heap.size wr bB
        go_wp2_with fail
        generalize wr.alloc (.cells #[.pointer none, .slice none 0 0] 75) = W at *
        generalize wr.heap.size = bb at *
        go_loopw [27] (fun i wr => ∃ k : Nat, k ≤ l.length ∧ i = .int .i64 k ∧ JS w.heap.size bb S.sb w (joinPre l k) wr) (fun i _ => l.length - (intOf i).toNat)
        case atStart => exact ⟨0, Nat.zero_le _, rfl, fA, ⟨S', hsb, sA⟩, bA⟩
        case round =>
          obtain ⟨k, hk, rfl, hj⟩ := hrel
          have hf := hj.1
          have hb2 := hj.2.2
          by_cases hlt2 : k < l.length
          · clear hf
            have hki : (k : Int) < (l.length : Int) := by omega
            obtain ⟨g, off, rfl, lg, hc⟩ := Hrow.out (by intro h; subst h; exact absurd hlt2 (Nat.not_lt_zero _))
            have xa := hc k _ (List.getElem?_eq_getElem hlt2)
            have hwd : (l[k]).wide := Hl.out _ (List.getElem_mem hlt2)
            have hrx : rightB l[k] = true := List.all_eq_true.1 hall _ (List.getElem_mem hlt2)
            have hln1 := rightB_len hrx
            have hstep : joinPre l (k + 1) = joinPre l k ++ (sepB (if k = 0 then none else l[k - 1]?) l[k] ++ spell l[k]) := by
              rw [joinPre, List.getElem?_eq_getElem hlt2]
            have hpk := hpl k
            by_cases hk0 : k = 0
            · subst hk0
              rw [if_pos rfl, show sepB none l[0] = [] from rfl, List.nil_append] at hstep
              clear hc
              generalize l[0] = x at *
              obtain ⟨k1, n1, s1, a1, e1⟩ := x
              have p0 : wr.cell? ⟨g, off, none⟩ = some (.int .i64 k1) := (hb2.cell (p := ⟨g, off + 0 * 5 + 0, none⟩) lg).trans (xa 0 _ rfl)
              have p1 : wr.cell? ⟨g, off + 1, none⟩ = some (.int .i64 n1) := (hb2.cell (p := ⟨g, off + 0 * 5 + 1, none⟩) lg).trans (xa 1 _ rfl)
              have p2 : wr.cell? ⟨g, off + 2, none⟩ = some (.string ⟨s1.toArray⟩) := (hb2.cell (p := ⟨g, off + 0 * 5 + 2, none⟩) lg).trans (xa 2 _ rfl)
              have p3 : wr.cell? ⟨g, off + 3, none⟩ = some (.int .i64 a1) := (hb2.cell (p := ⟨g, off + 0 * 5 + 3, none⟩) lg).trans (xa 3 _ rfl)
              have p4 : wr.cell? ⟨g, off + 4, none⟩ = some (.int .i64 e1) := (hb2.cell (p := ⟨g, off + 0 * 5 + 4, none⟩) lg).trans (xa 4 _ rfl)
              have lg' : g < wr.heap.size := Nat.lt_of_lt_of_le lg hb2.size
              have jA := hj.alloc (Nat.le_refl _) (.cells #[.int .i64 k1, .int .i64 n1, .string ⟨s1.toArray⟩, .int .i64 a1, .int .i64 e1] 48)
              have Hstep := Lib.hid hstep
              have Hp := Lib.hid hpl
              have Hall2 := Lib.hid hall
              have kA := heap_alloc_new wr (.cells #[.int .i64 k1, .int .i64 n1, .string ⟨s1.toArray⟩, .int .i64 a1, .int .i64 e1] 48)
              clear xa hstep hpl hall hrx
              go_wp2_with fail
              clear p0 p1 p2 p3 p4 hj hb2 hs hb h1 b1 hsb lg' lg
              generalize wr.alloc (.cells #[.int .i64 k1, .int .i64 n1, .string ⟨s1.toArray⟩, .int .i64 a1, .int .i64 e1] 48) = V at *
              generalize wr.heap.size = Z at *
              have lZ := lt_of_block kA
              have KA := Lib.hid kA
              have JA := Lib.hid jA
              have r0 : V.cell? ⟨Z, 0, none⟩ = some (.int .i64 k1) := by simp [World.cell?, kA]
              have r1 : V.cell? ⟨Z, 1, none⟩ = some (.int .i64 n1) := by simp [World.cell?, kA]
              have r2 : V.cell? ⟨Z, 2, none⟩ = some (.string ⟨s1.toArray⟩) := by simp [World.cell?, kA]
              have r3 : V.cell? ⟨Z, 3, none⟩ = some (.int .i64 a1) := by simp [World.cell?, kA]
              have r4 : V.cell? ⟨Z, 4, none⟩ = some (.int .i64 e1) := by simp [World.cell?, kA]
              clear kA jA
              go_quiet (fail)
              have j0 := JA.out.turned0 (Nat.le_refl _) ((Turned.refl V (fun _ => False)).drewN nq)
              have J0 := Lib.hid j0
              clear j0
              go_wp2_with fail
              refine (J0.out.spell he h7 (Nat.le_refl _) ⟨k1, n1, s1, a1, e1⟩ hwd).mono ?_
              rintro e w2 ⟨rfl, j2, t2⟩
              have J2 := Lib.hid j2
              clear j2 r0 r1 r2 r3 r4
              go_wp2_with fail
              refine (J2.out.write (Nat.le_refl _) _ (by omega)).mono ?_
              rintro e w3 ⟨rfl, j3, t3⟩
              have J3 := Lib.hid j3
              clear j3
              go_wp2
              go_roundw
              case rel => exact ⟨0 + 1, by omega, by go_num, by rw [Hstep.out]; exact J3.out⟩
              case measure => simp [intOf]; omega
            · obtain ⟨j, rfl⟩ : ∃ j, k = j + 1 := ⟨k - 1, by omega⟩
              have hjl : j < l.length := by omega
              have xb := hc j _ (List.getElem?_eq_getElem hjl)
              have hwb : (l[j]).wide := Hl.out _ (List.getElem_mem hjl)
              have hry : rightB l[j] = true := List.all_eq_true.1 hall _ (List.getElem_mem hjl)
              have hlnb := rightB_len hry
              rw [if_neg hk0, show j + 1 - 1 = j from rfl, List.getElem?_eq_getElem hjl, show sepB (some l[j]) l[j + 1] = if apartB l[j] l[j + 1] then [] else [32] from rfl] at hstep
              have hbb : bb < wr.heap.size := by
                obtain ⟨c, hc⟩ := builderF_tag hj.1
                exact lt_of_block hc
              clear hc hry hrx
              generalize l[j + 1] = x at *
              generalize l[j] = y at *
              have hapc := fun (o : Obj) (V : World) (hV : Turned (wr.alloc o) V (fun _ => False)) => hj.apart he h7 (Nat.le_refl _) V hV y x hwb hwd hlnb hln1
              obtain ⟨k1, n1, s1, a1, e1⟩ := x
              obtain ⟨k2, n2, s2, a2, e2⟩ := y
              have p0 : wr.cell? ⟨g, off + (j + 1) * 5, none⟩ = some (.int .i64 k1) := (hb2.cell (p := ⟨g, off + (j + 1) * 5 + 0, none⟩) lg).trans (xa 0 _ rfl)
              have p1 : wr.cell? ⟨g, off + (j + 1) * 5 + 1, none⟩ = some (.int .i64 n1) := (hb2.cell (p := ⟨g, off + (j + 1) * 5 + 1, none⟩) lg).trans (xa 1 _ rfl)
              have p2 : wr.cell? ⟨g, off + (j + 1) * 5 + 2, none⟩ = some (.string ⟨s1.toArray⟩) := (hb2.cell (p := ⟨g, off + (j + 1) * 5 + 2, none⟩) lg).trans (xa 2 _ rfl)
              have p3 : wr.cell? ⟨g, off + (j + 1) * 5 + 3, none⟩ = some (.int .i64 a1) := (hb2.cell (p := ⟨g, off + (j + 1) * 5 + 3, none⟩) lg).trans (xa 3 _ rfl)
              have p4 : wr.cell? ⟨g, off + (j + 1) * 5 + 4, none⟩ = some (.int .i64 e1) := (hb2.cell (p := ⟨g, off + (j + 1) * 5 + 4, none⟩) lg).trans (xa 4 _ rfl)
              have q0 : wr.cell? ⟨g, off + j * 5, none⟩ = some (.int .i64 k2) := (hb2.cell (p := ⟨g, off + j * 5 + 0, none⟩) lg).trans (xb 0 _ rfl)
              have q1 : wr.cell? ⟨g, off + j * 5 + 1, none⟩ = some (.int .i64 n2) := (hb2.cell (p := ⟨g, off + j * 5 + 1, none⟩) lg).trans (xb 1 _ rfl)
              have q2 : wr.cell? ⟨g, off + j * 5 + 2, none⟩ = some (.string ⟨s2.toArray⟩) := (hb2.cell (p := ⟨g, off + j * 5 + 2, none⟩) lg).trans (xb 2 _ rfl)
              have q3 : wr.cell? ⟨g, off + j * 5 + 3, none⟩ = some (.int .i64 a2) := (hb2.cell (p := ⟨g, off + j * 5 + 3, none⟩) lg).trans (xb 3 _ rfl)
              have q4 : wr.cell? ⟨g, off + j * 5 + 4, none⟩ = some (.int .i64 e2) := (hb2.cell (p := ⟨g, off + j * 5 + 4, none⟩) lg).trans (xb 4 _ rfl)
              have lg' : g < wr.heap.size := Nat.lt_of_lt_of_le lg hb2.size
              have Hstep := Lib.hid hstep
              have Hp := Lib.hid hpl
              have Hall2 := Lib.hid hall
              have kA := heap_alloc_new wr (.cells #[.int .i64 k1, .int .i64 n1, .string ⟨s1.toArray⟩, .int .i64 a1, .int .i64 e1] 48)
              have tA : Turned wr (wr.alloc (.cells #[.int .i64 k1, .int .i64 n1, .string ⟨s1.toArray⟩, .int .i64 a1, .int .i64 e1] 48)) (fun _ => False) := (Turned.refl wr _).alloc _
              have hapV := hapc (.cells #[.int .i64 k1, .int .i64 n1, .string ⟨s1.toArray⟩, .int .i64 a1, .int .i64 e1] 48)
              have Hap := Lib.hid hapV
              have Xb := Lib.hid xb
              have jV := hj.alloc (Nat.le_refl _) (.cells #[.int .i64 k1, .int .i64 n1, .string ⟨s1.toArray⟩, .int .i64 a1, .int .i64 e1] 48)
              have JV := Lib.hid jV
              have hzj : (0 : Int) < ((j + 1 : Nat) : Int) := by omega
              clear xa xb hstep hpl hall hapc hapV jV
              go_wp2_with fail
              have Lg := Lib.hid lg
              have lgV : g < (wr.alloc (.cells #[.int .i64 k1, .int .i64 n1, .string ⟨s1.toArray⟩, .int .i64 a1, .int .i64 e1] 48)).heap.size := Nat.lt_of_lt_of_le lg' tA.size
              clear p0 p1 p2 p3 p4 q0 q1 q2 q3 q4 hj hb2 hs hb h1 b1 hsb lg' lg tA
              generalize wr.alloc (.cells #[.int .i64 k1, .int .i64 n1, .string ⟨s1.toArray⟩, .int .i64 a1, .int .i64 e1] 48) = V at *
              generalize wr.heap.size = Z at *
              have lZ := lt_of_block kA
              have Sof : ∀ w' : World, w'.heap[Z]? = V.heap[Z]? → Below w.heap.size w w' → (w'.cell? ⟨Z, 0, none⟩ = some (.int .i64 k1) ∧ w'.cell? ⟨Z, 1, none⟩ = some (.int .i64 n1) ∧ w'.cell? ⟨Z, 2, none⟩ = some (.string ⟨s1.toArray⟩) ∧ w'.cell? ⟨Z, 3, none⟩ = some (.int .i64 a1) ∧ w'.cell? ⟨Z, 4, none⟩ = some (.int .i64 e1) ∧
                  w'.cell? ⟨g, off + j * 5, none⟩ = some (.int .i64 k2) ∧ w'.cell? ⟨g, off + j * 5 + 1, none⟩ = some (.int .i64 n2) ∧ w'.cell? ⟨g, off + j * 5 + 2, none⟩ = some (.string ⟨s2.toArray⟩) ∧ w'.cell? ⟨g, off + j * 5 + 3, none⟩ = some (.int .i64 a2) ∧ w'.cell? ⟨g, off + j * 5 + 4, none⟩ = some (.int .i64 e2)) := by
                intro w' hZ' hb'
                have k1 := hZ'.trans kA
                have qq := fun (i : Nat) (u : Value) (hu : (ATok.cells ⟨k2, n2, s2, a2, e2⟩)[i]? = some u) => (hb'.cell (p := ⟨g, off + j * 5 + i, none⟩) Lg.out).trans (Xb.out i u hu)
                refine ⟨?_, ?_, ?_, ?_, ?_, qq 0 _ rfl, qq 1 _ rfl, qq 2 _ rfl, qq 3 _ rfl, qq 4 _ rfl⟩ <;> simp [World.cell?, k1]
              have HSof := Lib.hid Sof
              have KA := Lib.hid kA
              have tt : Turned V V.drew (fun _ => False) := (Turned.refl V _).drew
              have bV : Below w.heap.size w V := JV.out.2.2
              have jD := JV.out.turned0 (Nat.le_refl _) tt
              have JD := Lib.hid jD
              obtain ⟨p0, p1, p2, p3, p4, q0, q1, q2, q3, q4⟩ := Sof V rfl bV
              clear Sof kA bV jD
              have hw1 : IntKind.i64.wrap (((j + 1 : Nat) : Int) - 1) = (j : Int) := by
                have e : (((j + 1 : Nat) : Int) - 1) = (j : Int) := by omega
                rw [e]; exact IntWalk.i64_in _ (by omega)
              have hw3 : IntKind.i64.wrap (j : Int) = (j : Int) := IntWalk.i64_in _ (by omega)
              have hw4 : ((j : Int)).toNat = j := by omega
              have hj0 : (0 : Int) ≤ (j : Int) := by omega
              have hjl2 : (j : Int) < (l.length : Int) := by omega
              go_region_held3 (fun w' => w'.cell? ⟨Z, 0, none⟩ = some (.int .i64 k1) ∧ w'.cell? ⟨Z, 1, none⟩ = some (.int .i64 n1) ∧ w'.cell? ⟨Z, 2, none⟩ = some (.string ⟨s1.toArray⟩) ∧ w'.cell? ⟨Z, 3, none⟩ = some (.int .i64 a1) ∧ w'.cell? ⟨Z, 4, none⟩ = some (.int .i64 e1) ∧
                  w'.cell? ⟨g, off + j * 5, none⟩ = some (.int .i64 k2) ∧ w'.cell? ⟨g, off + j * 5 + 1, none⟩ = some (.int .i64 n2) ∧ w'.cell? ⟨g, off + j * 5 + 2, none⟩ = some (.string ⟨s2.toArray⟩) ∧ w'.cell? ⟨g, off + j * 5 + 3, none⟩ = some (.int .i64 a2) ∧ w'.cell? ⟨g, off + j * 5 + 4, none⟩ = some (.int .i64 e2))
                (first | exact HSof.out _ rfl JD.out.2.2 | exact HSof.out _ (k3.trans KA.out.symm) j3.2.2 | (go_split_ands; first | assumption | exact ‹_›))
                (first
                  | (go_at_call 43; refine (Hap.out _ tt).mono ?_; rintro e w3 ⟨rfl, j3, k3⟩))
              generalize apartB ⟨k2, n2, s2, a2, e2⟩ ⟨k1, n1, s1, a1, e1⟩ = ab at *
              have J3 := Lib.hid j3
              have K3 := Lib.hid k3
              have lZ3 := lt_of_block k3
              clear p0 p1 p2 p3 p4 q0 q1 q2 q3 q4 hw1 hw3 hw4 j3 k3 tt lgV
              have hjn : j + 1 + 1 ≤ 20000 := by omega
              cases ab
              · have hst := Hstep.out
                simp only [Bool.false_eq_true, if_false] at hst
                have Hst := Lib.hid hst
                clear hst
                go_wp2_with fail
                refine (J3.out.byte (Nat.le_refl _) (by omega)).mono ?_
                rintro e w4 ⟨rfl, j4, t4⟩
                have k4 := (t4.block Z lZ3 (fun hk => by
                  rcases hk with hk | ⟨c, z, hk⟩
                  · omega
                  · rw [K3.out] at hk
                    simp at hk)).trans K3.out
                have J4 := Lib.hid j4
                have lZ4 := lt_of_block k4
                have r0 : w4.cell? ⟨Z, 0, none⟩ = some (.int .i64 k1) := by simp [World.cell?, k4]
                have r1 : w4.cell? ⟨Z, 1, none⟩ = some (.int .i64 n1) := by simp [World.cell?, k4]
                have r2 : w4.cell? ⟨Z, 2, none⟩ = some (.string ⟨s1.toArray⟩) := by simp [World.cell?, k4]
                have r3 : w4.cell? ⟨Z, 3, none⟩ = some (.int .i64 a1) := by simp [World.cell?, k4]
                have r4 : w4.cell? ⟨Z, 4, none⟩ = some (.int .i64 e1) := by simp [World.cell?, k4]
                clear j4 t4 k4
                go_wp2_with fail
                refine (J4.out.spell he h7 (Nat.le_refl _) ⟨k1, n1, s1, a1, e1⟩ hwd).mono ?_
                rintro e w5 ⟨rfl, j5, t5⟩
                have J5 := Lib.hid j5
                clear j5 r0 r1 r2 r3 r4
                go_wp2_with fail
                refine (J5.out.write (Nat.le_refl _) _ (by simp only [List.length_append, List.length_cons, List.length_nil]; omega)).mono ?_
                rintro e w6 ⟨rfl, j6, t6⟩
                have J6 := Lib.hid j6
                clear j6
                go_wp2
                go_roundw
                case rel => exact ⟨j + 1 + 1, by omega, by go_num, by rw [Hst.out, ← List.append_assoc]; exact J6.out⟩
                case measure => simp [intOf]; omega
              · have hst := Hstep.out
                simp only [if_true, List.nil_append] at hst
                have Hst := Lib.hid hst
                have r0 : w3.cell? ⟨Z, 0, none⟩ = some (.int .i64 k1) := by simp [World.cell?, K3.out]
                have r1 : w3.cell? ⟨Z, 1, none⟩ = some (.int .i64 n1) := by simp [World.cell?, K3.out]
                have r2 : w3.cell? ⟨Z, 2, none⟩ = some (.string ⟨s1.toArray⟩) := by simp [World.cell?, K3.out]
                have r3 : w3.cell? ⟨Z, 3, none⟩ = some (.int .i64 a1) := by simp [World.cell?, K3.out]
                have r4 : w3.cell? ⟨Z, 4, none⟩ = some (.int .i64 e1) := by simp [World.cell?, K3.out]
                clear hst
                go_wp2_with fail
                refine (J3.out.spell he h7 (Nat.le_refl _) ⟨k1, n1, s1, a1, e1⟩ hwd).mono ?_
                rintro e w5 ⟨rfl, j5, t5⟩
                have J5 := Lib.hid j5
                clear j5 r0 r1 r2 r3 r4
                go_wp2_with fail
                refine (J5.out.write (Nat.le_refl _) _ (by omega)).mono ?_
                rintro e w6 ⟨rfl, j6, t6⟩
                have J6 := Lib.hid j6
                clear j6
                go_wp2
                go_roundw
                case rel => exact ⟨j + 1 + 1, by omega, by go_num, by rw [Hst.out]; exact J6.out⟩
                case measure => simp [intOf]; omega
          · have hkn : k = l.length := by omega
            subst hkn
            have hpl2 := hpl l.length
            have hjl : joinPre l l.length = joinFrom l := rfl
            rw [hjl] at hf hpl2
            have hv : joinV l = if 100000 < (joinFrom l).length then .tuple #[.string ⟨#[]⟩, .int .i64 2] else .tuple #[.string ⟨(joinFrom l).toArray⟩, .int .i64 0] := by
              unfold joinV
              rw [if_neg (by simp [hall]), if_neg (by omega)]
            have hLen : Calls Tryd.prog 47 #[.pointer (some ⟨bb, 0, none⟩)] wr fun e w' => e = .returned (.int .i64 ((joinFrom l).length : Nat)) ∧ w' = wr := by
              have := Tryd.Builder_Len_f _ _ _ _ hf
              rwa [Lib.byteCells_length] at this
            have hStr := Tryd.Builder_String_any_k _ _ _ _ hf hb2.size
            have HL := Lib.hid hLen
            have HS := Lib.hid hStr
            have Hv := Lib.hid hv
            clear hLen hStr hv hjl hpl hpl2 hall
            by_cases hbig2 : 100000 < (joinFrom l).length
            · have hbi : 100000 < ((joinFrom l).length : Int) := by omega
              go_wp2_with (go_at_call 47; refine HL.out.mono ?_; rintro e w' ⟨rfl, rfl⟩)
              go_ret2
              rw [Hv.out, if_pos hbig2]
              exact ⟨rfl, hb2⟩
            · have hbi : ¬ 100000 < ((joinFrom l).length : Int) := by omega
              go_wp2_with (first | (go_at_call 47; refine HL.out.mono ?_; rintro e w' ⟨rfl, rfl⟩) | (go_at_call 48; refine HS.out.mono ?_; rintro e w3 ⟨rfl, _, b3, _⟩))
              go_ret2
              rw [Hv.out, if_neg hbig2]
              exact ⟨rfl, hb2.trans b3⟩
end Go.Proofs.YtinogdeolnldhaaDoor
