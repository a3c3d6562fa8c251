/- Parts of the proof, one behind the other. -/
import Derived.OwnWalk
import Derived.Laws.AppendOwn
import Derived.Deep.AppendLies
import Derived.Test.YtljnmjehokijgaaMg3

/- Rows of numbers of the call's own; what may turn meanwhile. -/
namespace Go.Proofs.Ytljnmjehokijgaa
open Go.RowKit

theorem Try.infoInt : (Try.prog.info? 3).map (fun i => (i.zero, i.size, i.bytes)) = some (some (.int .i64 0), 1, 8) := by kernel_rfl

/-- A row of numbers of the call's own. -/
def OwnI (w : World) (B : Nat) (v : Value) (l : List Int) : Prop := w.ownsRow B 3 1 v l.length (l.map (Value.int .i64))

theorem OwnI.form {w : World} {B : Nat} {v : Value} {l : List Int} (h : OwnI w B v l) : ∃ a cap, v = .slice a l.length cap := by
  rcases h.2 with ⟨hv, h0⟩ | ⟨g, cap, cur, hv, _⟩
  · exact ⟨none, 0, by rw [hv, h0]⟩
  · exact ⟨_, cap, hv⟩

theorem OwnI.row {w : World} {B : Nat} {v : Value} {l : List Int} (h : OwnI w B v l) : RowI w v l := by
  have hc := h
  rcases h.2 with ⟨hv, h0⟩ | ⟨g, cap, cur, hv, hb, hg, hle, hcap, _⟩
  · have : l = [] := List.length_eq_zero_iff.1 h0
    subst this
    exact ⟨none, 0, hv, Nat.zero_le _, fun hne => absurd rfl hne⟩
  · refine ⟨_, cap, hv, Nat.le_trans hle hcap, fun _ => ⟨g, 0, rfl, lt_of_block hg, fun j x hj => ?_⟩⟩
    subst hv
    have := hc.cells (g := g) rfl j (.int .i64 x) (by rw [List.getElem?_map, hj]; rfl)
    have e : ((⟨g, 0, none⟩ : Addr).add j) = ⟨g, 0 + j, none⟩ := by
      unfold Addr.add
      split
      · rename_i h0; simp only [Addr.mk.injEq, true_and, and_true]; omega
      · rfl
    rwa [e] at this

theorem OwnI.turned {w w' : World} {B : Nat} {v : Value} {l : List Int} {D : Nat → Prop} (h : OwnI w B v l) (t : Turned w w' D) (hn : ∀ k, v.ownBlock = some k → ¬ D k) : OwnI w' B v l := ownsRow_turned h t hn

theorem OwnI.step {w w' : World} {B : Nat} {v : Value} {l : List Int} (h : OwnI w B v l) (t : Turned w w' (fun _ => False)) : OwnI w' B v l := ownsRow_turned h t (fun _ _ hf => hf)

/-- A block of numbers that is not older than B. -/
def IntB (B : Nat) (w : World) (k : Nat) : Prop := B ≤ k ∧ ∃ c, w.heap[k]? = some (.cells c 3 (0, 0))

theorem OwnI.intB {w : World} {B : Nat} {v : Value} {l : List Int} (h : OwnI w B v l) {k : Nat} (hk : v.ownBlock = some k) : IntB B w k := ownsRow_tag h hk

/-- Of what was there, only blocks of numbers that are not older than B have turned. -/
def TurnedI (B : Nat) (w w' : World) : Prop := Turned w w' (IntB B w)

theorem TurnedI.refl (B : Nat) (w : World) : TurnedI B w w := Turned.refl _ _
theorem TurnedI.trans {B : Nat} {a b c : World} (h : TurnedI B a b) (k : TurnedI B b c) : TurnedI B a c :=
  Turned.trans h k fun i hi hb => by
    apply Classical.byContradiction
    intro hn
    have h1 := h.block i hi hn
    obtain ⟨hB, cc, hc⟩ := hb
    exact hn ⟨hB, cc, by rw [← h1]; exact hc⟩
theorem TurnedI.of {B : Nat} {a b : World} (h : Turned a b (fun _ => False)) : TurnedI B a b := h.mono (fun _ _ hf => hf.elim)
theorem TurnedI.old {w0 a b : World} (h0 : Turned w0 a (fun _ => False)) (h : TurnedI w0.heap.size a b) : Turned w0 b (fun _ => False) :=
  h0.trans h (fun i hi hb => by have := hb.1; omega)

/-- A box of a tree does not turn. -/
theorem TurnedI.cellT {B : Nat} {w w' : World} (h : TurnedI B w w') {b : Nat} {c : Array Value} {t : TypeId} (hb : w.heap[b]? = some (.cells c t (0, 0))) (ht : t ≠ 3) : w'.heap[b]? = some (.cells c t (0, 0)) :=
  (h.block b (lt_of_block hb) (fun hh => by
    obtain ⟨-, cc, hc⟩ := hh
    rw [hb] at hc
    simp only [Option.some.injEq, Obj.cells.injEq] at hc
    exact ht hc.2.1)).trans hb

theorem OwnI.nil (w : World) (B : Nat) : OwnI w B (.slice none 0 0) [] := ⟨by trivial, .inl ⟨rfl, rfl⟩⟩

/-- One number more. -/
theorem append_int {ops : Array Oper} {rest : List Oper} {o : Oper} {a : Act} {Q : Exit → Act → World → Prop} (w : World) (hgd : o.guard = none) (s x : Operand)
    (ho : o.op = .call { callee := .builtin .append, args := #[s, x], argTypes := #[37, 37] }) (B : Nat) (v : Value) (l : List Int) (hs : a.eval s = v) (hown : OwnI w B v l) (g : Nat) (y : Int)
    (hx : a.eval x = .slice (some ⟨g, 0, none⟩) 1 1) (hg : w.heap[g]? = some (.cells #[.int .i64 y] 3 (0, 0))) (hlen : l.length ≤ 1000000) (hB : B ≤ w.heap.size)
    (h : ∀ (p : Option Addr) (cap : Nat) (w' : World), OwnI w' B (.slice p (l.length + 1) cap) (l ++ [y]) → TurnedI B w w' → wpList Try.prog ops Q rest (a.put o.dst (.slice p (l.length + 1) cap)) w') : wpList Try.prog ops Q (o :: rest) a w := by
  obtain ⟨i0, hi0, hz0, hz1, hz2⟩ := info_parts Try.infoInt
  refine wpList_append_own w hgd s x _ ho B 3 i0 (.int .i64 0) 1 8 Try.underlying37 hi0 hz0 hz1 hz2 rfl (by omega) v l.length _ hs hown ⟨g, 0, none⟩ 1 1 [.int .i64 y] hx rfl (World.news_of_block hg) (by simp [Value.oneCell'])
    (by unfold maxLen; omega) (by omega) hB ?_
  intro v' w' ho' hgr hnil
  have hl : (l ++ [y]).length = l.length + 1 := by simp
  have ho2 : OwnI w' B v' (l ++ [y]) := by
    unfold OwnI
    rw [hl, List.map_append]
    exact ho'
  obtain ⟨p, cap, hv⟩ := ho2.form
  rw [hl] at hv
  subst hv
  exact h p cap w' ho2 (Turned.grown (Turned.refl _ _) hgr (fun k hk e => hown.intB e))
end Go.Proofs.Ytljnmjehokijgaa

/- The variables of trees. -/
namespace Go.Proofs.Ytljnmjehokijgaa
open Go.RowKit

mutual
def Tm.size : Tm → Nat
  | .node _ _ l => Tm.sizes l + 1
def Tm.sizes : List Tm → Nat
  | [] => 0
  | t :: l => t.size + Tm.sizes l
end

def inB (l : List Int) (n : Int) : Bool := decide (n ∈ l)

mutual
/-- The variables of a tree, behind those of a list. -/
def Tm.vars : Tm → List Int → List Int
  | .node k n l, out => if k = 1 then (if inB out n = true then out else out ++ [n]) else Tm.varss l out
def Tm.varss : List Tm → List Int → List Int
  | [], out => out
  | t :: l, out => Tm.varss l (t.vars out)
end

theorem Tm.varss_app : ∀ (l m : List Tm) (out : List Int), Tm.varss (l ++ m) out = Tm.varss m (Tm.varss l out)
  | [], m, out => rfl
  | t :: l, m, out => by simp only [List.cons_append, Tm.varss]; exact Tm.varss_app l m _

theorem Tm.sizes_app : ∀ (l m : List Tm), Tm.sizes (l ++ m) = Tm.sizes l + Tm.sizes m
  | [], m => by simp [Tm.sizes]
  | t :: l, m => by simp only [List.cons_append, Tm.sizes, Tm.sizes_app l m]; omega

mutual
theorem Tm.vars_len : ∀ (t : Tm) (out : List Int), (t.vars out).length ≤ out.length + t.size
  | .node k n l, out => by
    simp only [Tm.vars, Tm.size]
    split
    · split
      · omega
      · simp
    · have := Tm.varss_len l out; omega
theorem Tm.varss_len : ∀ (l : List Tm) (out : List Int), (Tm.varss l out).length ≤ out.length + Tm.sizes l
  | [], out => by simp [Tm.varss, Tm.sizes]
  | t :: l, out => by
    have h1 := Tm.vars_len t out
    have h2 := Tm.varss_len l (t.vars out)
    simp only [Tm.varss, Tm.sizes]
    omega
end

set_option maxRecDepth 100000 in
set_option maxHeartbeats 1600000 in
theorem rin_any (la : List Int) (n : Int) (va : Value) (w : World) (ha : RowI w va la) :
    Calls Try.prog 92 #[va, .int .i64 n] w fun e w' => e = .returned (.bool (inB la n)) ∧ Turned w w' (fun _ => False) := by
  have ha2 := ha
  obtain ⟨aa, ca, rfl, hla, -⟩ := ha2
  have hla2 := hla
  unfold maxLen at hla2
  have Ha := Lib.hid ha
  clear ha
  go_enter Try.func92, Try.ntmps92
  go_wp2
  go_loopw [5] (fun i wr => ∃ k : Nat, k ≤ la.length ∧ i = .int .i64 k ∧ n ∉ la.take k ∧ Turned w wr (fun _ => False)) (fun i _ => la.length - (intOf i).toNat)
  case atStart => exact ⟨0, Nat.zero_le _, rfl, by simp, Turned.refl _ _⟩
  case round =>
    obtain ⟨k, hk, rfl, htk, ht⟩ := hrel
    have Htk := Lib.hid htk
    clear htk
    by_cases hlt : k < la.length
    · have hki : (k : Int) < (la.length : Int) := by omega
      obtain ⟨ga, oa, rfl, lga, xa⟩ := Ha.out.at k hlt
      have pa := (ht.cell (p := ⟨ga, oa + k, none⟩) lga (fun hf => hf)).trans xa
      have Hyes := Lib.hid (fun (h : la[k] = n) => show inB la n = true from decide_eq_true (by rw [← h]; exact List.getElem_mem hlt))
      have Hno := Lib.hid (fun (h : la[k] ≠ n) => show n ∉ la.take (k + 1) by
        rw [List.take_succ_eq_append_getElem hlt, List.mem_append]
        intro hm
        rcases hm with hm | hm
        · exact Htk.out hm
        · exact h (List.mem_singleton.1 hm).symm)
      have lga' : ga < wr.heap.size := Nat.lt_of_lt_of_le lga ht.size
      have Ht := Lib.hid ht
      clear xa ht lga
      generalize la[k] = x at *
      by_cases hxy : x = n
      · have hf := Hyes.out hxy
        have Hf := Lib.hid hf
        subst hxy
        clear hf Hyes Hno
        go_wp2
        go_ret
        rw [Hf.out]
        exact ⟨rfl, Ht.out⟩
      · have hf := Hno.out hxy
        have Hf := Lib.hid hf
        have e1 : (x == n) = false := by simpa using hxy
        clear hf Hyes Hno hxy
        go_wp2
        go_roundw
        case rel => exact ⟨k + 1, by omega, by go_num, Hf.out, Ht.out⟩
        case measure => simp [intOf]; omega
    · obtain rfl : k = la.length := by omega
      have hfin : inB la n = false := decide_eq_false (by
        have h5 := Htk.out
        rwa [List.take_of_length_le (Nat.le_refl _)] at h5)
      have Hfin := Lib.hid hfin
      clear hfin
      go_wp2
      go_ret
      rw [Hfin.out]
      exact ⟨rfl, ht⟩

/-- What vars gives. -/
def VarsPost (w0 w : World) (l : List Int) (e : Ending) (w' : World) : Prop := ∃ v, e = .returned v ∧ OwnI w' w0.heap.size v l ∧ TurnedI w0.heap.size w w'

set_option maxRecDepth 100000 in
set_option maxHeartbeats 1600000 in
theorem rvars_any (w0 : World) : ∀ (ta : Tm) (va : Value) (w : World) (v : Value) (out : List Int), TmIn w0 ta va → Turned w0 w (fun _ => False) → OwnI w w0.heap.size v out → out.length + ta.size ≤ 1000000 →
    Calls Try.prog 82 #[va, v] w (VarsPost w0 w (ta.vars out)) := by
  intro ta
  refine Tm.ind (P := fun ta => ∀ (va : Value) (w : World) (v : Value) (out : List Int), TmIn w0 ta va → Turned w0 w (fun _ => False) → OwnI w w0.heap.size v out → out.length + ta.size ≤ 1000000 →
    Calls Try.prog 82 #[va, v] w (VarsPost w0 w (ta.vars out))) ?_ ta
  clear ta
  intro ka na la ih va w v out ha h0 ho hlen
  obtain ⟨aa, ca, rfl, hla, ra⟩ := ha
  obtain ⟨av, cv, rfl⟩ := ho.form
  have hla2 := hla
  unfold maxLen at hla2
  obtain ⟨W, hW, tW, hC⟩ := box1 w (.int .i64 ka) (.int .i64 na) (.slice aa la.length ca) 24
  obtain ⟨c0, c1, c2, lW⟩ := hC W (Turned.refl _ _)
  have kb : W.heap[w.heap.size]? = some (.cells #[.int .i64 ka, .int .i64 na, .slice aa la.length ca] 24 (0, 0)) := by rw [hW]; exact heap_alloc_new _ _
  have hB : ∀ V, TurnedI w0.heap.size W V → V.cell? ⟨w.heap.size, 2, none⟩ = some (.slice aa la.length ca) ∧ w.heap.size < V.heap.size := fun V hV => by
    have := hV.cellT kb (by decide)
    exact ⟨by simp [World.cell?, this], lt_of_block this⟩
  have hoW := ho.step tW
  have h0W := h0.trans tW (fun _ _ hf => hf)
  have HW := Lib.hid hW
  have Ih := Lib.hid ih
  have TW := Lib.hid tW
  have Ra := Lib.hid ra
  have HB := Lib.hid hB
  have HoW := Lib.hid hoW
  have H0W := Lib.hid h0W
  clear hW ih hC tW ra hB ho h0 kb hoW h0W
  by_cases hk : ka = 1
  · subst hk
    have hI := rin_any out na (.slice av out.length cv) W HoW.out.row
    have HI := Lib.hid hI
    clear hI
    cases hin : inB out na with
    | true =>
      have hv : (Tm.node 1 na la).vars out = out := by simp [Tm.vars, hin]
      rw [hv]
      have Hin := Lib.hid hin
      clear hv hin
      go_enter Try.func82, Try.ntmps82
      go_wp2_with fail
      rw [← HW.out]
      refine HI.out.mono ?_
      rintro e w1 ⟨rfl, t1⟩
      rw [Hin.out]
      have Hfin := Lib.hid (show OwnI w1 w0.heap.size (.slice av out.length cv) out from HoW.out.step t1)
      have T1 := Lib.hid (TW.out.trans t1 (fun _ _ hf => hf))
      clear t1 c0 c1 c2
      go_wp2
      go_ret
      exact ⟨_, rfl, Hfin.out, TurnedI.of T1.out⟩
    | false =>
      have hv : (Tm.node 1 na la).vars out = out ++ [na] := by simp [Tm.vars, hin]
      rw [hv]
      have Hin := Lib.hid hin
      have hol : out.length ≤ 1000000 := by omega
      clear hv hin
      go_enter Try.func82, Try.ntmps82
      go_wp2_with fail
      rw [← HW.out]
      refine HI.out.mono ?_
      rintro e w1 ⟨rfl, t1⟩
      rw [Hin.out]
      have ho1 : OwnI w1 w0.heap.size (.slice av out.length cv) out := HoW.out.step t1
      have T1 := Lib.hid (TW.out.trans t1 (fun _ _ hf => hf))
      have d1 := (t1.cell (p := ⟨w.heap.size, 1, none⟩) lW (fun hf => hf)).trans c1
      have l1 := Nat.lt_of_lt_of_le lW t1.size
      have hz1 := H0W.out.size
      have hz2 := t1.size
      have hA : OwnI (w1.alloc (.cells #[.int .i64 na] 3)) w0.heap.size (.slice av out.length cv) out := ho1.step ((Turned.refl _ _).alloc _)
      have hG := heap_alloc_new w1 (.cells #[.int .i64 na] 3)
      have hBs : w0.heap.size ≤ (w1.alloc (.cells #[.int .i64 na] 3)).heap.size := by simp; omega
      have HT := Lib.hid (show Turned w (w1.alloc (.cells #[.int .i64 na] 3)) (fun _ => False) from T1.out.alloc _)
      clear t1 c0 c1 c2 ho1
      go_wp2_with (at_builtin; refine append_int _ (by rfl) _ _ (by rfl) w0.heap.size (.slice av out.length cv) out (by rfl) hA w1.heap.size na (by rfl) hG hol hBs ?_; intro p5 c5 w5 ho5 ht5)
      go_ret
      exact ⟨_, rfl, by simpa using ho5, (TurnedI.of HT.out).trans ht5⟩
  · have hv : (Tm.node ka na la).vars out = Tm.varss la out := by simp [Tm.vars, hk]
    rw [hv]
    have e1 : (ka == 1) = false := by simpa using hk
    have hsz : out.length + Tm.sizes la ≤ 1000000 := by simp only [Tm.size] at hlen; omega
    clear hv hk hlen
    go_enter Try.func82, Try.ntmps82
    go_wp2_with fail
    rw [← HW.out]
    go_wp2
    clear c0 c1 c2 lW e1
    go_loopw [5, 1] (fun i u wr => ∃ k : Nat, k ≤ la.length ∧ i = .int .i64 k ∧ OwnI wr w0.heap.size u (Tm.varss (la.take k) out) ∧ TurnedI w0.heap.size W wr) (fun i _ _ => la.length - (intOf i).toNat)
    case atStart => exact ⟨0, Nat.zero_le _, rfl, HoW.out, TurnedI.refl _ _⟩
    case round =>
      obtain ⟨k, hk, rfl, hor, ht⟩ := hrel
      obtain ⟨c2, lC⟩ := HB.out wr ht
      by_cases hlt : k < la.length
      · have hki : (k : Int) < (la.length : Int) := by omega
        have h0r : Turned w0 wr (fun _ => False) := TurnedI.old H0W.out ht
        obtain ⟨ga, oa, x0, x1, x2, rfl, lga, xa0, xa1, xa2, xat⟩ := tmsIn_at Ra.out k hlt
        have lga' : ga < wr.heap.size := Nat.lt_of_lt_of_le lga h0r.size
        have p0 := (h0r.cell (p := ⟨ga, oa + k * 3, none⟩) lga (fun hf => hf)).trans xa0
        have p1 := (h0r.cell (p := ⟨ga, oa + k * 3 + 1, none⟩) lga (fun hf => hf)).trans xa1
        have p2 := (h0r.cell (p := ⟨ga, oa + k * 3 + 2, none⟩) lga (fun hf => hf)).trans xa2
        have hl1 := Tm.varss_len (la.take k) out
        have hl2 : Tm.sizes (la.take k) + la[k].size ≤ Tm.sizes la := by
          have h3 := Tm.sizes_app (la.take (k + 1)) (la.drop (k + 1))
          rw [List.take_append_drop, List.take_succ_eq_append_getElem hlt, Tm.sizes_app] at h3
          simp only [Tm.sizes] at h3
          omega
        have hcall := Ih.out la[k] (List.getElem_mem hlt) (.agg #[x0, x1, x2]) wr u1 _ xat h0r hor (by omega)
        have hsn : la[k].vars (Tm.varss (la.take k) out) = Tm.varss (la.take (k + 1)) out := by
          rw [List.take_succ_eq_append_getElem hlt, Tm.varss_app]
          rfl
        rw [hsn] at hcall
        have Hcall := Lib.hid hcall
        have Ht := Lib.hid ht
        clear xa0 xa1 xa2 xat ht lga hsn hcall hl1 hl2 h0r hor
        go_wp2_with fail
        refine Hcall.out.mono ?_
        rintro e w1 ⟨v1, rfl, ho1, t1⟩
        have HO1 := Lib.hid ho1
        have T1 := Lib.hid (Ht.out.trans t1)
        clear ho1 t1 p0 p1 p2 c2
        go_wp2
        go_roundw
        case rel => exact ⟨k + 1, by omega, by go_num, HO1.out, T1.out⟩
        case measure => simp [intOf]; omega
      · obtain rfl : k = la.length := by omega
        rw [List.take_of_length_le (Nat.le_refl _)] at hor
        have Hor := Lib.hid hor
        have Ht := Lib.hid ht
        clear hor ht
        go_wp2
        go_ret
        exact ⟨_, rfl, Hor.out, (TurnedI.of TW.out).trans Ht.out⟩
end Go.Proofs.Ytljnmjehokijgaa

/- Vars, Most, depth, Size, Ground. -/
namespace Go.Proofs.Ytljnmjehokijgaa
open Go.RowKit

theorem OwnI.empty (w : World) (B : Nat) (h : B ≤ w.heap.size) : OwnI (w.alloc (.cells #[] 3)) B (.slice (some ⟨w.heap.size, 0, none⟩) 0 0) [] :=
  ⟨rfl, .inr ⟨_, 0, #[], rfl, h, heap_alloc_new w _, Nat.le_refl _, Nat.zero_le _, rfl, rfl⟩⟩

mutual
/-- A tree that is counted out has as many nodes as are gone. -/
theorem Tm.cnt_size (M : Int) : ∀ (t : Tm) (left deep : Int), (t.cnt M left deep).2 = true → (t.cnt M left deep).1 = left - t.size
  | .node _ _ l, left, deep, h => by
    simp only [Tm.cnt] at h ⊢
    split at h
    · cases h
    · rename_i h2
      rw [if_neg h2]
      have := Tm.cnts_size M l (left - 1) deep h
      simp only [Tm.size]
      omega
theorem Tm.cnts_size (M : Int) : ∀ (l : List Tm) (left deep : Int), (Tm.cnts M l left deep).2 = true → (Tm.cnts M l left deep).1 = left - Tm.sizes l
  | [], left, deep, h => by simp [Tm.cnts, Tm.sizes]
  | t :: l, left, deep, h => by
    simp only [Tm.cnts] at h ⊢
    split at h
    · rename_i h2
      rw [if_pos h2]
      have h3 := Tm.cnt_size M t left (deep + 1) h2
      have h4 := Tm.cnts_size M l _ deep h
      simp only [Tm.sizes]
      omega
    · cases h
end

theorem Tm.isTree_size {t : Tm} (h : t.isTree = true) : t.size ≤ 2000 := by
  simp only [Tm.isTree, Bool.and_eq_true] at h
  have h1 := Tm.cnt_size 200 t 2000 1 h.1
  have h2 := (Tm.cnt_le 200 t 2000 1 (by omega)).2.2 h.1
  omega

/-- The variables of trees. -/
def varsOf (la : List Tm) : List Int := if la.all Tm.isTree = true then Tm.varss la [] else []

set_option maxRecDepth 100000 in
set_option maxHeartbeats 1600000 in
theorem rvarsOf_any (la : List Tm) (va : Value) (w : World) (ha : RowTm w va la) (hsz : Tm.sizes la ≤ 1000000) :
    Calls Try.prog 64 #[va] w fun e w' => ∃ v, e = .returned v ∧ OwnI w' w.heap.size v (varsOf la) ∧ Turned w w' (fun _ => False) := by
  have ha2 := ha
  obtain ⟨aa, ca, rfl, hla, ra⟩ := ha2
  have hla2 := hla
  unfold maxLen at hla2
  obtain ⟨W, hW⟩ : ∃ W, W = w.alloc (.cells #[] 3) := ⟨_, rfl⟩
  have tW : Turned w W (fun _ => False) := by rw [hW]; exact (Turned.refl _ _).alloc _
  have oW : OwnI W w.heap.size (.slice (some ⟨w.heap.size, 0, none⟩) 0 0) [] := by rw [hW]; exact OwnI.empty w _ (Nat.le_refl _)
  have HA := Lib.hid (rall_any la _ W (ha.turned tW))
  have HW := Lib.hid hW
  have TW := Lib.hid tW
  have OW := Lib.hid oW
  have Ra := Lib.hid ra
  clear ha hW tW oW ra
  cases hall : la.all Tm.isTree with
  | false =>
    have hv : varsOf la = [] := by unfold varsOf; rw [hall]; rfl
    rw [hv]
    have Hall := Lib.hid hall
    clear hv hall
    go_enter Try.func64, Try.ntmps64
    go_wp2_with fail
    rw [← HW.out]
    refine HA.out.mono ?_
    rintro e w1 ⟨rfl, t1⟩
    rw [Hall.out]
    have Hfin := Lib.hid (OW.out.step t1)
    have T1 := Lib.hid (TW.out.trans t1 (fun _ _ hf => hf))
    clear t1
    go_wp2
    go_ret
    exact ⟨_, rfl, Hfin.out, T1.out⟩
  | true =>
    have hv : varsOf la = Tm.varss la [] := by unfold varsOf; rw [hall]; rfl
    rw [hv]
    have Hall := Lib.hid hall
    clear hv hall
    go_enter Try.func64, Try.ntmps64
    go_wp2_with fail
    rw [← HW.out]
    refine HA.out.mono ?_
    rintro e w1 ⟨rfl, t1⟩
    rw [Hall.out]
    have Hfin := Lib.hid (OW.out.step t1)
    have T1 := Lib.hid (TW.out.trans t1 (fun _ _ hf => hf))
    clear t1
    go_wp2
    go_loopw [4, 3] (fun i u wr => ∃ k : Nat, k ≤ la.length ∧ i = .int .i64 k ∧ OwnI wr w.heap.size u (Tm.varss (la.take k) []) ∧ Turned w wr (fun _ => False)) (fun i _ _ => la.length - (intOf i).toNat)
    case atStart => exact ⟨0, Nat.zero_le _, rfl, Hfin.out, T1.out⟩
    case round =>
      obtain ⟨k, hk, rfl, hor, h0r⟩ := hrel
      by_cases hlt : k < la.length
      · have hki : (k : Int) < (la.length : Int) := by omega
        obtain ⟨ga, oa, x0, x1, x2, rfl, lga, xa0, xa1, xa2, xat⟩ := tmsIn_at Ra.out k hlt
        have lga' : ga < wr.heap.size := Nat.lt_of_lt_of_le lga h0r.size
        have p0 := (h0r.cell (p := ⟨ga, oa + k * 3, none⟩) lga (fun hf => hf)).trans xa0
        have p1 := (h0r.cell (p := ⟨ga, oa + k * 3 + 1, none⟩) lga (fun hf => hf)).trans xa1
        have p2 := (h0r.cell (p := ⟨ga, oa + k * 3 + 2, none⟩) lga (fun hf => hf)).trans xa2
        have hl1 := Tm.varss_len (la.take k) []
        have hl2 : Tm.sizes (la.take k) + la[k].size ≤ Tm.sizes la := by
          have h3 := Tm.sizes_app (la.take (k + 1)) (la.drop (k + 1))
          rw [List.take_append_drop, List.take_succ_eq_append_getElem hlt, Tm.sizes_app] at h3
          simp only [Tm.sizes] at h3
          omega
        have hcall := rvars_any w la[k] (.agg #[x0, x1, x2]) wr u3 _ xat h0r hor (by simp only [List.length_nil] at hl1; omega)
        have hsn : la[k].vars (Tm.varss (la.take k) []) = Tm.varss (la.take (k + 1)) [] := by
          rw [List.take_succ_eq_append_getElem hlt, Tm.varss_app]
          rfl
        rw [hsn] at hcall
        have Hcall := Lib.hid hcall
        have H0r := Lib.hid h0r
        clear xa0 xa1 xa2 xat lga hsn hcall hl1 hl2 h0r hor
        go_wp2_with fail
        refine Hcall.out.mono ?_
        rintro e w1 ⟨v1, rfl, ho1, t1⟩
        have HO1 := Lib.hid ho1
        have T1 := Lib.hid (TurnedI.old H0r.out t1)
        clear ho1 t1 p0 p1 p2
        go_wp2
        go_roundw
        case rel => exact ⟨k + 1, by omega, by go_num, HO1.out, T1.out⟩
        case measure => simp [intOf]; omega
      · obtain rfl : k = la.length := by omega
        rw [List.take_of_length_le (Nat.le_refl _)] at hor
        have Hor := Lib.hid hor
        have Ht := Lib.hid h0r
        clear hor h0r
        go_wp2
        go_ret
        exact ⟨_, rfl, Hor.out, Ht.out⟩

/-- The greatest number of a list, and of n. -/
def mostI : List Int → Int → Int
  | [], n => n
  | x :: l, n => mostI l (max n x)

theorem mostI_snoc : ∀ (l : List Int) (x n : Int), mostI (l ++ [x]) n = max (mostI l n) x
  | [], _, _ => rfl
  | y :: l, x, n => by simp only [List.cons_append, mostI]; exact mostI_snoc l x _

set_option maxRecDepth 100000 in
set_option maxHeartbeats 1600000 in
theorem rmost_any (la : List Int) (va : Value) (w : World) (ha : RowI w va la) :
    Calls Try.prog 63 #[va] w fun e w' => e = .returned (.int .i64 (mostI la (-1))) ∧ Turned w w' (fun _ => False) := by
  have ha2 := ha
  obtain ⟨aa, ca, rfl, hla, -⟩ := ha2
  have hla2 := hla
  unfold maxLen at hla2
  have Ha := Lib.hid ha
  clear ha
  go_enter Try.func63, Try.ntmps63
  go_wp2
  go_loopw [4, 3] (fun i n wr => ∃ k : Nat, k ≤ la.length ∧ i = .int .i64 k ∧ n = .int .i64 (mostI (la.take k) (-1)) ∧ Turned w wr (fun _ => False)) (fun i _ _ => la.length - (intOf i).toNat)
  case atStart => exact ⟨0, Nat.zero_le _, rfl, rfl, Turned.refl _ _⟩
  case round =>
    obtain ⟨k, hk, rfl, rfl, ht⟩ := hrel
    by_cases hlt : k < la.length
    · have hki : (k : Int) < (la.length : Int) := by omega
      obtain ⟨ga, oa, rfl, lga, xa⟩ := Ha.out.at k hlt
      have pa := (ht.cell (p := ⟨ga, oa + k, none⟩) lga (fun hf => hf)).trans xa
      have hsn : mostI (la.take (k + 1)) (-1) = max (mostI (la.take k) (-1)) la[k] := by rw [List.take_succ_eq_append_getElem hlt, mostI_snoc]
      have Hsn := Lib.hid hsn
      have lga' : ga < wr.heap.size := Nat.lt_of_lt_of_le lga ht.size
      have Ht := Lib.hid ht
      clear xa ht lga hsn
      generalize mostI (la.take k) (-1) = m at *
      generalize la[k] = x at *
      go_wp2
      go_roundw
      case rel => exact ⟨k + 1, by omega, by go_num, by rw [Hsn.out, Int.max_def]; congr 1; split <;> split <;> omega, Ht.out⟩
      case measure => simp [intOf]; omega
    · obtain rfl : k = la.length := by omega
      rw [List.take_of_length_le (Nat.le_refl _)]
      generalize hm : mostI la (-1) = m
      have Hm := Lib.hid hm
      clear hm
      go_wp2
      go_ret
      rw [Hm.out]
      exact ⟨rfl, ht⟩

mutual
/-- How deep a tree is. -/
def Tm.depth : Tm → Nat
  | .node _ _ l => Tm.depths l 0 + 1
def Tm.depths : List Tm → Nat → Nat
  | [], n => n
  | t :: l, n => Tm.depths l (max n t.depth)
end

theorem Tm.depths_snoc : ∀ (l : List Tm) (t : Tm) (n : Nat), Tm.depths (l ++ [t]) n = max (Tm.depths l n) t.depth
  | [], _, _ => rfl
  | y :: l, t, n => by simp only [List.cons_append, Tm.depths]; exact Tm.depths_snoc l t _

mutual
theorem Tm.depth_size : ∀ t : Tm, t.depth ≤ t.size
  | .node _ _ l => by have := Tm.depths_size l 0; simp only [Tm.depth, Tm.size]; omega
theorem Tm.depths_size : ∀ (l : List Tm) (n : Nat), Tm.depths l n ≤ max n (Tm.sizes l)
  | [], n => by simp [Tm.depths, Tm.sizes]
  | t :: l, n => by
    have h1 := Tm.depth_size t
    have h2 := Tm.depths_size l (max n t.depth)
    simp only [Tm.depths, Tm.sizes]
    omega
end

theorem Tm.sizes_mem : ∀ {l : List Tm} {t : Tm}, t ∈ l → t.size ≤ Tm.sizes l
  | x :: l, t, h => by
    simp only [Tm.sizes]
    rcases List.mem_cons.1 h with rfl | h
    · omega
    · have := Tm.sizes_mem h; omega

theorem Tm.sizes_take (l : List Tm) (k : Nat) : Tm.sizes (l.take k) ≤ Tm.sizes l := by
  have h := Tm.sizes_app (l.take k) (l.drop k)
  rw [List.take_append_drop] at h
  omega

end Go.Proofs.Ytljnmjehokijgaa

/- Size, Ground. -/
namespace Go.Proofs.Ytljnmjehokijgaa
open Go.RowKit

/-- How many nodes a tree has, and how deep it is, as Size tells. -/
def Tm.size2 (t : Tm) : Int × Int := if (t.cnt 200 2000 1).2 = true then (2000 - (t.cnt 200 2000 1).1, (t.depth : Int)) else (2001, 201)

/-- What Size gives. -/
def SizePost (X : Int × Int) (e : Ending) : Prop := e = .returned (.tuple #[.int .i64 X.1, .int .i64 X.2])

theorem rowTm_one {w w' : World} {t : Tm} {x y z : Value} {g : Nat} (h : TmIn w t (.agg #[x, y, z])) (hw : Turned w w' (fun _ => False)) (hg : w'.heap[g]? = some (.cells #[x, y, z] 24 (0, 0))) (cap : Nat) :
    RowTm w' (.slice (some ⟨g, 0, none⟩) 1 cap) [t] := by
  refine ⟨_, cap, rfl, by unfold maxLen; simp, g, 0, x, y, z, rfl, lt_of_block hg, ?_, ?_, ?_, TmIn.turned hw _ h, trivial⟩ <;> simp [World.cell?, hg]

/-- A tree without variables. -/
def Tm.ground (t : Tm) : Bool := t.isTree && decide ((varsOf [t]).length = 0)

end Go.Proofs.Ytljnmjehokijgaa

/- Trees gone through from the root on, each node shown to something that keeps a state. -/
namespace Go.Proofs.Ytljnmjehokijgaa
open Go.RowKit

mutual
/-- Each node shown to f, up to the first one that it refuses. -/
def Tm.visit {σ : Type} (f : σ → Tm → σ × Bool) : Tm → σ → σ × Bool
  | .node k n l, s => if (f s (.node k n l)).2 = true then Tm.visits f l (f s (.node k n l)).1 else ((f s (.node k n l)).1, false)
def Tm.visits {σ : Type} (f : σ → Tm → σ × Bool) : List Tm → σ → σ × Bool
  | [], s => (s, true)
  | t :: l, s => if (t.visit f s).2 = true then Tm.visits f l (t.visit f s).1 else ((t.visit f s).1, false)
end

theorem Tm.visits_snoc {σ : Type} (f : σ → Tm → σ × Bool) : ∀ (l : List Tm) (t : Tm) (s : σ), Tm.visits f (l ++ [t]) s = if (Tm.visits f l s).2 = true then t.visit f (Tm.visits f l s).1 else Tm.visits f l s
  | [], t, s => by
    simp only [List.nil_append, Tm.visits, if_true]
    rcases t.visit f s with ⟨x, b⟩
    cases b <;> simp
  | x :: l, t, s => by
    simp only [List.cons_append, Tm.visits]
    split
    · exact Tm.visits_snoc f l t _
    · simp

theorem Tm.visits_stop {σ : Type} (f : σ → Tm → σ × Bool) : ∀ (l m : List Tm) (s : σ), (Tm.visits f l s).2 = false → Tm.visits f (l ++ m) s = Tm.visits f l s
  | [], m, s, h => by simp [Tm.visits] at h
  | x :: l, m, s, h => by
    simp only [List.cons_append, Tm.visits] at h ⊢
    split
    · rename_i h2
      rw [if_pos h2] at h
      exact Tm.visits_stop f l m _ h
    · rfl

/-- Is a node right, apart from its elements? -/
def Tm.okNode : Tm → Bool
  | .node k n l => (k == 1 && !decide (n < 0) && decide (l.length = 0)) || (k == 2 && !decide (n < 0) && decide (l.length ≤ 8))

theorem Tm.right_ok (k n : Int) (l : List Tm) : (Tm.node k n l).right = ((Tm.node k n l).okNode && Tm.rights l) := by
  by_cases h1 : k = 1
  · subst h1
    cases l with
    | nil => simp [Tm.right, Tm.okNode, Tm.rights]
    | cons x l => simp [Tm.right, Tm.okNode]
  · by_cases h2 : k = 2
    · subst h2
      simp [Tm.right, Tm.okNode]
    · have e1 : (k == 1) = false := by simpa using h1
      have e2 : (k == 2) = false := by simpa using h2
      simp [Tm.right, Tm.okNode, e1, e2]

mutual
theorem Tm.visit_right : ∀ t : Tm, t.visit (fun (s : Unit) x => (s, x.okNode)) () = ((), t.right)
  | .node k n l => by
    rw [Tm.right_ok]
    simp only [Tm.visit, Tm.visits_right l]
    cases (Tm.node k n l).okNode <;> simp
theorem Tm.visits_right : ∀ l : List Tm, Tm.visits (fun (s : Unit) x => (s, x.okNode)) l () = ((), Tm.rights l)
  | [] => rfl
  | t :: l => by
    simp only [Tm.visits, Tm.rights, Tm.visit_right t, Tm.visits_right l]
    cases t.right <;> simp
end

mutual
/-- What a look that never refuses makes of a state: the visits one behind the other. -/
def Tm.walk {σ : Type} (f : σ → Tm → σ) : Tm → σ → σ
  | .node k n l, s => Tm.walks f l (f s (.node k n l))
def Tm.walks {σ : Type} (f : σ → Tm → σ) : List Tm → σ → σ
  | [], s => s
  | t :: l, s => Tm.walks f l (t.walk f s)
end

mutual
theorem Tm.visit_walk {σ : Type} (f : σ → Tm → σ) : ∀ (t : Tm) (s : σ), t.visit (fun s x => (f s x, true)) s = (t.walk f s, true)
  | .node k n l, s => by simp only [Tm.visit, Tm.walk, if_true]; exact Tm.visits_walk f l _
theorem Tm.visits_walk {σ : Type} (f : σ → Tm → σ) : ∀ (l : List Tm) (s : σ), Tm.visits (fun s x => (f s x, true)) l s = (Tm.walks f l s, true)
  | [], s => rfl
  | t :: l, s => by simp only [Tm.visits, Tm.walks, Tm.visit_walk f t s, if_true]; exact Tm.visits_walk f l _
end

theorem Tm.walks_app {σ : Type} (f : σ → Tm → σ) : ∀ (l m : List Tm) (s : σ), Tm.walks f (l ++ m) s = Tm.walks f m (Tm.walks f l s)
  | [], m, s => rfl
  | t :: l, m, s => by simp only [List.cons_append, Tm.walks]; exact Tm.walks_app f l m _

mutual
/-- Do all nodes have p? -/
def Tm.every (p : Tm → Bool) : Tm → Bool
  | .node k n l => p (.node k n l) && Tm.everys p l
def Tm.everys (p : Tm → Bool) : List Tm → Bool
  | [] => true
  | t :: l => t.every p && Tm.everys p l
end

mutual
theorem Tm.visit_every (p : Tm → Bool) : ∀ t : Tm, t.visit (fun (s : Unit) x => (s, p x)) () = ((), t.every p)
  | .node k n l => by
    simp only [Tm.visit, Tm.every, Tm.visits_every p l]
    cases p (.node k n l) <;> simp
theorem Tm.visits_every (p : Tm → Bool) : ∀ l : List Tm, Tm.visits (fun (s : Unit) x => (s, p x)) l () = ((), Tm.everys p l)
  | [] => rfl
  | t :: l => by
    simp only [Tm.visits, Tm.everys, Tm.visit_every p t, Tm.visits_every p l]
    cases t.every p <;> simp
end

mutual
/-- How many nodes there are and how deep they go, counted up to the limits. -/
def Tm.cn : Tm → Int → Int → Int → (Int × Int) × Bool
  | .node _ _ l, n, d, deep => if 2000 < n + 1 ∨ 200 < deep then ((n + 1, max d deep), false) else Tm.cns l (n + 1) (max d deep) deep
def Tm.cns : List Tm → Int → Int → Int → (Int × Int) × Bool
  | [], n, d, _ => ((n, d), true)
  | t :: l, n, d, deep => if (t.cn n d (deep + 1)).2 = true then Tm.cns l (t.cn n d (deep + 1)).1.1 (t.cn n d (deep + 1)).1.2 deep else ((t.cn n d (deep + 1)).1, false)
end

theorem Tm.cns_snoc : ∀ (l : List Tm) (t : Tm) (n d deep : Int), Tm.cns (l ++ [t]) n d deep = if (Tm.cns l n d deep).2 = true then t.cn (Tm.cns l n d deep).1.1 (Tm.cns l n d deep).1.2 (deep + 1) else Tm.cns l n d deep
  | [], t, n, d, deep => by
    simp only [List.nil_append, Tm.cns, if_true]
    rcases t.cn n d (deep + 1) with ⟨⟨x, y⟩, b⟩
    cases b <;> simp
  | x :: l, t, n, d, deep => by
    simp only [List.cons_append, Tm.cns]
    split
    · exact Tm.cns_snoc l t _ _ deep
    · simp

theorem Tm.cns_stop : ∀ (l m : List Tm) (n d deep : Int), (Tm.cns l n d deep).2 = false → Tm.cns (l ++ m) n d deep = Tm.cns l n d deep
  | [], m, n, d, deep, h => by simp [Tm.cns] at h
  | x :: l, m, n, d, deep, h => by
    simp only [List.cons_append, Tm.cns] at h ⊢
    split
    · rename_i h2
      rw [if_pos h2] at h
      exact Tm.cns_stop l m _ _ deep h
    · rfl

theorem Tm.depths_max : ∀ (l : List Tm) (n : Nat), Tm.depths l n = max n (Tm.depths l 0)
  | [], n => by simp [Tm.depths]
  | t :: l, n => by
    simp only [Tm.depths]
    rw [Tm.depths_max l (max n t.depth), Tm.depths_max l (max 0 t.depth)]
    omega

mutual
/-- The two ways of counting agree. -/
theorem Tm.cn_cnt : ∀ (t : Tm) (n d deep : Int), (t.cn n d deep).2 = (t.cnt 200 (2000 - n) deep).2 ∧ (t.cn n d deep).1.1 = 2000 - (t.cnt 200 (2000 - n) deep).1 ∧ ((t.cn n d deep).2 = true → (t.cn n d deep).1.2 = max d (deep - 1 + t.depth))
  | .node k m l, n, d, deep => by
    have h := Tm.cns_cnt l (n + 1) (max d deep) deep
    have e : (2000 : Int) - n - 1 = 2000 - (n + 1) := by omega
    simp only [Tm.cn, Tm.cnt, e]
    by_cases g : 2000 < n + 1 ∨ 200 < deep
    · rw [if_pos g, if_pos (by omega)]
      exact ⟨rfl, by simp only; omega, fun hh => by cases hh⟩
    · rw [if_neg g, if_neg (by omega)]
      refine ⟨h.1, h.2.1, fun hh => ?_⟩
      rw [h.2.2 hh (by omega)]
      simp only [Tm.depth]
      omega
theorem Tm.cns_cnt : ∀ (l : List Tm) (n d deep : Int), (Tm.cns l n d deep).2 = (Tm.cnts 200 l (2000 - n) deep).2 ∧ (Tm.cns l n d deep).1.1 = 2000 - (Tm.cnts 200 l (2000 - n) deep).1 ∧ ((Tm.cns l n d deep).2 = true → deep ≤ d → (Tm.cns l n d deep).1.2 = max d (deep + Tm.depths l 0))
  | [], n, d, deep => by
    simp only [Tm.cns, Tm.cnts, Tm.depths]
    exact ⟨trivial, by omega, fun _ _ => by omega⟩
  | t :: l, n, d, deep => by
    have h1 := Tm.cn_cnt t n d (deep + 1)
    simp only [Tm.cns, Tm.cnts]
    rw [← h1.1]
    by_cases g : (t.cn n d (deep + 1)).2 = true
    · rw [if_pos g, if_pos g]
      have h2 := Tm.cns_cnt l (t.cn n d (deep + 1)).1.1 (t.cn n d (deep + 1)).1.2 deep
      have e : 2000 - (t.cn n d (deep + 1)).1.1 = (t.cnt 200 (2000 - n) (deep + 1)).1 := by rw [h1.2.1]; omega
      rw [e] at h2
      refine ⟨h2.1, h2.2.1, fun hh hd => ?_⟩
      have h3 := h1.2.2 g
      rw [h2.2.2 hh (by rw [h3]; omega), h3]
      simp only [Tm.depths]
      rw [Tm.depths_max l (max 0 t.depth)]
      omega
    · rw [if_neg g, if_neg g]
      exact ⟨rfl, by rw [h1.2.1], fun hh => by cases hh⟩
end
end Go.Proofs.Ytljnmjehokijgaa
