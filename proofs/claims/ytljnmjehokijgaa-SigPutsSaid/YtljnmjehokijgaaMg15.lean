/- Parts of the proof, one behind the other. -/
import Derived.Orders
import Derived.Test.YtljnmjehokijgaaMg14

/- A region that draws its order: each operation by itself, whatever came before it. -/
namespace Go.Proofs.Ytljnmjehokijgaa
open Go.RowKit

section
variable {P : Program} {ops : Array Oper} {Q : Exit → Act → World → Prop} {md : Region.Mode}

/-- How many are not listed. -/
def unlisted (n : Nat) (l : Array Bool) : Nat := ((List.range n).filter (fun i => !l.getD i true)).length

theorem unlisted_set {n i : Nat} {l : Array Bool} (hi : i < n) (hl : l.getD i true = false) : unlisted n (l.setIfInBounds i true) < unlisted n l := by
  unfold unlisted
  have hil : i < l.size := by
    rcases Nat.lt_or_ge i l.size with h | h
    · exact h
    · rw [Array.getD, dif_neg (by omega)] at hl; cases hl
  have hsub : ((List.range n).filter (fun j => !(l.setIfInBounds i true).getD j true)).Sublist ((List.range n).filter (fun j => !l.getD j true)) := by
    have : (List.range n).filter (fun j => !(l.setIfInBounds i true).getD j true) = ((List.range n).filter (fun j => !l.getD j true)).filter (fun j => j != i) := by
      rw [List.filter_filter]
      apply List.filter_congr
      intro j _
      by_cases hj : j = i
      · subst hj
        simp [Array.getD, hil]
      · have : (l.setIfInBounds i true).getD j true = l.getD j true := by
          simp only [Array.getD_eq_getD_getElem?]
          rw [Array.getElem?_setIfInBounds_ne (by omega)]
        rw [this]
        simp [hj]
    rw [this]
    exact List.filter_sublist
  rcases Nat.lt_or_ge ((List.range n).filter (fun j => !(l.setIfInBounds i true).getD j true)).length ((List.range n).filter (fun j => !l.getD j true)).length with h | h
  · exact h
  · exfalso
    have he := hsub.eq_of_length_le h
    have hm : i ∈ (List.range n).filter (fun j => !l.getD j true) := by
      rw [List.mem_filter]
      exact ⟨by simpa using hi, by rw [hl]; rfl⟩
    rw [← he, List.mem_filter] at hm
    have := hm.2
    simp [Array.getD, hil] at this

theorem ready_mem {l : Array Bool} {i : Nat} (h : i ∈ Region.ready md ops l) : i < ops.size ∧ l.getD i true = false ∧ ∀ o, ops[i]? = some o → o.after.all (fun e => !Region.binds md e || l.getD e.on false) = true := by
  unfold Region.ready at h
  rw [List.mem_filter] at h
  obtain ⟨h1, h2⟩ := h
  simp only [Bool.and_eq_true, Bool.not_eq_true'] at h2
  refine ⟨by simpa using h1, h2.1, fun o ho => ?_⟩
  rw [ho] at h2
  simpa using h2.2

/-- Whatever is kept by each operation that may come up holds behind the region. -/
theorem wpAny_inv {Inv : Array Bool → Act → World → Prop}
    (hstep : ∀ l a w i, Inv l a w → i ∈ Region.ready md ops l → wpOp P ops Q i (fun a' w' => Inv (l.setIfInBounds i true) a' w') a w)
    (hend : ∀ l a w, Inv l a w → Region.ready md ops l = [] → Q .normal a w) :
    ∀ (fuel : Nat) (l : Array Bool) (a : Act) (w : World), unlisted ops.size l ≤ fuel → Inv l a w → wpAny P md ops Q fuel l a w := by
  intro fuel
  induction fuel with
  | zero =>
    intro l a w hf hI
    have hr : Region.ready md ops l = [] := by
      rw [List.eq_nil_iff_forall_not_mem]
      intro i hi
      obtain ⟨h1, h2, -⟩ := ready_mem hi
      have := unlisted_set h1 h2
      omega
    exact ⟨hr, hend l a w hI hr⟩
  | succ fuel ih =>
    intro l a w hf hI
    refine ⟨fun hr => hend l a w hI hr, fun i hi => ?_⟩
    obtain ⟨h1, h2, -⟩ := ready_mem hi
    have := unlisted_set h1 h2
    exact wpOp_mono (fun a' w' hI' => ih _ a' w' (by omega) hI') (hstep l a w i hI hi)

/-- In a region whose operations wait for earlier ones alone, all have come up when none is ready. -/
theorem all_listed (hwf : ∀ (i : Nat) (o : Oper), ops[i]? = some o → o.after.all (fun e => !Region.binds md e || decide (e.on < i)) = true) {l : Array Bool} (hr : Region.ready md ops l = []) : ∀ i, i < ops.size → l.getD i true = true := by
  intro i
  induction i using Nat.strongRecOn with
  | ind i ih =>
    intro hi
    cases hl : l.getD i true with
    | true => rfl
    | false =>
      exfalso
      have hm : i ∈ Region.ready md ops l := by
        unfold Region.ready
        rw [List.mem_filter]
        refine ⟨by simpa using hi, ?_⟩
        rw [hl]
        have ho : ops[i]? = some ops[i] := Array.getElem?_eq_getElem hi
        rw [ho]
        simp only [Bool.not_false, Bool.true_and, Option.map_some, Option.getD_some]
        rw [Array.all_eq_true]
        intro j hj
        have h1 := hwf i _ ho
        rw [Array.all_eq_true] at h1
        have h2 := h1 j hj
        cases hbd : Region.binds md ops[i].after[j] with
        | false => rfl
        | true =>
        rw [hbd] at h2
        simp only [Bool.not_true, Bool.false_or, decide_eq_true_eq] at h2
        have h3 := ih _ h2 (by omega)
        have : l.getD (ops[i].after[j]).on false = true := by
          simp only [Array.getD_eq_getD_getElem?] at h3 hl ⊢
          have hil : i < l.size := by
            rcases Nat.lt_or_ge i l.size with h | h
            · exact h
            · rw [Array.getElem?_eq_none (by omega)] at hl; cases hl
          rw [Array.getElem?_eq_getElem (by omega)] at h3 ⊢
          simpa using h3
        rw [this, Bool.or_true]
      rw [hr] at hm
      cases hm
end
end Go.Proofs.Ytljnmjehokijgaa

/- A region that draws its order, by a relation for each operation's value. -/
namespace Go.Proofs.Ytljnmjehokijgaa
open Go.RowKit

/-- Where an operation's value goes. -/
def dstOf (ops : Array Oper) (i : Nat) : Option Tmp := (ops[i]?).bind (·.dst)
/-- A frame in which the first n operations' values are v. -/
def putN (ops : Array Oper) (v : Nat → Value) (a : Act) : Nat → Act
  | 0 => a
  | n + 1 => (putN ops v a n).put (dstOf ops n) (v n)
def putAll (ops : Array Oper) (v : Nat → Value) (a : Act) : Act := putN ops v a ops.size
def updV (v : Nat → Value) (i : Nat) (x : Value) : Nat → Value := fun j => if j = i then x else v j

/-- No two operations' values go to one place. -/
def Apart (ops : Array Oper) : Prop := ∀ i j d, dstOf ops i = some d → dstOf ops j = some d → i = j

theorem put_defers (a : Act) (d : Option Tmp) (x : Value) : (a.put d x).defers = a.defers := by cases d <;> rfl
theorem put_size (a : Act) (d : Option Tmp) (x : Value) : (a.put d x).tmps.size = a.tmps.size := by cases d <;> simp [Act.put]
theorem put_ne {a : Act} {d : Option Tmp} {x : Value} {k : Nat} (h : d ≠ some k) : (a.put d x).tmps[k]? = a.tmps[k]? := by
  cases d with
  | none => rfl
  | some d =>
    simp only [Act.put]
    exact Array.getElem?_setIfInBounds_ne (fun e => h (by rw [e]))
theorem put_eq {a : Act} {x : Value} {k : Nat} (h : k < a.tmps.size) : (a.put (some k) x).tmps[k]? = some x := by
  simp only [Act.put]
  exact Array.getElem?_setIfInBounds_self_of_lt h

section
variable {ops : Array Oper} {v : Nat → Value} {a : Act}

theorem putN_defers : ∀ n, (putN ops v a n).defers = a.defers
  | 0 => rfl
  | n + 1 => by rw [putN, put_defers, putN_defers n]
theorem putN_size : ∀ n, (putN ops v a n).tmps.size = a.tmps.size
  | 0 => rfl
  | n + 1 => by rw [putN, put_size, putN_size n]
theorem putN_other {k : Nat} : ∀ n, (∀ i, i < n → dstOf ops i ≠ some k) → (putN ops v a n).tmps[k]? = a.tmps[k]?
  | 0, _ => rfl
  | n + 1, h => by rw [putN, put_ne (h n (Nat.lt_succ_self _)), putN_other n (fun i hi => h i (by omega))]
theorem putN_dst (hd : Apart ops) {i k : Nat} (hk : k < a.tmps.size) (hi : dstOf ops i = some k) : ∀ n, i < n → (putN ops v a n).tmps[k]? = some (v i)
  | 0, h => absurd h (Nat.not_lt_zero _)
  | n + 1, h => by
    rw [putN]
    by_cases hin : i = n
    · subst hin
      rw [hi]
      exact put_eq (by rw [putN_size]; exact hk)
    · rw [put_ne (fun e => hin (hd _ _ _ hi e)), putN_dst hd hk hi n (by omega)]
end

theorem act_ext {a b : Act} (h1 : a.defers = b.defers) (h2 : a.tmps.size = b.tmps.size) (h3 : ∀ k, k < a.tmps.size → a.tmps[k]? = b.tmps[k]?) : a = b := by
  obtain ⟨t, d⟩ := a
  obtain ⟨t', d'⟩ := b
  simp only at h1 h2 h3
  subst h1
  congr 1
  apply Array.ext_getElem?
  intro k
  rcases Nat.lt_or_ge k t.size with h | h
  · exact h3 k h
  · rw [Array.getElem?_eq_none (by omega), Array.getElem?_eq_none (by omega)]

theorem dstOf_lt {ops : Array Oper} {i : Nat} {d : Tmp} (h : dstOf ops i = some d) : i < ops.size := by
  unfold dstOf at h
  rcases Nat.lt_or_ge i ops.size with h1 | h1
  · exact h1
  · rw [Array.getElem?_eq_none (by omega)] at h; cases h

theorem putAll_put {ops : Array Oper} (hd : Apart ops) (v : Nat → Value) (a : Act) (i : Nat) (x : Value) : (putAll ops v a).put (dstOf ops i) x = putAll ops (updV v i x) a := by
  refine act_ext ?_ ?_ fun k hk => ?_
  · rw [put_defers]; unfold putAll; rw [putN_defers, putN_defers]
  · rw [put_size]; unfold putAll; rw [putN_size, putN_size]
  · have hka : k < a.tmps.size := by rw [put_size] at hk; unfold putAll at hk; rwa [putN_size] at hk
    unfold putAll
    by_cases hi : dstOf ops i = some k
    · rw [hi, put_eq (by rw [putN_size]; exact hka), putN_dst hd hka hi _ (dstOf_lt hi)]
      simp [updV]
    · rw [put_ne hi]
      by_cases hj : ∃ j, dstOf ops j = some k
      · obtain ⟨j, hj⟩ := hj
        rw [putN_dst hd hka hj _ (dstOf_lt hj), putN_dst hd hka hj _ (dstOf_lt hj)]
        have : j ≠ i := fun e => hi (by rw [← e]; exact hj)
        simp [updV, this]
      · rw [putN_other _ (fun j _ h => hj ⟨j, h⟩), putN_other _ (fun j _ h => hj ⟨j, h⟩)]

theorem putAll_self {ops : Array Oper} (hd : Apart ops) (a : Act) : putAll ops (fun i => match dstOf ops i with | some d => a.tmps.getD d undef | none => undef) a = a := by
  refine act_ext ?_ ?_ fun k hk => ?_
  · unfold putAll; rw [putN_defers]
  · unfold putAll; rw [putN_size]
  · have hka : k < a.tmps.size := by unfold putAll at hk; rwa [putN_size] at hk
    unfold putAll
    by_cases hj : ∃ j, dstOf ops j = some k
    · obtain ⟨j, hj⟩ := hj
      rw [putN_dst hd hka hj _ (dstOf_lt hj)]
      simp only [hj]
      rw [Array.getD_eq_getD_getElem?, Array.getElem?_eq_getElem hka, Option.getD_some]
    · rw [putN_other _ (fun j _ h => hj ⟨j, h⟩)]

theorem eval_dst {ops : Array Oper} (hd : Apart ops) {v : Nat → Value} {a : Act} {i : Nat} {d : Tmp} (h : dstOf ops i = some d) (hs : d < a.tmps.size) : (putAll ops v a).eval (.tmp d) = v i := by
  simp only [Act.eval, Array.getD_eq_getD_getElem?]
  unfold putAll
  rw [putN_dst hd hs h _ (dstOf_lt h)]
  rfl

theorem eval_other {ops : Array Oper} {v : Nat → Value} {a : Act} {d : Tmp} (h : ∀ i, dstOf ops i ≠ some d) : (putAll ops v a).eval (.tmp d) = a.eval (.tmp d) := by
  simp only [Act.eval, Array.getD_eq_getD_getElem?]
  unfold putAll
  rw [putN_other _ (fun i _ => h i)]

theorem yielded_dst {ops : Array Oper} (hd : Apart ops) {v : Nat → Value} {a : Act} {i : Nat} {d : Tmp} {b : Bool} (h : dstOf ops i = some d) (hs : d < a.tmps.size) (hb : v i = .bool b) : yielded ops (putAll ops v a).tmps i = some b := by
  unfold yielded
  have h1 : (ops[i]?).bind (·.dst) = some d := h
  rw [h1]
  have h2 : (putAll ops v a).tmps[d]? = some (v i) := by unfold putAll; exact putN_dst hd hs h _ (dstOf_lt h)
  simp only [Option.bind_some, h2, hb]

/-- What an operation that came up must give. (A structure, so that nothing looks into it: the test of a guard, laid open, does not end.) -/
structure GivesR (P : Program) (ops : Array Oper) (Q : Exit → Act → World → Prop) (i : Nat) (R : Value → World → Prop) (A : Act) (w : World) : Prop where
  out : wpOp P ops Q i (fun a' w2 => ∃ x, a' = A.put (dstOf ops i) x ∧ R x w2 ∧ Turned w w2 (fun _ => False)) A w

/-- EACH OPERATION BY ITSELF: where it comes up, what it waits for holds (R), and nothing that was there has turned; it gives a value with R, and turns nothing. -/
theorem wp_region_each {P : Program} {ops : Array Oper} {Q : Exit → Act → World → Prop} {id : Nat} {a : Act} {w : World} (hm : P.follows .mixedOrders = true)
    (hwf : ∀ (i : Nat) (o : Oper), ops[i]? = some o → o.after.all (fun e => !Region.binds .any e || decide (e.on < i)) = true) (hd : Apart ops) (R : Nat → Value → World → Prop)
    (hR : ∀ i x w1 w2, R i x w1 → Turned w1 w2 (fun _ => False) → R i x w2)
    (hstep : ∀ (i : Nat) (o : Oper), ops[i]? = some o → ∀ (v : Nat → Value) (w1 : World), Turned w w1 (fun _ => False) → (∀ e ∈ o.after.toList, Region.binds .any e = true → R e.on (v e.on) w1) →
      GivesR P ops Q i (R i) (putAll ops v a) w1)
    (hend : ∀ (v : Nat → Value) (w1 : World), Turned w w1 (fun _ => False) → (∀ i, i < ops.size → R i (v i) w1) → Q .normal (putAll ops v a) w1) :
    (Code.region id ops true).wp P Q a w := by
  refine wp_region_any hm ?_
  refine wpAny_inv (Inv := fun l a' w' => ∃ v, a' = putAll ops v a ∧ Turned w w' (fun _ => False) ∧ l.size = ops.size ∧ ∀ i, i < ops.size → l.getD i true = true → R i (v i) w') ?_ ?_ ops.size _ _ _ ?_ ?_
  · rintro l a' w' i ⟨v, rfl, ht, hl, hv⟩ hi
    obtain ⟨h1, h2, h3⟩ := ready_mem hi
    have ho : ops[i]? = some ops[i] := Array.getElem?_eq_getElem h1
    refine wpOp_mono (fun a'' w'' h => ?_) (hstep i _ ho v w' ht ?_).out
    · obtain ⟨x, rfl, hx, ht2⟩ := h
      refine ⟨updV v i x, putAll_put hd v a i x, ht.trans ht2 (fun _ _ hf => hf), by simpa using hl, fun j hj hjl => ?_⟩
      by_cases hji : j = i
      · subst hji
        simpa [updV] using hx
      · have h4 : l.getD j true = true := by
          rw [Array.getD_eq_getD_getElem?, Array.getElem?_setIfInBounds_ne (fun e => hji e.symm), ← Array.getD_eq_getD_getElem?] at hjl
          exact hjl
        have := hR j _ _ _ (hv j hj h4) ht2
        simpa [updV, hji] using this
    · intro e he hb
      have h5 := h3 _ ho
      rw [Array.all_eq_true'] at h5
      have h6 := h5 e (Array.mem_toList_iff.1 he)
      rw [hb] at h6
      simp only [Bool.not_true, Bool.false_or] at h6
      have h7 := hwf i _ ho
      rw [Array.all_eq_true'] at h7
      have h8 := h7 e (Array.mem_toList_iff.1 he)
      rw [hb] at h8
      simp only [Bool.not_true, Bool.false_or, decide_eq_true_eq] at h8
      refine hv _ (by omega) ?_
      rw [Array.getD_eq_getD_getElem?, Array.getElem?_eq_getElem (by omega)] at h6 ⊢
      simpa using h6
  · rintro l a' w' ⟨v, rfl, ht, hl, hv⟩ hr
    exact hend v w' ht fun i hi => hv i hi (all_listed hwf hr i hi)
  · unfold unlisted
    have := List.length_filter_le (fun i => !(Array.replicate ops.size false).getD i true) (List.range ops.size)
    simpa using this
  · refine ⟨_, (putAll_self hd a).symm, ⟨rfl, rfl, rfl, Nat.le_refl _, fun _ _ _ => rfl⟩, by simp, fun i hi h => ?_⟩
    rw [Array.getD_eq_getD_getElem?, Array.getElem?_eq_getElem (by simpa using hi)] at h
    simp at h
end Go.Proofs.Ytljnmjehokijgaa

/- The law for drawn regions, where boxes are made and written within: values may be told of by what they wait for. -/
namespace Go.Proofs.Ytljnmjehokijgaa
open Go.RowKit

theorem wp_region_eachT {P : Program} {ops : Array Oper} {Q : Exit → Act → World → Prop} {id : Nat} {a : Act} {w : World} (hm : P.follows .mixedOrders = true)
    (hwf : ∀ (i : Nat) (o : Oper), ops[i]? = some o → o.after.all (fun e => !Region.binds .any e || decide (e.on < i)) = true) (hd : Apart ops) (R : (Nat → Value) → Nat → World → Prop) (T : World → World → Prop)
    (hT : ∀ w1 w2, Turned w w1 (fun _ => False) → T w1 w2 → Turned w w2 (fun _ => False))
    (hloc : ∀ (i : Nat) (o : Oper), ops[i]? = some o → ∀ (v v' : Nat → Value) (w1 : World), v i = v' i → (∀ e ∈ o.after.toList, Region.binds .any e = true → v e.on = v' e.on) → R v i w1 → R v' i w1)
    (hR : ∀ v i w1 w2, Turned w w1 (fun _ => False) → R v i w1 → T w1 w2 → R v i w2)
    (hstep : ∀ (i : Nat) (o : Oper), ops[i]? = some o → ∀ (v : Nat → Value) (w1 : World), Turned w w1 (fun _ => False) → (∀ e ∈ o.after.toList, Region.binds .any e = true → R v e.on w1) →
      wpOp P ops Q i (fun a' w2 => ∃ x, a' = (putAll ops v a).put (dstOf ops i) x ∧ R (updV v i x) i w2 ∧ T w1 w2) (putAll ops v a) w1)
    (hend : ∀ (v : Nat → Value) (w1 : World), Turned w w1 (fun _ => False) → (∀ i, i < ops.size → R v i w1) → Q .normal (putAll ops v a) w1) :
    (Code.region id ops true).wp P Q a w := by
  refine wp_region_any hm ?_
  refine wpAny_inv (Inv := fun l a' w' => ∃ v, a' = putAll ops v a ∧ Turned w w' (fun _ => False) ∧ l.size = ops.size ∧ (∀ i, i < ops.size → l.getD i true = true → R v i w') ∧
    ∀ (i : Nat) (o : Oper), ops[i]? = some o → l.getD i true = true → ∀ e ∈ o.after.toList, Region.binds .any e = true → l.getD e.on true = true ∧ e.on < ops.size) ?_ ?_ ops.size _ _ _ ?_ ?_
  · rintro l a' w' i ⟨v, rfl, ht, hl, hv, hc⟩ hi
    obtain ⟨h1, h2, h3⟩ := ready_mem hi
    have ho : ops[i]? = some ops[i] := Array.getElem?_eq_getElem h1
    have hdep : ∀ e ∈ ops[i].after.toList, Region.binds .any e = true → l.getD e.on true = true ∧ e.on < ops.size := by
      intro e he hb
      have h5 := h3 _ ho
      rw [Array.all_eq_true'] at h5
      have h6 := h5 e (Array.mem_toList_iff.1 he)
      rw [hb] at h6
      simp only [Bool.not_true, Bool.false_or] at h6
      have h7 := hwf i _ ho
      rw [Array.all_eq_true'] at h7
      have h8 := h7 e (Array.mem_toList_iff.1 he)
      rw [hb] at h8
      simp only [Bool.not_true, Bool.false_or, decide_eq_true_eq] at h8
      refine ⟨?_, by omega⟩
      rw [Array.getD_eq_getD_getElem?, Array.getElem?_eq_getElem (by omega)] at h6 ⊢
      simpa using h6
    refine wpOp_mono (fun a'' w'' h => ?_) (hstep i _ ho v w' ht (fun e he hb => hv _ (hdep e he hb).2 (hdep e he hb).1))
    obtain ⟨x, rfl, hx, ht2⟩ := h
    have hset : ∀ j, j ≠ i → (l.setIfInBounds i true).getD j true = l.getD j true := fun j hj => by
      rw [Array.getD_eq_getD_getElem?, Array.getElem?_setIfInBounds_ne (fun e => hj e.symm), ← Array.getD_eq_getD_getElem?]
    refine ⟨updV v i x, putAll_put hd v a i x, hT _ _ ht ht2, by simpa using hl, fun j hj hjl => ?_, fun j oj hoj hjl e he hb => ?_⟩
    · by_cases hji : j = i
      · subst hji; exact hx
      · rw [hset j hji] at hjl
        have hoj : ops[j]? = some ops[j] := Array.getElem?_eq_getElem hj
        refine hR _ _ _ _ ht (hloc j _ hoj v _ _ (by simp [updV, hji]) (fun e he hb => ?_) (hv j hj hjl)) ht2
        have h9 := (hc j _ hoj hjl e he hb).1
        have : e.on ≠ i := fun h => by rw [h, h2] at h9; cases h9
        simp [updV, this]
    · by_cases hji : j = i
      · subst hji
        rw [ho] at hoj
        cases hoj
        obtain ⟨h9, h10⟩ := hdep e he hb
        have : e.on ≠ j := fun h => by rw [h, h2] at h9; cases h9
        exact ⟨by rw [hset _ this]; exact h9, h10⟩
      · rw [hset j hji] at hjl
        obtain ⟨h9, h10⟩ := hc j oj hoj hjl e he hb
        have : e.on ≠ i := fun h => by rw [h, h2] at h9; cases h9
        exact ⟨by rw [hset _ this]; exact h9, h10⟩
  · rintro l a' w' ⟨v, rfl, ht, hl, hv, hc⟩ hr
    exact hend v w' ht fun i hi => hv i hi (all_listed hwf hr i hi)
  · unfold unlisted
    have := List.length_filter_le (fun i => !(Array.replicate ops.size false).getD i true) (List.range ops.size)
    simpa using this
  · have hno : ∀ i, i < ops.size → (Array.replicate ops.size false).getD i true = true → False := fun i hi h => by
      rw [Array.getD_eq_getD_getElem?, Array.getElem?_eq_getElem (by simpa using hi)] at h
      simp at h
    refine ⟨_, (putAll_self hd a).symm, ⟨rfl, rfl, rfl, Nat.le_refl _, fun _ _ _ => rfl⟩, by simp, fun i hi h => (hno i hi h).elim, fun i o ho h => (hno i (Array.getElem?_eq_some_iff.1 ho).1 h).elim⟩
end Go.Proofs.Ytljnmjehokijgaa

/- The same for a region in the order of the text. -/
namespace Go.Proofs.Ytljnmjehokijgaa
open Go.RowKit

theorem wp_region_seq {P : Program} {ops : Array Oper} {Q : Exit → Act → World → Prop} {id : Nat} {a : Act} {w : World}
    (hwf : ∀ (i : Nat) (o : Oper), ops[i]? = some o → o.after.all (fun e => !Region.binds .any e || decide (e.on < i)) = true) (hd : Apart ops) (R : Nat → Value → World → Prop)
    (hR : ∀ i x w1 w2, R i x w1 → Turned w1 w2 (fun _ => False) → R i x w2)
    (hstep : ∀ (i : Nat) (o : Oper), ops[i]? = some o → ∀ (v : Nat → Value) (w1 : World), Turned w w1 (fun _ => False) → (∀ e ∈ o.after.toList, Region.binds .any e = true → R e.on (v e.on) w1) →
      GivesR P ops Q i (R i) (putAll ops v a) w1)
    (hend : ∀ (v : Nat → Value) (w1 : World), Turned w w1 (fun _ => False) → (∀ i, i < ops.size → R i (v i) w1) → Q .normal (putAll ops v a) w1) :
    (Code.region id ops false).wp P Q a w := by
  refine wp_region ?_
  have key : ∀ (m k : Nat), k + m = ops.size → ∀ (v : Nat → Value) (w1 : World), Turned w w1 (fun _ => False) → (∀ i, i < k → R i (v i) w1) → wpOps P ops Q (List.range' k m) (putAll ops v a) w1 := by
    intro m
    induction m with
    | zero =>
      intro k hk v w1 ht hv
      exact hend v w1 ht (fun i hi => hv i (by omega))
    | succ m ih =>
      intro k hk v w1 ht hv
      rw [List.range'_succ, wpOps_cons]
      have ho : ops[k]? = some ops[k] := Array.getElem?_eq_getElem (by omega)
      refine wpOp_mono (fun a' w2 h => ?_) (hstep k _ ho v w1 ht (fun e he hb => ?_)).out
      · obtain ⟨x, rfl, hx, t2⟩ := h
        rw [putAll_put hd]
        refine ih (k + 1) (by omega) _ _ (ht.trans t2 (fun _ _ hf => hf)) (fun i hi => ?_)
        by_cases hik : i = k
        · subst hik; simpa [updV] using hx
        · have := hR i _ _ _ (hv i (by omega)) t2
          simpa [updV, hik] using this
      · have h7 := hwf k _ ho
        rw [Array.all_eq_true'] at h7
        have h8 := h7 e (Array.mem_toList_iff.1 he)
        rw [hb] at h8
        simp only [Bool.not_true, Bool.false_or, decide_eq_true_eq] at h8
        exact hv _ h8
  obtain ⟨v0, h0⟩ : ∃ v, putAll ops v a = a := ⟨_, putAll_self hd a⟩
  have := key ops.size 0 (by omega) v0 w ⟨rfl, rfl, rfl, Nat.le_refl _, fun _ _ _ => rfl⟩ (fun i hi => absurd hi (Nat.not_lt_zero _))
  rw [h0, ← List.range_eq_range'] at this
  exact this
end Go.Proofs.Ytljnmjehokijgaa

/- What operations' values are, in a drawn region; steps by kind. -/
namespace Go.Proofs.Ytljnmjehokijgaa
open Go.RowKit

/-- A list of lists of numbers as a value. -/
def RowII (w : World) (v : Value) (l : List (List Int)) : Prop :=
  ∃ a cap, v = .slice a l.length cap ∧ ∀ (i : Nat) (x : List Int), l[i]? = some x → ∃ g off vi, a = some ⟨g, off, none⟩ ∧ g < w.heap.size ∧ w.cell? ⟨g, off + i, none⟩ = some vi ∧ RowI w vi x

theorem RowII.turned {w w' : World} {v : Value} {l : List (List Int)} (h : RowII w v l) (t : Turned w w' (fun _ => False)) : RowII w' v l := by
  obtain ⟨a, cap, hv, hx⟩ := h
  refine ⟨a, cap, hv, fun i x hi => ?_⟩
  obtain ⟨g, off, vi, ha, hg, hc, hr⟩ := hx i x hi
  exact ⟨g, off, vi, ha, Nat.lt_of_lt_of_le hg t.size, (t.cell (p := ⟨g, off + i, none⟩) hg (fun hf => hf)).trans hc, hr.turned t⟩

/-- What a value is. -/
inductive Rel
  | val (x : Value)
  | tree (t : Tm)
  | trees (l : List Tm)
  | ints (l : List Int)
  | sig
  | tup (r : Rel) (rest : List Value)
  | tup2 (r s : Rel) (rest : List Value)
  | rows (l : List (List Int))
  | more (p : Value → World → Prop)

def Rel.holds : Rel → Value → World → Prop := fun r v w => match r with
  | .val x => v = x
  | .tree t => TmIn w t v
  | .trees l => RowTm w v l
  | .ints l => RowI w v l
  | .sig => SigIn w numSorts numOps v
  | .tup r rest => ∃ y, v = .tuple (y :: rest).toArray ∧ r.holds y w
  | .tup2 r s rest => ∃ y z, v = .tuple (y :: z :: rest).toArray ∧ r.holds y w ∧ s.holds z w
  | .rows l => RowII w v l
  | .more p => p v w ∧ ∀ w', Turned w w' (fun _ => False) → p v w'

theorem Rel.turned (r : Rel) (v : Value) (w w' : World) (h : r.holds v w) (t : Turned w w' (fun _ => False)) : r.holds v w' := by
  induction r generalizing v with
  | val x => exact h
  | tree u => exact TmIn.turned t _ h
  | trees l => exact RowTm.turned t h
  | ints l => exact RowI.turned t h
  | sig => exact SigIn.turned h t
  | tup r rest ih => obtain ⟨y, e, hy⟩ := h; exact ⟨y, e, ih y hy⟩
  | tup2 r s rest ih1 ih2 => obtain ⟨y, z, e, hy, hz⟩ := h; exact ⟨y, z, e, ih1 y hy, ih2 z hz⟩
  | rows l => exact RowII.turned h t
  | more p => exact ⟨h.2 w' t, fun w2 t2 => h.2 w2 (t.trans t2 (fun _ _ hf => hf))⟩

section
variable {P : Program} {ops : Array Oper} {Q : Exit → Act → World → Prop} {A : Act} {w : World} {i : Nat} {o : Oper} {r : Rel}

/-- What an operation that came up must give. -/
abbrev Gives (P : Program) (ops : Array Oper) (Q : Exit → Act → World → Prop) (i : Nat) (r : Rel) (A : Act) (w : World) : Prop := GivesR P ops Q i r.holds A w

theorem dstOf_eq (ho : ops[i]? = some o) : dstOf ops i = o.dst := by unfold dstOf; rw [ho]; rfl

theorem gives_value (ho : ops[i]? = some o) (hg : Region.wanted o (yielded ops A.tmps) = true) {x : Value} {w' : World} (hrun : (execOp A.eval o).run P w = .ok (.value x) w') (hx : r.holds x w') (ht : Turned w w' (fun _ => False)) : Gives P ops Q i r A w := by
  refine ⟨?_⟩
  unfold wpOp
  rw [ho]
  simp only [hg, if_true]
  left
  unfold Oper.wp
  rw [hrun]
  simp only [Oper.upon]
  exact ⟨x, by rw [dstOf_eq ho], hx, ht⟩

theorem gives_call (ho : ops[i]? = some o) (hg : Region.wanted o (yielded ops A.tmps) = true) {f : FuncId} {args : Array Value} (hrun : (execOp A.eval o).run P w = .ok (.enter f args) w)
    (hc : Calls P f args w fun e w' => ∃ x, e = .returned x ∧ r.holds x w' ∧ Turned w w' (fun _ => False)) : Gives P ops Q i r A w := by
  refine ⟨?_⟩
  unfold wpOp
  rw [ho]
  simp only [hg, if_true]
  left
  unfold Oper.wp
  rw [hrun]
  simp only [Oper.upon]
  refine hc.mono ?_
  rintro e w' ⟨x, rfl, hx, ht⟩
  exact ⟨x, by rw [dstOf_eq ho], hx, ht⟩

theorem gives_not (ho : ops[i]? = some o) (hg : Region.wanted o (yielded ops A.tmps) = false) (hx : r.holds undef w) : Gives P ops Q i r A w := by
  refine ⟨?_⟩
  unfold wpOp
  rw [ho]
  simp only [hg]
  exact ⟨undef, by rw [dstOf_eq ho], hx, Turned.refl _ _⟩

theorem wanted_none (h : o.guard = none) (y : Nat → Option Bool) : Region.wanted o y = true := by unfold Region.wanted; rw [h]

theorem gives_move (ho : ops[i]? = some o) (hg : Region.wanted o (yielded ops A.tmps) = true) {x : Operand} (hop : o.op = .move x ∨ o.op = .assign x) (hx : r.holds (A.eval x) w) : Gives P ops Q i r A w := by
  refine gives_value ho hg (x := A.eval x) (w' := w) ?_ hx (Turned.refl _ _)
  rcases hop with h | h <;> (unfold execOp; rw [h]; rfl)

theorem gives_pick (ho : ops[i]? = some o) (hg : Region.wanted o (yielded ops A.tmps) = true) {c x y : Operand} {b : Bool} (hop : o.op = .pick c x y) (hc : A.eval c = .bool b) (hx : r.holds (if b then A.eval x else A.eval y) w) : Gives P ops Q i r A w := by
  refine gives_value ho hg (x := if b then A.eval x else A.eval y) (w' := w) ?_ hx (Turned.refl _ _)
  unfold execOp
  rw [hop]
  simp only [hc]
  rfl

theorem gives_pick_t (ho : ops[i]? = some o) (hg : Region.wanted o (yielded ops A.tmps) = true) {c x y : Operand} (hop : o.op = .pick c x y) (hc : A.eval c = .bool true) (hx : r.holds (A.eval x) w) : Gives P ops Q i r A w := gives_pick ho hg hop hc hx
theorem gives_pick_f (ho : ops[i]? = some o) (hg : Region.wanted o (yielded ops A.tmps) = true) {c x y : Operand} (hop : o.op = .pick c x y) (hc : A.eval c = .bool false) (hx : r.holds (A.eval y) w) : Gives P ops Q i r A w := gives_pick ho hg hop hc hx

theorem wanted_yes {g : Nat} {b : Bool} (h : o.guard = some (g, b)) {y : Nat → Option Bool} (hy : y g = some b) : Region.wanted o y = true := by
  unfold Region.wanted
  rw [h]
  simp [hy]
theorem wanted_no {g : Nat} {b b' : Bool} (h : o.guard = some (g, b)) {y : Nat → Option Bool} (hy : y g = some b') (hb : b ≠ b') : Region.wanted o y = false := by
  unfold Region.wanted
  rw [h]
  cases b <;> cases b' <;> simp_all

theorem gives_load (ho : ops[i]? = some o) (hg : Region.wanted o (yielded ops A.tmps) = true) {t : TypeId} {p : Operand} {q x : Value} (hop : o.op = .load t p) (hp : A.eval p = q) (hrun : (Instr.loadAt t q).run P w = .ok x w) (hx : r.holds x w) : Gives P ops Q i r A w := by
  refine gives_value ho hg (x := x) (w' := w) ?_ hx (Turned.refl _ _)
  unfold execOp
  rw [hop]
  simp only [hp, Sem.run_bind, hrun]
  rfl

theorem gives_fn (ho : ops[i]? = some o) (hg : Region.wanted o (yielded ops A.tmps) = true) {f : FuncId} {args : Array Operand} {ts : Array TypeId} {vs : Array Value} (hop : o.op = .call { callee := .value (.func f), args := args, argTypes := ts }) (hv : args.map A.eval = vs)
    (hen : ∀ args w, (callFunc f args).run P w = .ok (.enter f args) w)
    (hc : Calls P f vs w fun e w' => ∃ x, e = .returned x ∧ r.holds x w' ∧ Turned w w' (fun _ => False)) : Gives P ops Q i r A w := by
  refine gives_call ho hg (f := f) (args := vs) ?_ hc
  have h1 : execOp A.eval o = (do let d ← resolve A.eval { callee := .value (.func f), args := args, argTypes := ts } o.type; invoke d.target d.args) := by unfold execOp; rw [hop]
  have h2 : resolve A.eval { callee := .value (.func f), args := args, argTypes := ts } o.type = pure { target := .fn (.func f) #[], args := #[] ++ args.map A.eval } := rfl
  have h3 : ∀ x, invoke (.fn (.func f) #[]) x = callFunc f (x ++ #[]) := fun _ => rfl
  rw [h1, h2]
  simp only [pure_bind, h3, hen, hv, Array.append_empty, Array.empty_append]
end
end Go.Proofs.Ytljnmjehokijgaa

/- Steps of the law's own: rows and trees made. -/
namespace Go.Proofs.Ytljnmjehokijgaa
open Go.RowKit

theorem run_row1 (a b c : Value) (w : World) : (Instr.buildSlice 22 1 #[(0, .agg #[a, b, c])]).run Try.prog w = .ok (.slice (some ⟨w.heap.size, 0, none⟩) 1 1) (w.alloc (.cells #[a, b, c] 24)) := by kernel_rfl
theorem run_row2 (a b c d e f : Value) (w : World) : (Instr.buildSlice 22 2 #[(0, .agg #[a, b, c]), (1, .agg #[d, e, f])]).run Try.prog w = .ok (.slice (some ⟨w.heap.size, 0, none⟩) 2 2) (w.alloc (.cells #[a, b, c, d, e, f] 24)) := by kernel_rfl
theorem run_int1 (x : Int) (w : World) : (Instr.buildSlice 37 1 #[(0, .int .i64 x)]).run Try.prog w = .ok (.slice (some ⟨w.heap.size, 0, none⟩) 1 1) (w.alloc (.cells #[.int .i64 x] 3)) := by kernel_rfl
theorem run_int2 (x y : Int) (w : World) : (Instr.buildSlice 37 2 #[(0, .int .i64 x), (1, .int .i64 y)]).run Try.prog w = .ok (.slice (some ⟨w.heap.size, 0, none⟩) 2 2) (w.alloc (.cells #[.int .i64 x, .int .i64 y] 3)) := by kernel_rfl
theorem load_term (a b c : Value) (B : Nat) (w : World) (h0 : w.cell? ⟨B, 0, none⟩ = some a) (h1 : w.cell? ⟨B, 1, none⟩ = some b) (h2 : w.cell? ⟨B, 2, none⟩ = some c) : (Instr.loadAt 24 (.pointer (some ⟨B, 0, none⟩))).run Try.prog w = .ok (.agg #[a, b, c]) w := by
  go_simp
theorem load_sig (a b : Value) (B : Nat) (w : World) (h0 : w.cell? ⟨B, 0, none⟩ = some a) (h1 : w.cell? ⟨B, 1, none⟩ = some b) : (Instr.loadAt 60 (.pointer (some ⟨B, 0, none⟩))).run Try.prog w = .ok (.agg #[a, b]) w := by
  go_simp

/-- All places of the values. -/
def dstsOf (ops : Array Oper) : List Nat := (List.range ops.size).filterMap (dstOf ops)
def apartB (ops : Array Oper) : Bool := (List.range ops.size).all fun i => (List.range ops.size).all fun j => decide (i = j) || (match dstOf ops i with | none => true | some d => dstOf ops j != some d)
def waitsB (ops : Array Oper) : Bool := (List.range ops.size).all fun i => match ops[i]? with | none => true | some o => o.after.all (fun e => !Region.binds .any e || decide (e.on < i))

theorem apart_of {ops : Array Oper} (h : apartB ops = true) : Apart ops := fun i j d hi hj => by
  unfold apartB at h
  rw [List.all_eq_true] at h
  have h1 := h i (by simpa using dstOf_lt hi)
  rw [List.all_eq_true] at h1
  have h2 := h1 j (by simpa using dstOf_lt hj)
  rw [hi, hj] at h2
  simpa using h2

theorem waits_of {ops : Array Oper} (h : waitsB ops = true) (i : Nat) (o : Oper) (ho : ops[i]? = some o) : o.after.all (fun e => !Region.binds .any e || decide (e.on < i)) = true := by
  unfold waitsB at h
  rw [List.all_eq_true] at h
  have hi : i < ops.size := by
    rcases Nat.lt_or_ge i ops.size with h1 | h1
    · exact h1
    · rw [Array.getElem?_eq_none (by omega)] at ho; cases ho
  have h1 := h i (by simpa using hi)
  rw [ho] at h1
  exact h1

theorem fresh_of {ops : Array Oper} {d : Nat} (h : (dstsOf ops).contains d = false) : ∀ i, dstOf ops i ≠ some d := fun i hi => by
  unfold dstsOf at h
  have : d ∈ (List.range ops.size).filterMap (dstOf ops) := List.mem_filterMap.2 ⟨i, by simpa using dstOf_lt hi, hi⟩
  rw [List.contains_eq_mem] at h
  simp [this] at h

theorem rowTm_op2 {V : World} {a b : Tm} {g cap : Nat} {c0 c1 c2 d0 d1 d2 : Value} (hb : V.heap[g]? = some (.cells #[c0, c1, c2, d0, d1, d2] 24 (0, 0))) (h : TmIn V a (.agg #[c0, c1, c2])) (h2 : TmIn V b (.agg #[d0, d1, d2])) : RowTm V (.slice (some ⟨g, 0, none⟩) 2 cap) [a, b] := by
  refine ⟨_, cap, rfl, by unfold maxLen; simp, g, 0, c0, c1, c2, rfl, lt_of_block hb, ?_, ?_, ?_, h, g, 3, d0, d1, d2, rfl, lt_of_block hb, ?_, ?_, ?_, h2, trivial⟩ <;> simp [World.cell?, hb]

section
variable {ops : Array Oper} {Q : Exit → Act → World → Prop} {A : Act} {w : World} {i : Nat} {o : Oper} {r : Rel}

theorem gives_v {P : Program} (ho : ops[i]? = some o) (hg : Region.wanted o (yielded ops A.tmps) = true) {X : Sem Value} {x : Value} {w' : World} (hop : execOp A.eval o = (do pure (.value (← X)))) (hrun : X.run P w = .ok x w') (hx : r.holds x w') (ht : Turned w w' (fun _ => False)) : Gives P ops Q i r A w := by
  refine gives_value ho hg (x := x) (w' := w') ?_ hx ht
  rw [hop]
  simp only [Sem.run_bind, hrun]
  rfl

theorem gives_trees1 (ho : ops[i]? = some o) (hg : Region.wanted o (yielded ops A.tmps) = true) {x : Operand} {t : Tm} (hop : o.op = .buildSlice 22 1 #[(0, x)]) (hx : TmIn w t (A.eval x)) : Gives Try.prog ops Q i (.trees [t]) A w := by
  obtain ⟨a, c, hv, hl, -⟩ := hx.form
  refine gives_v ho hg (X := Instr.buildSlice 22 1 #[(0, A.eval x)]) (by unfold execOp; rw [hop]; simp only [List.map_toArray, List.map_cons, List.map_nil]) (by rw [hv]; exact run_row1 _ _ _ _) ?_ ((Turned.refl _ _).alloc _)
  rw [hv] at hx
  exact rowTm_one hx ((Turned.refl _ _).alloc _) (heap_alloc_new _ _) 1

theorem gives_trees2 (ho : ops[i]? = some o) (hg : Region.wanted o (yielded ops A.tmps) = true) {x y : Operand} {t u : Tm} (hop : o.op = .buildSlice 22 2 #[(0, x), (1, y)]) (hx : TmIn w t (A.eval x)) (hy : TmIn w u (A.eval y)) : Gives Try.prog ops Q i (.trees [t, u]) A w := by
  obtain ⟨a, c, hv, hl, -⟩ := hx.form
  obtain ⟨b, d, hv2, hl2, -⟩ := hy.form
  refine gives_v ho hg (X := Instr.buildSlice 22 2 #[(0, A.eval x), (1, A.eval y)]) (by unfold execOp; rw [hop]; simp only [List.map_toArray, List.map_cons, List.map_nil]) (by rw [hv, hv2]; exact run_row2 _ _ _ _ _ _ _) ?_ ((Turned.refl _ _).alloc _)
  rw [hv] at hx
  rw [hv2] at hy
  exact rowTm_op2 (heap_alloc_new _ _) (TmIn.turned ((Turned.refl _ _).alloc _) _ hx) (TmIn.turned ((Turned.refl _ _).alloc _) _ hy)

theorem gives_ints1 (ho : ops[i]? = some o) (hg : Region.wanted o (yielded ops A.tmps) = true) {x : Int} (hop : o.op = .buildSlice 37 1 #[(0, .const (.int .i64 x))]) : Gives Try.prog ops Q i (.ints [x]) A w :=
  gives_v ho hg (X := Instr.buildSlice 37 1 #[(0, .int .i64 x)]) (by unfold execOp; rw [hop]; simp only [List.map_toArray, List.map_cons, List.map_nil, Act.eval]) (run_int1 _ _) (rowI_block (xs := [x]) (heap_alloc_new _ _) (by unfold maxLen; simp) 1) ((Turned.refl _ _).alloc _)

theorem gives_ints2 (ho : ops[i]? = some o) (hg : Region.wanted o (yielded ops A.tmps) = true) {x y : Int} (hop : o.op = .buildSlice 37 2 #[(0, .const (.int .i64 x)), (1, .const (.int .i64 y))]) : Gives Try.prog ops Q i (.ints [x, y]) A w :=
  gives_v ho hg (X := Instr.buildSlice 37 2 #[(0, .int .i64 x), (1, .int .i64 y)]) (by unfold execOp; rw [hop]; simp only [List.map_toArray, List.map_cons, List.map_nil, Act.eval]) (run_int2 _ _ _) (rowI_block (xs := [x, y]) (heap_alloc_new _ _) (by unfold maxLen; simp) 2) ((Turned.refl _ _).alloc _)

theorem op_rel (n : Int) (l : List Tm) (vL : Value) (w : World) (h : RowTm w vL l) : Calls Try.prog 29 #[.int .i64 n, vL] w fun e w' => ∃ x, e = .returned x ∧ (Rel.tree (.node 2 n l)).holds x w' ∧ Turned w w' (fun _ => False) := by
  obtain ⟨a, c, rfl, hl, hr⟩ := h
  refine (op_any n a l.length c w).mono ?_
  rintro e w' ⟨rfl, t⟩
  exact ⟨_, rfl, ⟨a, c, rfl, hl, TmsIn.turned t _ hr⟩, t⟩

theorem gives_node (ho : ops[i]? = some o) (hg : Region.wanted o (yielded ops A.tmps) = true) {n : Int} {x : Operand} {ts : Array TypeId} {l : List Tm} (hop : o.op = .call { callee := .value (.func 29), args := #[.const (.int .i64 n), x], argTypes := ts }) (hx : RowTm w (A.eval x) l) : Gives Try.prog ops Q i (.tree (.node 2 n l)) A w :=
  gives_fn ho hg hop (by simp only [List.map_toArray, List.map_cons, List.map_nil, Act.eval]) (Go.Proofs.enters_of Try.func29 (by kernel_rfl) rfl) (op_rel n l _ w hx)

theorem gives_leaf (ho : ops[i]? = some o) (hg : Region.wanted o (yielded ops A.tmps) = true) {p : Operand} {B : Nat} {k n : Int} (hop : o.op = .load 24 p) (hp : A.eval p = .pointer (some ⟨B, 0, none⟩)) (hB : w.heap[B]? = some (.cells #[.int .i64 k, .int .i64 n, .slice none 0 0] 24 (0, 0))) : Gives Try.prog ops Q i (.tree (.node k n [])) A w := by
  obtain ⟨h0, h1, h2, -⟩ := box3 hB
  exact gives_load ho hg hop hp (load_term _ _ _ _ _ h0 h1 h2) ⟨none, 0, rfl, Nat.zero_le _, trivial⟩

theorem gives_get (ho : ops[i]? = some o) (hg : Region.wanted o (yielded ops A.tmps) = true) {x : Operand} {k : Nat} {vs : Array Value} {y : Value} (hop : o.op = .extract x k) (hx : A.eval x = .tuple vs) (hy : vs[k]? = some y) (hr : r.holds y w) : Gives Try.prog ops Q i r A w := by
  refine gives_v ho hg (X := Instr.extract (.tuple vs) k) (w' := w) (x := y) (by unfold execOp; rw [hop]; simp only [hx]) ?_ hr (Turned.refl _ _)
  simp [Instr.extract, hy, go_sem]

theorem gives_get0 (ho : ops[i]? = some o) (hg : Region.wanted o (yielded ops A.tmps) = true) {x : Operand} {rest : List Value} (hop : o.op = .extract x 0) (hx : (Rel.tup r rest).holds (A.eval x) w) : Gives Try.prog ops Q i r A w := by
  obtain ⟨y, e, hy⟩ := hx
  exact gives_get ho hg hop e rfl hy

theorem gives_getk (ho : ops[i]? = some o) (hg : Region.wanted o (yielded ops A.tmps) = true) {x : Operand} {s : Rel} {rest : List Value} {k : Nat} {z : Value} (hop : o.op = .extract x (k + 1)) (hx : (Rel.tup s rest).holds (A.eval x) w) (hk : rest[k]? = some z) : Gives Try.prog ops Q i (.val z) A w := by
  obtain ⟨y, e, -⟩ := hx
  exact gives_get ho hg hop e (by simpa using hk) rfl

theorem gives_get20 (ho : ops[i]? = some o) (hg : Region.wanted o (yielded ops A.tmps) = true) {x : Operand} {s : Rel} {rest : List Value} (hop : o.op = .extract x 0) (hx : (Rel.tup2 r s rest).holds (A.eval x) w) : Gives Try.prog ops Q i r A w := by
  obtain ⟨y, z, e, hy, -⟩ := hx
  exact gives_get ho hg hop e rfl hy

theorem gives_get21 (ho : ops[i]? = some o) (hg : Region.wanted o (yielded ops A.tmps) = true) {x : Operand} {s : Rel} {rest : List Value} (hop : o.op = .extract x 1) (hx : (Rel.tup2 s r rest).holds (A.eval x) w) : Gives Try.prog ops Q i r A w := by
  obtain ⟨y, z, e, -, hz⟩ := hx
  exact gives_get ho hg hop e rfl hz

theorem gives_get2k (ho : ops[i]? = some o) (hg : Region.wanted o (yielded ops A.tmps) = true) {x : Operand} {s s' : Rel} {rest : List Value} {k : Nat} {z : Value} (hop : o.op = .extract x (k + 2)) (hx : (Rel.tup2 s s' rest).holds (A.eval x) w) (hk : rest[k]? = some z) : Gives Try.prog ops Q i (.val z) A w := by
  obtain ⟨y, y', e, -, -⟩ := hx
  exact gives_get ho hg hop e (by simpa using hk) rfl

theorem gives_bin (ho : ops[i]? = some o) (hg : Region.wanted o (yielded ops A.tmps) = true) {op : BinOp} {t t' : TypeId} {x y : Operand} {a b z : Value} (hop : o.op = .binOp op t x y t') (hx : A.eval x = a) (hy : A.eval y = b)
    (hrun : ∀ w, (do eqGuard op t x y a b; binOp op t a b : Sem Value).run Try.prog w = .ok z w) : Gives Try.prog ops Q i (.val z) A w :=
  gives_v ho hg (X := do eqGuard op t x y a b; binOp op t a b) (w' := w) (x := z) (by unfold execOp; rw [hop]; simp only [hx, hy]) (hrun w) rfl (Turned.refl _ _)

theorem gives_un (ho : ops[i]? = some o) (hg : Region.wanted o (yielded ops A.tmps) = true) {op : UnOp} {t : TypeId} {x : Operand} {a z : Value} (hop : o.op = .unOp op t x) (hx : A.eval x = a)
    (hrun : ∀ w, (Op.unary op a).run Try.prog w = .ok z w) : Gives Try.prog ops Q i (.val z) A w :=
  gives_v ho hg (X := Op.unary op a) (w' := w) (x := z) (by unfold execOp; rw [hop]; simp only [hx]) (hrun w) rfl (Turned.refl _ _)

theorem want_yes {v : Nat → Value} {a : Act} {g : Nat} {d : Tmp} {b : Bool} (hd : Apart ops) (hg : o.guard = some (g, b)) (h : dstOf ops g = some d) (hs : d < a.tmps.size) (hv : v g = .bool b) : Region.wanted o (yielded ops (putAll ops v a).tmps) = true :=
  wanted_yes hg (yielded_dst hd h hs hv)

theorem want_no {v : Nat → Value} {a : Act} {g : Nat} {d : Tmp} {b b' : Bool} (hd : Apart ops) (hg : o.guard = some (g, b)) (h : dstOf ops g = some d) (hs : d < a.tmps.size) (hv : v g = .bool b') (hb : b ≠ b') : Region.wanted o (yielded ops (putAll ops v a).tmps) = false :=
  wanted_no hg (yielded_dst hd h hs hv) hb
end
end Go.Proofs.Ytljnmjehokijgaa

/- What sane's own trees get of the landed functions. -/
namespace Go.Proofs.Ytljnmjehokijgaa
open Go.RowKit

/-- What the walk's boxes hold: the signature, two variables, zero. -/
structure Base (w : World) (b0 b1 : Nat) (p q : Option Addr) (cp cq : Nat) : Prop where
  sig : SigIn w numSorts numOps (.agg #[.slice p 2 cp, .slice q 4 cq])
  k1 : w.heap[b0]? = some (.cells #[.slice p 2 cp, .slice q 4 cq] 60 (0, 0))
  k2 : w.heap[b1]? = some (.cells #[.int .i64 1, .int .i64 0, .slice none 0 0] 24 (0, 0))
  k3 : w.heap[b1 + 1]? = some (.cells #[.int .i64 1, .int .i64 1, .slice none 0 0] 24 (0, 0))
  k4 : w.heap[b1 + 1 + 1]? = some (.cells #[.int .i64 2, .int .i64 0, .slice none 0 0] 24 (0, 0))

theorem Base.turned {w w' : World} {b0 b1 : Nat} {p q : Option Addr} {cp cq : Nat} (h : Base w b0 b1 p q cp cq) (t : Turned w w' (fun _ => False)) : Base w' b0 b1 p q cp cq :=
  ⟨h.sig.turned t, turn_keep t h.k1, turn_keep t h.k2, turn_keep t h.k3, turn_keep t h.k4⟩

/-- x, y, zero. -/
def tX : Tm := .node 1 0 []
def tY : Tm := .node 1 1 []
def tZ : Tm := .node 2 0 []
def tS (t : Tm) : Tm := .node 2 1 [t]
def tP (a b : Tm) : Tm := .node 2 2 [a, b]

theorem c_check : ∀ (V : World) (vS : Value), SigIn V numSorts numOps vS → Calls Try.prog 34 #[vS] V fun e w' => e = .returned (.int .i64 0) ∧ Turned V w' (fun _ => False) :=
  fun V vS hS => by rw [← checkE_numbers]; exact sigCheck_any numSorts numOps V vS hS

theorem c_sort1 (w : World) (v0 v1 v2 : Value) (h0 : SigIn w numSorts numOps v0) (h1 : RowI w v1 [0]) (h2 : TmIn w (.node 2 2 [tX, (.node 2 1 [tZ])]) v2) :
    Calls Try.prog 30 #[v0, v1, v2] w fun e w' => ∃ x, e = .returned x ∧ (Rel.val (.tuple #[.int .i64 0, .int .i64 0])).holds x w' ∧ Turned w w' (fun _ => False) := by
  refine (sigSort_any numSorts numOps 0 c_check [0] _ _ _ _ _ h0 h1 h2).mono ?_
  rintro e w' ⟨rfl, t⟩
  refine ⟨_, rfl, ?_, t⟩
  rw [show sortT 0 numSorts numOps [0] (.node 2 2 [tX, (.node 2 1 [tZ])]) = (0, 0) by decide +kernel]
  rfl

theorem c_sort2 (w : World) (v0 v1 v2 : Value) (h0 : SigIn w numSorts numOps v0) (h1 : RowI w v1 [0, 1]) (h2 : TmIn w (.node 2 3 [tX, tY]) v2) :
    Calls Try.prog 30 #[v0, v1, v2] w fun e w' => ∃ x, e = .returned x ∧ (Rel.val (.tuple #[.int .i64 0, .int .i64 4])).holds x w' ∧ Turned w w' (fun _ => False) := by
  refine (sigSort_any numSorts numOps 0 c_check [0, 1] _ _ _ _ _ h0 h1 h2).mono ?_
  rintro e w' ⟨rfl, t⟩
  refine ⟨_, rfl, ?_, t⟩
  rw [show sortT 0 numSorts numOps [0, 1] (.node 2 3 [tX, tY]) = (0, 4) by decide +kernel]
  rfl

theorem c_infer (w : World) (v0 v1 v2 : Value) (h0 : SigIn w numSorts numOps v0) (h1 : RowTm w v1 [.node 2 3 [tX, (.node 2 1 [tX])], tX]) (h2 : RowI w v2 [1, 0]) :
    Calls Try.prog 31 #[v0, v1, v2] w fun e w' => ∃ x, e = .returned x ∧ (Rel.tup (.ints [0]) [.int .i64 0]).holds x w' ∧ Turned w w' (fun _ => False) := by
  refine (sigInfer_any numSorts numOps 0 c_check _ [1, 0] _ _ _ _ h0 h1 h2 (by decide +kernel)).mono ?_
  rintro e w' ⟨y, rfl, hy, t⟩
  rw [show inferT 0 numSorts numOps [.node 2 3 [tX, (.node 2 1 [tX])], tX] [1, 0] = ([0], 0) by decide +kernel] at hy ⊢
  exact ⟨_, rfl, ⟨y, rfl, hy⟩, t⟩

theorem c_cmp (a b : Tm) (n : Int) (h : a.cmp b = n) (w : World) (v0 v1 : Value) (h0 : TmIn w a v0) (h1 : TmIn w b v1) :
    Calls Try.prog 11 #[v0, v1] w fun e w' => ∃ x, e = .returned x ∧ (Rel.val (.int .i64 n)).holds x w' ∧ Turned w w' (fun _ => False) := by
  refine (compare_any a b v0 v1 w h0 h1).mono ?_
  rintro e w' ⟨rfl, t⟩
  rw [h]
  exact ⟨_, rfl, rfl, t⟩

theorem c_check2 (w : World) (v0 : Value) (h0 : SigIn w numSorts numOps v0) : Calls Try.prog 34 #[v0] w fun e w' => ∃ x, e = .returned x ∧ (Rel.val (.int .i64 0)).holds x w' ∧ Turned w w' (fun _ => False) := by
  refine (c_check w v0 h0).mono ?_
  rintro e w' ⟨rfl, t⟩
  exact ⟨_, rfl, rfl, t⟩

theorem c_ints (l m : List Int) (b : Bool) (h : intsB l m = b) (w : World) (v0 v1 : Value) (h0 : RowI w v0 l) (h1 : RowI w v1 m) :
    Calls Try.prog 32 #[v0, v1] w fun e w' => ∃ x, e = .returned x ∧ (Rel.val (.bool b)).holds x w' ∧ Turned w w' (fun _ => False) := by
  refine (rsameInts_any l m v0 v1 w h0 h1).mono ?_
  rintro e w' ⟨rfl, t⟩
  rw [h]
  exact ⟨_, rfl, rfl, t⟩

theorem c_find (w : World) (v0 : Value) (h0 : SigIn w numSorts numOps v0) :
    Calls Try.prog 33 #[v0, .string ⟨#[95, 43, 95]⟩] w fun e w' => ∃ x, e = .returned x ∧ (Rel.ints [2]).holds x w' ∧ Turned w w' (fun _ => False) := by
  refine (sigFind_any numSorts numOps [95, 43, 95] v0 w h0 (by decide)).mono ?_
  rintro e w' ⟨v, rfl, hv, t⟩
  rw [show findI [95, 43, 95] numOps 0 = [2] by decide +kernel] at hv
  exact ⟨_, rfl, hv.row, t⟩

theorem OwnL.rows {w : World} {B : Nat} {v : Value} {L : List (List Int)} (h : OwnL w B v L) : RowII w v L := by
  obtain ⟨vs, h1, h2, h3⟩ := h
  have hc := h3
  rcases h3.2 with ⟨hv, h0⟩ | ⟨g, cap, cur, hv, hb, hg, hle, hcap, _⟩
  · have : L = [] := List.length_eq_zero_iff.1 h0
    subst this
    exact ⟨none, 0, hv, fun i x hi => by simp at hi⟩
  · refine ⟨_, cap, hv, fun j x hj => ?_⟩
    have hjl : j < vs.length := by rw [h1]; exact (List.getElem?_eq_some_iff.1 hj).1
    subst hv
    have := hc.cells (g := g) rfl j vs[j] (List.getElem?_eq_getElem hjl)
    have e : ((⟨g, 0, none⟩ : Addr).add j) = ⟨g, 0 + j, none⟩ := by
      unfold Addr.add
      split
      · rename_i h0; simp only [Addr.mk.injEq, true_and, and_true]; omega
      · rfl
    rw [e] at this
    exact ⟨g, 0, vs[j], rfl, lt_of_block hg, this, (h2 j _ x (List.getElem?_eq_getElem hjl) hj).row⟩

theorem c_paths (w : World) (v0 : Value) (h0 : TmIn w (.node 2 2 [tX, (.node 2 1 [tZ])]) v0) :
    Calls Try.prog 14 #[v0] w fun e w' => ∃ x, e = .returned x ∧ (Rel.tup (.rows [[], [0], [1], [1, 0]]) [.int .i64 0]).holds x w' ∧ Turned w w' (fun _ => False) := by
  refine (sigPaths_any _ v0 w h0).mono ?_
  rintro e w' ⟨h1, -, t⟩
  obtain ⟨v, rfl, hv⟩ := h1 (by decide +kernel)
  rw [show (Tm.node 2 2 [tX, (.node 2 1 [tZ])]).paths [] = [[], [0], [1], [1, 0]] by decide +kernel] at hv
  exact ⟨_, rfl, ⟨v, rfl, hv.rows⟩, t⟩

theorem c_subst1 (w : World) (v0 v1 : Value) (h0 : TmIn w (.node 2 2 [tX, tY]) v0) (h1 : RowTm w v1 [(.node 2 1 [tY]), tZ]) :
    Calls Try.prog 21 #[v0, v1] w fun e w' => ∃ x, e = .returned x ∧ (Rel.tup (.tree (.node 2 2 [(.node 2 1 [tY]), tZ])) [.int .i64 0]).holds x w' ∧ Turned w w' (fun _ => False) := by
  refine (sigSubst_any _ _ _ _ w h0 h1).mono ?_
  rintro e w' ⟨v, rfl, hv, t⟩
  rw [show (Tm.node 2 2 [tX, tY]).subst [(.node 2 1 [tY]), tZ] = (.node 2 2 [(.node 2 1 [tY]), tZ], 0) by rfl] at hv ⊢
  exact ⟨_, rfl, ⟨v, rfl, TmS.toIn _ hv⟩, t⟩

theorem c_subst2 (w : World) (v0 v1 : Value) (h0 : TmIn w (.node 2 2 [tX, tY]) v0) (h1 : RowTm w v1 [(.node 2 1 [tY])]) :
    Calls Try.prog 21 #[v0, v1] w fun e w' => ∃ x, e = .returned x ∧ (Rel.tup (.tree Tm.zero) [.int .i64 1]).holds x w' ∧ Turned w w' (fun _ => False) := by
  refine (sigSubst_any _ _ _ _ w h0 h1).mono ?_
  rintro e w' ⟨v, rfl, hv, t⟩
  rw [show (Tm.node 2 2 [tX, tY]).subst [(.node 2 1 [tY])] = (Tm.zero, 1) by rfl] at hv ⊢
  exact ⟨_, rfl, ⟨v, rfl, TmS.toIn _ hv⟩, t⟩

theorem c_same (a b : Tm) (r : Bool) (h : a.same b = r) (w : World) (v0 v1 : Value) (h0 : TmIn w a v0) (h1 : TmIn w b v1) :
    Calls Try.prog 18 #[v0, v1] w fun e w' => ∃ x, e = .returned x ∧ (Rel.val (.bool r)).holds x w' ∧ Turned w w' (fun _ => False) := by
  refine (rsame_any a b v0 v1 w h0 h1).mono ?_
  rintro e w' ⟨rfl, t⟩
  rw [h]
  exact ⟨_, rfl, rfl, t⟩

theorem c_sameAll (l m : List Tm) (r : Bool) (h : Tm.sames l m = r) (w : World) (v0 v1 : Value) (h0 : RowTm w v0 l) (h1 : RowTm w v1 m) :
    Calls Try.prog 23 #[v0, v1] w fun e w' => ∃ x, e = .returned x ∧ (Rel.val (.bool r)).holds x w' ∧ Turned w w' (fun _ => False) := by
  refine (rsameAll_any l m v0 v1 w h0 h1).mono ?_
  rintro e w' ⟨rfl, t⟩
  rw [h]
  exact ⟨_, rfl, rfl, t⟩

theorem c_match1 (w : World) (v0 v1 : Value) (h0 : TmIn w (.node 2 2 [tX, tX]) v0) (h1 : TmIn w (.node 2 2 [(.node 2 1 [tY]), (.node 2 1 [tY])]) v1) :
    Calls Try.prog 35 #[v0, v1] w fun e w' => ∃ x, e = .returned x ∧ (Rel.tup (.trees [(.node 2 1 [tY])]) [.bool true, .int .i64 0]).holds x w' ∧ Turned w w' (fun _ => False) := by
  refine (sigMatch_any _ _ _ _ w h0 h1 (by simp [Tm.small, Tm.smalls, tX])).mono ?_
  rintro e w' ⟨v, rfl, hv, t⟩
  rw [show (Tm.node 2 2 [tX, tX]).matchT (.node 2 2 [(.node 2 1 [tY]), (.node 2 1 [tY])]) = ([(.node 2 1 [tY])], true, 0) by rfl] at hv ⊢
  exact ⟨_, rfl, ⟨v, rfl, hv⟩, t⟩

theorem c_match2 (w : World) (v0 v1 : Value) (h0 : TmIn w (.node 2 2 [tX, tX]) v0) (h1 : TmIn w (.node 2 2 [tZ, (.node 2 1 [tZ])]) v1) :
    Calls Try.prog 35 #[v0, v1] w fun e w' => ∃ x, e = .returned x ∧ (Rel.tup (.trees []) [.bool false, .int .i64 0]).holds x w' ∧ Turned w w' (fun _ => False) := by
  refine (sigMatch_any _ _ _ _ w h0 h1 (by simp [Tm.small, Tm.smalls, tX])).mono ?_
  rintro e w' ⟨v, rfl, hv, t⟩
  rw [show (Tm.node 2 2 [tX, tX]).matchT (.node 2 2 [tZ, (.node 2 1 [tZ])]) = ([], false, 0) by rfl] at hv ⊢
  exact ⟨_, rfl, ⟨v, rfl, hv⟩, t⟩

theorem c_shift (w : World) (v0 : Value) (h0 : TmIn w (.node 2 2 [tX, tY]) v0) :
    Calls Try.prog 25 #[v0, .int .i64 1, .int .i64 2] w fun e w' => ∃ x, e = .returned x ∧ (Rel.tup (.tree (.node 2 2 [tX, (.node 1 3 [])])) [.int .i64 0]).holds x w' ∧ Turned w w' (fun _ => False) := by
  refine (sigShift_any _ _ 1 2 w h0 (by simp [Tm.small, Tm.smalls, tX, tY]) (by decide)).mono ?_
  rintro e w' ⟨v, rfl, hv, t⟩
  rw [show (Tm.node 2 2 [tX, tY]).shift 1 2 = (.node 2 2 [tX, (.node 1 3 [])], 0) by rfl] at hv ⊢
  exact ⟨_, rfl, ⟨v, rfl, TmS.toIn _ hv⟩, t⟩

theorem c_shiftS (w : World) (v0 : Value) (h0 : TmIn w (.node 2 2 [tX, tY]) v0) :
    Calls Try.prog 25 #[v0, .int .i64 1, .int .i64 2] w (NewTe w (.node 2 2 [tX, (.node 1 3 [])], 0)) := by
  refine (sigShift_any _ _ 1 2 w h0 (by simp [Tm.small, Tm.smalls, tX, tY]) (by decide)).mono ?_
  rintro e w' h
  rwa [show (Tm.node 2 2 [tX, tY]).shift 1 2 = (.node 2 2 [tX, (.node 1 3 [])], 0) by rfl] at h

theorem c_normal (w : World) (v0 : Value) (h0 : RowTm w v0 [(.node 2 2 [tY, tX]), tY]) :
    Calls Try.prog 22 #[v0] w fun e w' => ∃ x, e = .returned x ∧ (Rel.tup2 (.trees [(.node 2 2 [tX, tY]), tX]) (.ints [1, 0]) [.int .i64 0]).holds x w' ∧ Turned w w' (fun _ => False) := by
  refine (sigNormal_any _ _ w h0 (by simp [Tm.small, Tm.smalls, tX, tY]) (by decide +kernel)).mono ?_
  rintro e w' ⟨h1, -, t⟩
  obtain ⟨v1, v2, rfl, hv1, hv2⟩ := h1 (by decide +kernel)
  rw [show normTs [(.node 2 2 [tY, tX]), tY] = [(.node 2 2 [tX, tY]), tX] by rfl] at hv1
  rw [show wereOf [(.node 2 2 [tY, tX]), tY] = [1, 0] by rfl] at hv2
  exact ⟨_, rfl, ⟨v1, v2, rfl, hv1, hv2⟩, t⟩
end Go.Proofs.Ytljnmjehokijgaa

/- A box that is made in a drawn region, and written within it. -/
namespace Go.Proofs.Ytljnmjehokijgaa
open Go.RowKit

/-- A box of the zero tree. -/
def Zero0 (w : World) (k : Nat) : Prop := w.heap[k]? = some (.cells #[.int .i64 0, .int .i64 0, .slice none 0 0] 24 (0, 0))
/-- A box of a tree. -/
def Box (t : Tm) (w : World) (k : Nat) : Prop := ∃ q c, w.heap[k]? = some (.cells #[.int .i64 t.kind, .int .i64 t.num, .slice q t.kids.length c] 24 (0, 0)) ∧ TmIn w t (.agg #[.int .i64 t.kind, .int .i64 t.num, .slice q t.kids.length c])
def Bx (t : Tm) (w : World) (k : Nat) : Prop := Zero0 w k ∨ Box t w k

/-- Of what was there, only boxes of the zero tree or of t, not older than B, have turned; they are so still. -/
structure Tz (B : Nat) (t : Tm) (w w' : World) : Prop where
  turned : Turned w w' (fun k => B ≤ k ∧ Bx t w k)
  bx : ∀ k, B ≤ k → Bx t w k → Bx t w' k
  box : ∀ k, B ≤ k → Box t w k → Box t w' k

/-- No node of a tree has kind 0 or looks like t. -/
def clean (k n : Int) (t : Tm) : Bool := !(decide (t.kind = 0) && decide (t.num = 0)) && !(decide (t.kind = k) && decide (t.num = n))
mutual
def Tm.cleanK (k n : Int) : Tm → Bool
  | .node _ _ l => Tm.cleans k n l
def Tm.cleans (k n : Int) : List Tm → Bool
  | [] => true
  | t :: l => clean k n t && t.cleanK k n && Tm.cleans k n l
end

theorem not_bx {w : World} {B : Nat} {t u : Tm} {g off : Nat} {a : Value} (hc : clean t.kind t.num u = true) (h0 : w.cell? ⟨g, off, none⟩ = some (.int .i64 u.kind)) (h1 : w.cell? ⟨g, off + 1, none⟩ = some (.int .i64 u.num)) (h2 : w.cell? ⟨g, off + 2, none⟩ = some a) : ¬ (B ≤ g ∧ Bx t w g) := by
  rintro ⟨-, h⟩
  have key : ∀ (x y : Int) (z : Option Addr) (n c : Nat), w.heap[g]? = some (.cells #[.int .i64 x, .int .i64 y, .slice z n c] 24 (0, 0)) → u.kind = x ∧ u.num = y := by
    intro x y z n c hg
    simp only [World.cell?, hg] at h0 h1 h2
    rcases off with _ | _ | _ | off
    · simp at h0 h1
      exact ⟨h0.symm, h1.symm⟩
    · simp at h1
    · simp at h1
    · simp at h0
  unfold clean at hc
  simp only [Bool.and_eq_true, Bool.not_eq_true', Bool.and_eq_false_iff, decide_eq_false_iff_not] at hc
  rcases h with h | ⟨q, c, h, -⟩
  · obtain ⟨h3, h4⟩ := key _ _ _ _ _ h
    rcases hc.1 with h5 | h5
    · exact h5 h3
    · exact h5 h4
  · obtain ⟨h3, h4⟩ := key _ _ _ _ _ h
    rcases hc.2 with h5 | h5
    · exact h5 h3
    · exact h5 h4

mutual
theorem TmIn.tz {w w' : World} {B : Nat} {u : Tm} (h : Turned w w' (fun k => B ≤ k ∧ Bx u w k)) : ∀ (t : Tm) {v : Value}, t.cleanK u.kind u.num = true → TmIn w t v → TmIn w' t v
  | .node _ _ l, _, hc, ht => by
    obtain ⟨a, cap, hv, hl, hr⟩ := ht
    exact ⟨a, cap, hv, hl, TmsIn.tz h l hc hr⟩
theorem TmsIn.tz {w w' : World} {B : Nat} {u : Tm} (h : Turned w w' (fun k => B ≤ k ∧ Bx u w k)) : ∀ (l : List Tm) {a : Option Addr}, Tm.cleans u.kind u.num l = true → TmsIn w l a → TmsIn w' l a
  | [], _, _, _ => trivial
  | t :: l, _, hc, hr => by
    simp only [Tm.cleans, Bool.and_eq_true] at hc
    obtain ⟨g, off, v0, v1, v2, ha, hg, h0, h1, h2, ht, hl⟩ := hr
    obtain ⟨q, c, hv, -⟩ := ht.form
    simp only [Value.agg.injEq, Array.mk.injEq, List.cons.injEq, and_true] at hv
    obtain ⟨rfl, rfl, rfl⟩ := hv
    have hn := not_bx (B := B) hc.1.1 h0 h1 h2
    exact ⟨g, off, _, _, _, ha, Nat.lt_of_lt_of_le hg h.size, (h.cell (p := ⟨g, off, none⟩) hg hn).trans h0, (h.cell (p := ⟨g, off + 1, none⟩) hg hn).trans h1, (h.cell (p := ⟨g, off + 2, none⟩) hg hn).trans h2,
      TmIn.tz h t hc.1.2 ht, TmsIn.tz h l hc.2 hl⟩
end

theorem Tz.of {B : Nat} {t : Tm} {w w' : World} (h : Turned w w' (fun _ => False)) : Tz B t w w' :=
  ⟨h.mono (fun _ _ hf => hf.elim), fun _ _ hb => hb.elim (fun h0 => .inl (turn_keep h h0)) (fun ⟨q, c, h1, h2⟩ => .inr ⟨q, c, turn_keep h h1, TmIn.turned h _ h2⟩), fun _ _ ⟨q, c, h1, h2⟩ => ⟨q, c, turn_keep h h1, TmIn.turned h _ h2⟩⟩

/-- The tree is put into the box. -/
theorem Tz.put {B Z : Nat} {t : Tm} {w : World} {q : Option Addr} {c : Nat} (hc : t.cleanK t.kind t.num = true) (hB : B ≤ Z) (hb : Bx t w Z) (ht : TmIn w t (.agg #[.int .i64 t.kind, .int .i64 t.num, .slice q t.kids.length c])) :
    Tz B t w (((w.setCell ⟨Z, 0, none⟩ (.int .i64 t.kind)).setCell ⟨Z, 1, none⟩ (.int .i64 t.num)).setCell ⟨Z, 2, none⟩ (.slice q t.kids.length c)) ∧
    Box t (((w.setCell ⟨Z, 0, none⟩ (.int .i64 t.kind)).setCell ⟨Z, 1, none⟩ (.int .i64 t.num)).setCell ⟨Z, 2, none⟩ (.slice q t.kids.length c)) Z := by
  obtain ⟨x, y, z, hz⟩ : ∃ x y z, w.heap[Z]? = some (.cells #[x, y, z] 24 (0, 0)) := by
    rcases hb with h | ⟨q, c, h, -⟩
    · exact ⟨_, _, _, h⟩
    · exact ⟨_, _, _, h⟩
  obtain ⟨g1, g2⟩ := store3 hz (.int .i64 t.kind) (.int .i64 t.num) (.slice q t.kids.length c)
  have hT : Turned w (((w.setCell ⟨Z, 0, none⟩ (.int .i64 t.kind)).setCell ⟨Z, 1, none⟩ (.int .i64 t.num)).setCell ⟨Z, 2, none⟩ (.slice q t.kids.length c)) (fun k => B ≤ k ∧ Bx t w k) := g2.mono (fun k _ e => by subst e; exact ⟨hB, hb⟩)
  have hin := TmIn.tz hT t hc ht
  have hbox : Box t (((w.setCell ⟨Z, 0, none⟩ (.int .i64 t.kind)).setCell ⟨Z, 1, none⟩ (.int .i64 t.num)).setCell ⟨Z, 2, none⟩ (.slice q t.kids.length c)) Z := ⟨q, c, g1, hin⟩
  refine ⟨⟨hT, fun k hk hbk => ?_, fun k hk hbk => ?_⟩, hbox⟩
  · by_cases e : k = Z
    · subst e; exact .inr hbox
    · rcases hbk with h | ⟨q', c', h1, h2⟩
      · exact .inl ((g2.block k (lt_of_block h) e).trans h)
      · exact .inr ⟨q', c', (g2.block k (lt_of_block h1) e).trans h1, TmIn.tz hT t hc h2⟩
  · by_cases e : k = Z
    · subst e; exact hbox
    · obtain ⟨q', c', h1, h2⟩ := hbk
      exact ⟨q', c', (g2.block k (lt_of_block h1) e).trans h1, TmIn.tz hT t hc h2⟩

/-- What a value is bears it. -/
def Rel.cleanR (k n : Int) : Rel → Bool
  | .val _ => true
  | .tree t => t.cleanK k n
  | .trees l => Tm.cleans k n l
  | .tup r _ => r.cleanR k n
  | _ => false

theorem Rel.tz {B : Nat} {u : Tm} (r : Rel) (v : Value) (w w' : World) (hc : r.cleanR u.kind u.num = true) (h : r.holds v w) (t : Tz B u w w') : r.holds v w' := by
  induction r generalizing v with
  | val x => exact h
  | tree a => exact TmIn.tz t.turned _ hc h
  | trees l => obtain ⟨a, cap, hv, hl, hr⟩ := h; exact ⟨a, cap, hv, hl, TmsIn.tz t.turned _ hc hr⟩
  | tup r rest ih => obtain ⟨y, e, hy⟩ := h; exact ⟨y, e, ih y hc hy⟩
  | _ => cases hc

theorem Tz.trans {w0 w w' : World} {u : Tm} (h : Turned w0 w (fun _ => False)) (t : Tz w0.heap.size u w w') : Turned w0 w' (fun _ => False) :=
  h.trans t.turned (fun i hi e => by omega)

section
variable {P : Program} {ops : Array Oper} {Q : Exit → Act → World → Prop} {A : Act} {w : World} {i : Nat} {o : Oper} {r : Rel}

theorem givesT {Rr : Value → World → Prop} {T : World → World → Prop} (h : Gives P ops Q i r A w) (hR : ∀ x w2, r.holds x w2 → Rr x w2) (hT : ∀ w2, Turned w w2 (fun _ => False) → T w w2) :
    wpOp P ops Q i (fun a' w2 => ∃ x, a' = A.put (dstOf ops i) x ∧ Rr x w2 ∧ T w w2) A w :=
  wpOp_mono (fun _ w'' ⟨x, e, hx, ht⟩ => ⟨x, e, hR x w'' hx, hT w'' ht⟩) h.out

theorem alloc_term (w : World) : (Instr.alloc 24 true (.tuple #[])).run Try.prog w = .ok (.pointer (some ⟨w.heap.size, 0, none⟩)) (w.alloc (.cells #[.int .i64 0, .int .i64 0, .slice none 0 0] 24)) := by kernel_rfl

theorem store_term {k n : Int} {q : Option Addr} {l cp : Nat} {x y z : Value} {Z : Nat} {w : World} (hz : w.heap[Z]? = some (.cells #[x, y, z] 24 (0, 0))) :
    (Instr.storeAt 24 (.pointer (some ⟨Z, 0, none⟩)) (.agg #[.int .i64 k, .int .i64 n, .slice q l cp])).run Try.prog w = .ok () (((w.setCell ⟨Z, 0, none⟩ (.int .i64 k)).setCell ⟨Z, 1, none⟩ (.int .i64 n)).setCell ⟨Z, 2, none⟩ (.slice q l cp)) := by
  obtain ⟨c0, c1, c2, f0, f1, f2, l⟩ := box3 hz
  clear hz
  go_simp

theorem step_alloc {Rr : Value → World → Prop} {T : World → World → Prop} (ho : ops[i]? = some o) (hg : Region.wanted o (yielded ops A.tmps) = true) (hop : o.op = .alloc 24)
    (hR : ∀ w2, Turned w w2 (fun _ => False) → Zero0 w2 w.heap.size → Rr (.pointer (some ⟨w.heap.size, 0, none⟩)) w2) (hT : ∀ w2, Turned w w2 (fun _ => False) → T w w2) :
    wpOp Try.prog ops Q i (fun a' w2 => ∃ x, a' = A.put (dstOf ops i) x ∧ Rr x w2 ∧ T w w2) A w := by
  unfold wpOp
  rw [ho]
  simp only [hg, if_true]
  left
  unfold Oper.wp
  have hrun : (execOp A.eval o).run Try.prog w = .ok (.value (.pointer (some ⟨w.heap.size, 0, none⟩))) (w.alloc (.cells #[.int .i64 0, .int .i64 0, .slice none 0 0] 24)) := by
    unfold execOp
    rw [hop]
    simp only [Sem.run_bind, alloc_term]
    rfl
  rw [hrun]
  simp only [Oper.upon]
  have t : Turned w (w.alloc (.cells #[.int .i64 0, .int .i64 0, .slice none 0 0] 24)) (fun _ => False) := (Turned.refl _ _).alloc _
  exact ⟨_, by rw [dstOf_eq ho], hR _ t (heap_alloc_new _ _), hT _ t⟩

theorem step_store {Rr : Value → World → Prop} {T : World → World → Prop} (ho : ops[i]? = some o) (hg : Region.wanted o (yielded ops A.tmps) = true) {p x : Operand} (hop : o.op = .store 24 p x) (hd : o.dst = none) {Z : Nat} {t : Tm} {B : Nat} (hB : B ≤ Z) (hc : t.cleanK t.kind t.num = true)
    (hp : A.eval p = .pointer (some ⟨Z, 0, none⟩)) (hx : TmIn w t (A.eval x)) (hb : Bx t w Z) (hR : ∀ (y : Value) w2, Tz B t w w2 → Box t w2 Z → Rr y w2) (hT : ∀ w2, Tz B t w w2 → T w w2) :
    wpOp Try.prog ops Q i (fun a' w2 => ∃ x, a' = A.put (dstOf ops i) x ∧ Rr x w2 ∧ T w w2) A w := by
  obtain ⟨q, c, hv, -⟩ := hx.form
  rw [hv] at hx
  obtain ⟨h1, h2⟩ := Tz.put hc hB hb hx
  obtain ⟨x0, y0, z0, hz⟩ : ∃ x y z, w.heap[Z]? = some (.cells #[x, y, z] 24 (0, 0)) := by
    rcases hb with h | ⟨q, c, h, -⟩
    · exact ⟨_, _, _, h⟩
    · exact ⟨_, _, _, h⟩
  have hs := store_term (k := t.kind) (n := t.num) (q := q) (l := t.kids.length) (cp := c) hz
  unfold wpOp
  rw [ho]
  simp only [hg, if_true]
  left
  unfold Oper.wp
  have hrun : (execOp A.eval o).run Try.prog w = .ok .skip (((w.setCell ⟨Z, 0, none⟩ (.int .i64 t.kind)).setCell ⟨Z, 1, none⟩ (.int .i64 t.num)).setCell ⟨Z, 2, none⟩ (.slice q t.kids.length c)) := by
    unfold execOp
    rw [hop]
    simp only [hp, hv, Sem.run_bind, hs]
    rfl
  rw [hrun]
  simp only [Oper.upon]
  exact ⟨undef, by rw [dstOf_eq ho, hd], hR _ _ h1 h2, hT _ h1⟩
theorem gives_box (ho : ops[i]? = some o) (hg : Region.wanted o (yielded ops A.tmps) = true) {p : Operand} {Z : Nat} {t : Tm} (hop : o.op = .load 24 p) (hp : A.eval p = .pointer (some ⟨Z, 0, none⟩)) (hB : Box t w Z) : Gives Try.prog ops Q i (.tree t) A w := by
  obtain ⟨q, c, hb, ht⟩ := hB
  obtain ⟨h0, h1, h2, -⟩ := box3 hb
  exact gives_load ho hg hop hp (load_term _ _ _ _ _ h0 h1 h2) ht

theorem gives_len (ho : ops[i]? = some o) (hg : Region.wanted o (yielded ops A.tmps) = true) {x : Operand} {l : List (List Int)} (hop : o.op = .call { callee := .builtin .len, args := #[x], argTypes := #[31] }) (hx : RowII w (A.eval x) l) : Gives Try.prog ops Q i (.val (.int .i64 l.length)) A w := by
  obtain ⟨a, cap, hv, -⟩ := hx
  refine gives_value ho hg (x := .int .i64 l.length) (w' := w) ?_ rfl (Turned.refl _ _)
  unfold execOp
  rw [hop]
  simp only [resolve, invoke, builtin, Sem.run_bind, Sem.run_pure, Result.andThen_ok, List.map_toArray, List.map_cons, List.map_nil, hv]
  go_simp

/-- Where a list of numbers stands in a list. -/
def AtI (x : List Int) (v : Value) (w : World) : Prop := ∃ g off vi, v = .pointer (some ⟨g, off, none⟩) ∧ g < w.heap.size ∧ w.cell? ⟨g, off, none⟩ = some vi ∧ RowI w vi x

theorem AtI.turned {x : List Int} {v : Value} {w w' : World} (h : AtI x v w) (t : Turned w w' (fun _ => False)) : AtI x v w' := by
  obtain ⟨g, off, vi, hv, hg, hc, hr⟩ := h
  exact ⟨g, off, vi, hv, Nat.lt_of_lt_of_le hg t.size, (t.cell (p := ⟨g, off, none⟩) hg (fun hf => hf)).trans hc, hr.turned t⟩

theorem gives_at (ho : ops[i]? = some o) (hg : Region.wanted o (yielded ops A.tmps) = true) {x : Operand} {n : Nat} {l : List (List Int)} {y : List Int} (hop : o.op = .indexAddr 31 x (.const (.int .i64 n))) (hx : RowII w (A.eval x) l) (hn : l[n]? = some y) : Gives Try.prog ops Q i (.more (AtI y)) A w := by
  obtain ⟨a, cap, hv, hat⟩ := hx
  obtain ⟨g, off, vi, rfl, hgs, hc, hr⟩ := hat n y hn
  have hlt : n < l.length := (List.getElem?_eq_some_iff.1 hn).1
  refine gives_v ho hg (X := Instr.indexAt 31 (.slice (some ⟨g, off, none⟩) l.length cap) (.int .i64 n)) (x := .pointer (some ⟨g, off + n, none⟩)) (w' := w) (by unfold execOp; rw [hop]; show (do let r ← Instr.indexAt 31 (A.eval x) (.int .i64 n); pure (Next.value r)) = _; rw [hv]) ?_ ⟨⟨g, off + n, vi, rfl, hgs, hc, hr⟩, fun w' t => AtI.turned ⟨g, off + n, vi, rfl, hgs, hc, hr⟩ t⟩ (Turned.refl _ _)
  have h1 : (n : Int) < (l.length : Int) := by omega
  go_simp

theorem gives_ints_at (ho : ops[i]? = some o) (hg : Region.wanted o (yielded ops A.tmps) = true) {p : Operand} {y : List Int} (hop : o.op = .load 37 p) (hp : (Rel.more (AtI y)).holds (A.eval p) w) : Gives Try.prog ops Q i (.ints y) A w := by
  obtain ⟨⟨g, off, vi, hv, hgs, hc, hr⟩, -⟩ := hp
  refine gives_load ho hg hop hv (x := vi) ?_ hr
  obtain ⟨a, cap, rfl, -⟩ := hr
  go_simp

theorem run_row3 (a b c d e f g h j : Value) (w : World) : (Instr.buildSlice 22 3 #[(0, .agg #[a, b, c]), (1, .agg #[d, e, f]), (2, .agg #[g, h, j])]).run Try.prog w = .ok (.slice (some ⟨w.heap.size, 0, none⟩) 3 3) (w.alloc (.cells #[a, b, c, d, e, f, g, h, j] 24)) := by kernel_rfl

theorem rowTm_op3 {V : World} {a b c : Tm} {g cap : Nat} {c0 c1 c2 d0 d1 d2 e0 e1 e2 : Value} (hb : V.heap[g]? = some (.cells #[c0, c1, c2, d0, d1, d2, e0, e1, e2] 24 (0, 0))) (h : TmIn V a (.agg #[c0, c1, c2])) (h2 : TmIn V b (.agg #[d0, d1, d2])) (h3 : TmIn V c (.agg #[e0, e1, e2])) : RowTm V (.slice (some ⟨g, 0, none⟩) 3 cap) [a, b, c] := by
  refine ⟨_, cap, rfl, by unfold maxLen; simp, g, 0, c0, c1, c2, rfl, lt_of_block hb, ?_, ?_, ?_, h, g, 3, d0, d1, d2, rfl, lt_of_block hb, ?_, ?_, ?_, h2, g, 6, e0, e1, e2, rfl, lt_of_block hb, ?_, ?_, ?_, h3, trivial⟩ <;> simp [World.cell?, hb]

theorem gives_trees3 (ho : ops[i]? = some o) (hg : Region.wanted o (yielded ops A.tmps) = true) {x y z : Operand} {t u s : Tm} (hop : o.op = .buildSlice 22 3 #[(0, x), (1, y), (2, z)]) (hx : TmIn w t (A.eval x)) (hy : TmIn w u (A.eval y)) (hz : TmIn w s (A.eval z)) : Gives Try.prog ops Q i (.trees [t, u, s]) A w := by
  obtain ⟨a, c, hv, hl, -⟩ := hx.form
  obtain ⟨b, d, hv2, hl2, -⟩ := hy.form
  obtain ⟨e, f, hv3, hl3, -⟩ := hz.form
  refine gives_v ho hg (X := Instr.buildSlice 22 3 #[(0, A.eval x), (1, A.eval y), (2, A.eval z)]) (by unfold execOp; rw [hop]; simp only [List.map_toArray, List.map_cons, List.map_nil]) (by rw [hv, hv2, hv3]; exact run_row3 _ _ _ _ _ _ _ _ _ _) ?_ ((Turned.refl _ _).alloc _)
  rw [hv] at hx
  rw [hv2] at hy
  rw [hv3] at hz
  exact rowTm_op3 (heap_alloc_new _ _) (TmIn.turned ((Turned.refl _ _).alloc _) _ hx) (TmIn.turned ((Turned.refl _ _).alloc _) _ hy) (TmIn.turned ((Turned.refl _ _).alloc _) _ hz)

theorem c_var (n : Int) (w : World) : Calls Try.prog 24 #[.int .i64 n] w fun e w' => ∃ x, e = .returned x ∧ (Rel.tree (.node 1 n [])).holds x w' ∧ Turned w w' (fun _ => False) := by
  refine (variable_any n w).mono ?_
  rintro e w' ⟨rfl, t⟩
  exact ⟨_, rfl, ⟨none, 0, rfl, Nat.zero_le _, trivial⟩, t⟩
end

theorem Box.turned {t : Tm} {w w' : World} {k : Nat} (h : Box t w k) (h2 : Turned w w' (fun _ => False)) : Box t w' k := by
  obtain ⟨q, c, h1, h3⟩ := h
  exact ⟨q, c, turn_keep h2 h1, TmIn.turned h2 _ h3⟩

/-- The boxes of the variables and of zero. -/
structure Base2 (w : World) (b1 : Nat) : Prop where
  k2 : w.heap[b1]? = some (.cells #[.int .i64 1, .int .i64 0, .slice none 0 0] 24 (0, 0))
  k3 : w.heap[b1 + 1]? = some (.cells #[.int .i64 1, .int .i64 1, .slice none 0 0] 24 (0, 0))
  k4 : w.heap[b1 + 1 + 1]? = some (.cells #[.int .i64 2, .int .i64 0, .slice none 0 0] 24 (0, 0))

theorem Base2.turned {w w' : World} {b1 : Nat} (h : Base2 w b1) (t : Turned w w' (fun _ => False)) : Base2 w' b1 := ⟨turn_keep t h.k2, turn_keep t h.k3, turn_keep t h.k4⟩

/-- What stands when a tree has been put into the box. -/
theorem box_put {w0 w : World} {b1 Z : Nat} {u : Tm} {k n : Int} {q q' : Option Addr} {l c c' : Nat} {x y : Value} (h0 : Turned w0 w (fun _ => False)) (hb : w0.heap.size ≤ b1) (hZ : b1 + 1 + 1 < Z) (hB : Base2 w b1) (hx : w.heap[Z]? = some (.cells #[x, y, .slice q l c] 24 (0, 0)))
    (hu : TmS w (fun g => g ≠ Z) u (.agg #[.int .i64 k, .int .i64 n, .slice q' u.kids.length c'])) (hk : u.kind = k) (hn : u.num = n) :
    Turned w0 (((w.setCell ⟨Z, 0, none⟩ (.int .i64 k)).setCell ⟨Z, 1, none⟩ (.int .i64 n)).setCell ⟨Z, 2, none⟩ (.slice q' u.kids.length c')) (fun _ => False) ∧
    Base2 (((w.setCell ⟨Z, 0, none⟩ (.int .i64 k)).setCell ⟨Z, 1, none⟩ (.int .i64 n)).setCell ⟨Z, 2, none⟩ (.slice q' u.kids.length c')) b1 ∧
    Box u (((w.setCell ⟨Z, 0, none⟩ (.int .i64 k)).setCell ⟨Z, 1, none⟩ (.int .i64 n)).setCell ⟨Z, 2, none⟩ (.slice q' u.kids.length c')) Z := by
  obtain ⟨g1, g2⟩ := store3 hx (.int .i64 k) (.int .i64 n) (.slice q' u.kids.length c')
  subst hk
  subst hn
  refine ⟨h0.trans g2 (fun i hi e => by omega), ⟨(g2.block _ (lt_of_block hB.k2) (by omega)).trans hB.k2, (g2.block _ (lt_of_block hB.k3) (by omega)).trans hB.k3, (g2.block _ (lt_of_block hB.k4) (by omega)).trans hB.k4⟩, q', c', g1, ?_⟩
  exact TmS.toIn _ (TmS.turned g2 (fun j _ hj e => hj e) (fun _ _ h => h) u hu)

/-- The values of a region in which the operation ka makes a box and ks writes u into it. -/
def RB (u : Tm) (B ka ks : Nat) (rels : List Rel) (v : Nat → Value) (i : Nat) (w : World) : Prop :=
  if i = ka then ∃ Z, v ka = .pointer (some ⟨Z, 0, none⟩) ∧ B ≤ Z ∧ Bx u w Z else if i = ks then ∃ Z, v ka = .pointer (some ⟨Z, 0, none⟩) ∧ B ≤ Z ∧ Box u w Z else (rels[i]?.getD (.val undef)).holds (v i) w

theorem RB.loc {u : Tm} {B ka ks : Nat} {rels : List Rel} {v v' : Nat → Value} {i : Nat} {w : World} (h1 : v i = v' i) (h2 : i = ks → v ka = v' ka) (h : RB u B ka ks rels v i w) : RB u B ka ks rels v' i w := by
  unfold RB at h ⊢
  by_cases e1 : i = ka
  · subst e1
    rw [if_pos rfl] at h ⊢
    rwa [h1] at h
  · rw [if_neg e1] at h ⊢
    by_cases e2 : i = ks
    · rw [if_pos e2] at h ⊢
      rwa [h2 e2] at h
    · rw [if_neg e2] at h ⊢
      rwa [h1] at h

theorem RB.keep {u : Tm} {B ka ks : Nat} {rels : List Rel} {v : Nat → Value} {i : Nat} {w w' : World} (hc : rels.all (Rel.cleanR u.kind u.num) = true) (h : RB u B ka ks rels v i w) (t : Tz B u w w') : RB u B ka ks rels v i w' := by
  unfold RB at h ⊢
  by_cases e1 : i = ka
  · rw [if_pos e1] at h ⊢
    obtain ⟨Z, h1, h2, h3⟩ := h
    exact ⟨Z, h1, h2, t.bx Z h2 h3⟩
  · rw [if_neg e1] at h ⊢
    by_cases e2 : i = ks
    · rw [if_pos e2] at h ⊢
      obtain ⟨Z, h1, h2, h3⟩ := h
      exact ⟨Z, h1, h2, t.box Z h2 h3⟩
    · rw [if_neg e2] at h ⊢
      refine Rel.tz _ _ _ _ ?_ h t
      cases hr : rels[i]? with
      | none => rfl
      | some r => exact List.all_eq_true.1 hc r (List.mem_of_getElem? hr)
end Go.Proofs.Ytljnmjehokijgaa
