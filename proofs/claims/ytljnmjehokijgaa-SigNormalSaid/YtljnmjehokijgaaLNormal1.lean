/- Parts of the proof, one behind the other. -/
import Derived.Test.YtljnmjehokijgaaMg16

/- Shift there and back: the mathematics. -/
namespace Go.Proofs.Ytljnmjehokijgaa
open Go.RowKit

mutual
theorem Tm.mapN_size (f : Int → Int → Int) : ∀ t : Tm, (t.mapN f).size = t.size
  | .node k n l => by simp only [Tm.mapN, Tm.size, Tm.mapNs_size f l]
theorem Tm.mapNs_size (f : Int → Int → Int) : ∀ l : List Tm, Tm.sizes (Tm.mapNs f l) = Tm.sizes l
  | [] => rfl
  | t :: l => by simp only [Tm.mapNs, Tm.sizes, Tm.mapN_size f t, Tm.mapNs_size f l]
end
mutual
theorem Tm.mapN_depth (f : Int → Int → Int) : ∀ t : Tm, (t.mapN f).depth = t.depth
  | .node k n l => by simp only [Tm.mapN, Tm.depth, Tm.mapNs_depth f l]
theorem Tm.mapNs_depth (f : Int → Int → Int) : ∀ (l : List Tm) (m : Nat), Tm.depths (Tm.mapNs f l) m = Tm.depths l m
  | [], _ => rfl
  | t :: l, m => by simp only [Tm.mapNs, Tm.depths, Tm.mapN_depth f t, Tm.mapNs_depth f l]
end

theorem Tm.mapNs_length (f : Int → Int → Int) (l : List Tm) : (Tm.mapNs f l).length = l.length := by rw [Tm.mapNs_map, List.length_map]

theorem canB_node (fr bb k n : Int) (l : List Tm) : canB fr bb (.node k n l) = true ↔ k ≠ 1 ∨ n < fr ∨ (fr - n ≤ bb ∧ bb ≤ 1000000 - n) := by
  have e : canB fr bb (.node k n l) = ((!(k == 1) || decide (n < fr)) || (decide (fr - n ≤ bb) && decide (bb ≤ 1000000 - n))) := rfl
  rw [e]
  by_cases hk : k = 1
  · subst hk
    simp
  · simp [hk]

mutual
/-- What is moved is right. -/
theorem Tm.mov_right {fr bb : Int} (h0 : 0 ≤ fr) : ∀ t : Tm, t.right = true → t.every (canB fr bb) = true → (t.mapN (movF fr bb)).right = true
  | .node k n l, hr, hc => by
    rw [Tm.right_ok, Bool.and_eq_true] at hr
    simp only [Tm.every, Bool.and_eq_true] at hc
    simp only [Tm.mapN]
    rw [Tm.right_ok, Bool.and_eq_true]
    refine ⟨?_, Tm.movs_right h0 l hr.2 hc.2⟩
    have hr1 := hr.1
    have hc1 := (canB_node fr bb k n l).1 hc.1
    unfold Tm.okNode at hr1 ⊢
    simp only [Bool.or_eq_true, Bool.and_eq_true, Bool.not_eq_true', decide_eq_true_eq, decide_eq_false_iff_not, beq_iff_eq] at hr1 ⊢
    rw [Tm.mapNs_length]
    unfold movF
    rcases hr1 with ⟨⟨h1, h2⟩, h3⟩ | ⟨⟨h1, h2⟩, h3⟩
    · left
      refine ⟨⟨h1, ?_⟩, h3⟩
      split
      · rcases hc1 with h | h | h <;> omega
      · exact h2
    · right
      exact ⟨⟨h1, by rw [if_neg (by omega)]; exact h2⟩, h3⟩
theorem Tm.movs_right {fr bb : Int} (h0 : 0 ≤ fr) : ∀ l : List Tm, Tm.rights l = true → Tm.everys (canB fr bb) l = true → Tm.rights (Tm.mapNs (movF fr bb) l) = true
  | [], _, _ => rfl
  | t :: l, hr, hc => by
    simp only [Tm.rights, Bool.and_eq_true] at hr
    simp only [Tm.everys, Bool.and_eq_true] at hc
    simp only [Tm.mapNs, Tm.rights, Bool.and_eq_true]
    exact ⟨Tm.mov_right h0 t hr.1 hc.1, Tm.movs_right h0 l hr.2 hc.2⟩
end

mutual
theorem Tm.mov_mov {fr a b : Int} : ∀ t : Tm, t.every (canB fr a) = true → (t.mapN (movF fr a)).mapN (movF fr b) = t.mapN (movF fr (a + b))
  | .node k n l, hc => by
    simp only [Tm.every, Bool.and_eq_true] at hc
    have hc1 := (canB_node fr a k n l).1 hc.1
    simp only [Tm.mapN, Tm.movs_movs l hc.2]
    congr 1
    unfold movF
    by_cases hk : k = 1
    · subst hk
      by_cases hn : fr ≤ n
      · rw [if_pos (c := 1 = 1 ∧ fr ≤ n) ⟨rfl, hn⟩, if_pos ⟨rfl, by omega⟩, if_pos (c := 1 = 1 ∧ fr ≤ n) ⟨rfl, hn⟩]
        omega
      · rw [if_neg (c := 1 = 1 ∧ fr ≤ n) (fun h => hn h.2), if_neg (fun h => hn h.2), if_neg (fun h => hn h.2)]
    · rw [if_neg (c := k = 1 ∧ fr ≤ n) (fun h => hk h.1), if_neg (fun h => hk h.1), if_neg (fun h => hk h.1)]
theorem Tm.movs_movs {fr a b : Int} : ∀ l : List Tm, Tm.everys (canB fr a) l = true → Tm.mapNs (movF fr b) (Tm.mapNs (movF fr a) l) = Tm.mapNs (movF fr (a + b)) l
  | [], _ => rfl
  | t :: l, hc => by
    simp only [Tm.everys, Bool.and_eq_true] at hc
    simp only [Tm.mapNs, Tm.mov_mov t hc.1, Tm.movs_movs l hc.2]
end

mutual
theorem Tm.mov_zero {fr : Int} : ∀ t : Tm, t.mapN (movF fr 0) = t
  | .node k n l => by
    simp only [Tm.mapN, Tm.movs_zero l]
    congr 1
    unfold movF
    split <;> omega
theorem Tm.movs_zero {fr : Int} : ∀ l : List Tm, Tm.mapNs (movF fr 0) l = l
  | [] => rfl
  | t :: l => by simp only [Tm.mapNs, Tm.mov_zero t, Tm.movs_zero l]
end

mutual
theorem Tm.mov_every {fr a b c : Int} (hd : ∀ n, fr ≤ n → fr - n ≤ a → a ≤ 1000000 - n → (fr - (n + a) ≤ b ∧ b ≤ 1000000 - (n + a)) → fr - n ≤ c ∧ c ≤ 1000000 - n) : ∀ t : Tm, t.every (canB fr a) = true → (t.mapN (movF fr a)).every (canB fr b) = true → t.every (canB fr c) = true
  | .node k n l, h1, h2 => by
    simp only [Tm.mapN, Tm.every, Bool.and_eq_true] at h1 h2 ⊢
    refine ⟨?_, Tm.movs_every hd l h1.2 h2.2⟩
    have h3 := (canB_node fr a k n l).1 h1.1
    have h4 := (canB_node fr b k _ _).1 h2.1
    rw [canB_node]
    by_cases hk : k = 1
    · subst hk
      by_cases hn : fr ≤ n
      · unfold movF at h4
        rw [if_pos ⟨rfl, hn⟩] at h4
        right; right
        have h5 : fr - n ≤ a ∧ a ≤ 1000000 - n := by rcases h3 with h | h | h <;> omega
        exact hd n hn h5.1 h5.2 (by rcases h4 with h | h | h <;> omega)
      · right; left; omega
    · exact .inl hk
theorem Tm.movs_every {fr a b c : Int} (hd : ∀ n, fr ≤ n → fr - n ≤ a → a ≤ 1000000 - n → (fr - (n + a) ≤ b ∧ b ≤ 1000000 - (n + a)) → fr - n ≤ c ∧ c ≤ 1000000 - n) : ∀ l : List Tm, Tm.everys (canB fr a) l = true → Tm.everys (canB fr b) (Tm.mapNs (movF fr a) l) = true → Tm.everys (canB fr c) l = true
  | [], _, _ => rfl
  | t :: l, h1, h2 => by
    simp only [Tm.mapNs, Tm.everys, Bool.and_eq_true] at h1 h2 ⊢
    exact ⟨Tm.mov_every hd t h1.1 h2.1, Tm.movs_every hd l h1.2 h2.2⟩
end

mutual
theorem Tm.mov_back {fr a : Int} (ha : 0 ≤ a) : ∀ t : Tm, t.every (canB fr a) = true → (t.mapN (movF fr a)).every (canB fr (-a)) = true
  | .node k n l, h1 => by
    simp only [Tm.mapN, Tm.every, Bool.and_eq_true] at h1 ⊢
    refine ⟨?_, Tm.movs_back ha l h1.2⟩
    have h3 := (canB_node fr a k n l).1 h1.1
    rw [canB_node]
    by_cases hk : k = 1
    · subst hk
      unfold movF
      by_cases hn : fr ≤ n
      · rw [if_pos ⟨rfl, hn⟩]
        right; right
        rcases h3 with h | h | h <;> omega
      · rw [if_neg (fun h => hn h.2)]
        right; left; omega
    · exact .inl hk
theorem Tm.movs_back {fr a : Int} (ha : 0 ≤ a) : ∀ l : List Tm, Tm.everys (canB fr a) l = true → Tm.everys (canB fr (-a)) (Tm.mapNs (movF fr a) l) = true
  | [], _ => rfl
  | t :: l, h1 => by
    simp only [Tm.mapNs, Tm.everys, Bool.and_eq_true] at h1 ⊢
    exact ⟨Tm.mov_back ha t h1.1, Tm.movs_back ha l h1.2⟩
end

mutual
theorem Tm.mov_small {fr a : Int} (h0 : 0 ≤ fr) : ∀ t : Tm, t.small → t.every (canB fr a) = true → (t.mapN (movF fr a)).small
  | .node k n l, hs, h1 => by
    simp only [Tm.every, Bool.and_eq_true] at h1
    have h3 := (canB_node fr a k n l).1 h1.1
    refine ⟨?_, Tm.movs_small h0 l hs.2 h1.2⟩
    have hs1 := hs.1
    unfold movF
    split
    · rename_i h
      rcases h3 with h4 | h4 | h4 <;> omega
    · exact hs1
theorem Tm.movs_small {fr a : Int} (h0 : 0 ≤ fr) : ∀ l : List Tm, Tm.smalls l → Tm.everys (canB fr a) l = true → Tm.smalls (Tm.mapNs (movF fr a) l)
  | [], _, _ => trivial
  | t :: l, hs, h1 => by
    simp only [Tm.everys, Bool.and_eq_true] at h1
    exact ⟨Tm.mov_small h0 t hs.1 h1.1, Tm.movs_small h0 l hs.2 h1.2⟩
end

theorem Tm.mov_isTree {fr a : Int} {t : Tm} (h0 : 0 ≤ fr) (ht : t.isTree = true) (hc : t.every (canB fr a) = true) : (t.mapN (movF fr a)).isTree = true := by
  rw [Tm.isTree_iff] at ht ⊢
  rw [Tm.mapN_size, Tm.mapN_depth]
  exact ⟨ht.1, ht.2.1, Tm.mov_right h0 t ht.2.2 hc⟩

/-- Shift's laws. -/
theorem Tm.shift_laws (t : Tm) (fr a b : Int) : ((t.shift fr a).2 ≠ 0 → (t.shift fr a).1 = Tm.zero) ∧
    ((t.shift fr a).2 = 0 → (0 ≤ a → (t.shift fr a).1.shift fr (-a) = (t, 0)) ∧ (((t.shift fr a).1.shift fr b).2 = 0 → (t.shift fr (a + b)).2 = 0 ∧ ((t.shift fr a).1.shift fr b).1 = (t.shift fr (a + b)).1)) := by
  unfold Tm.shift
  by_cases ht : t.isTree = true
  rotate_left 1
  · rw [if_neg ht]
    exact ⟨fun _ => rfl, fun h => by cases h⟩
  rw [if_pos ht]
  by_cases hc : 0 ≤ fr ∧ t.every (canB fr a) = true
  rotate_left 1
  · rw [if_neg hc]
    exact ⟨fun _ => rfl, fun h => by cases h⟩
  rw [if_pos hc]
  refine ⟨fun h => absurd rfl h, fun _ => ⟨fun ha => ?_, fun h => ?_⟩⟩
  · rw [if_pos (Tm.mov_isTree hc.1 ht hc.2), if_pos ⟨hc.1, Tm.mov_back ha t hc.2⟩, Tm.mov_mov t hc.2]
    rw [show a + -a = 0 by omega, Tm.mov_zero]
  · rw [if_pos (Tm.mov_isTree hc.1 ht hc.2)] at h ⊢
    by_cases h2 : 0 ≤ fr ∧ (t.mapN (movF fr a)).every (canB fr b) = true
    · have h3 := Tm.mov_every (c := a + b) (fun n h1 h2 h3 h4 => by omega) t hc.2 h2.2
      rw [if_pos h2, if_pos ht, if_pos ⟨hc.1, h3⟩]
      exact ⟨rfl, Tm.mov_mov t hc.2⟩
    · rw [if_neg h2] at h
      cases h

theorem Tm.shift_small {t : Tm} {fr a : Int} (h : t.small) : (t.shift fr a).1.small := by
  unfold Tm.shift
  split
  · split
    · rename_i hc
      exact Tm.mov_small hc.1 t h hc.2
    · exact ⟨by omega, trivial⟩
  · exact ⟨by omega, trivial⟩
end Go.Proofs.Ytljnmjehokijgaa

/- Normal names do not depend on the names that there were: the mathematics. -/
namespace Go.Proofs.Ytljnmjehokijgaa
open Go.RowKit

/-- Variables named anew. -/
def lf (f : Int → Int) (n : Int) : Tm := Tm.leaf (f n)

mutual
theorem Tm.fill_lf (f : Int → Int) (g : Int → Tm) : ∀ t : Tm, (t.fill (lf f)).fill g = t.fill (fun n => g (f n))
  | .node k n l => by
    simp only [Tm.fill]
    split
    · simp only [lf, Tm.leaf, Tm.fill, if_true]
    · rename_i hk
      simp only [Tm.fill, if_neg hk, Tm.fills_lf f g l]
theorem Tm.fills_lf (f : Int → Int) (g : Int → Tm) : ∀ l : List Tm, Tm.fills g (Tm.fills (lf f) l) = Tm.fills (fun n => g (f n)) l
  | [] => rfl
  | t :: l => by simp only [Tm.fills, Tm.fill_lf f g t, Tm.fills_lf f g l]
end

mutual
theorem Tm.lf_size (f : Int → Int) : ∀ t : Tm, t.right = true → (t.fill (lf f)).size = t.size ∧ (t.fill (lf f)).depth = t.depth
  | .node k n l, h => by
    simp only [Tm.right, Bool.and_eq_true] at h
    simp only [Tm.fill]
    split
    · rename_i hk
      have hl : l = [] := by
        have := h.1.1.2
        simp only [hk, beq_self_eq_true, Bool.true_and, Bool.not_eq_true', decide_eq_false_iff_not] at this
        exact List.length_eq_zero_iff.1 (by omega)
      subst hl
      exact ⟨rfl, rfl⟩
    · simp only [Tm.size, Tm.depth, (Tm.lf_sizes f l h.2).1, (Tm.lf_sizes f l h.2).2 0, and_self]
theorem Tm.lf_sizes (f : Int → Int) : ∀ l : List Tm, Tm.rights l = true → Tm.sizes (Tm.fills (lf f) l) = Tm.sizes l ∧ ∀ m, Tm.depths (Tm.fills (lf f) l) m = Tm.depths l m
  | [], _ => ⟨rfl, fun _ => rfl⟩
  | t :: l, h => by
    simp only [Tm.rights, Bool.and_eq_true] at h
    simp only [Tm.fills, Tm.sizes, Tm.depths, (Tm.lf_size f t h.1).1, (Tm.lf_size f t h.1).2, (Tm.lf_sizes f l h.2).1, true_and]
    exact fun m => (Tm.lf_sizes f l h.2).2 _
end

mutual
theorem Tm.lf_right (f : Int → Int) : ∀ t : Tm, t.right = true → (∀ x, t.vin x → 0 ≤ f x) → (t.fill (lf f)).right = true
  | .node k n l, h, hf => by
    have h0 := h
    simp only [Tm.right, Bool.and_eq_true] at h
    simp only [Tm.fill]
    split
    · rename_i hk
      have := hf n (by simp only [Tm.vin, if_pos hk])
      simp only [lf, Tm.leaf, Tm.right, Tm.rights]
      simp
      omega
    · rename_i hk
      simp only [Tm.right, Bool.and_eq_true, fills_len]
      exact ⟨h.1, Tm.lf_rights f l h.2 (fun x hx => hf x (by simp only [Tm.vin, if_neg hk]; exact hx))⟩
theorem Tm.lf_rights (f : Int → Int) : ∀ l : List Tm, Tm.rights l = true → (∀ x, Tm.vins x l → 0 ≤ f x) → Tm.rights (Tm.fills (lf f) l) = true
  | [], _, _ => rfl
  | t :: l, h, hf => by
    simp only [Tm.rights, Bool.and_eq_true] at h
    simp only [Tm.fills, Tm.rights, Bool.and_eq_true]
    exact ⟨Tm.lf_right f t h.1 (fun x hx => hf x (.inl hx)), Tm.lf_rights f l h.2 (fun x hx => hf x (.inr hx))⟩
end

mutual
theorem Tm.lf_vin (f : Int → Int) (x : Int) : ∀ t : Tm, (t.fill (lf f)).vin x → ∃ y, t.vin y ∧ x = f y
  | .node k n l, h => by
    simp only [Tm.fill] at h
    split at h
    · rename_i hk
      simp only [lf, Tm.leaf, Tm.vin, if_true] at h
      exact ⟨n, by simp only [Tm.vin, if_pos hk], h.symm⟩
    · rename_i hk
      simp only [Tm.vin, if_neg hk] at h ⊢
      exact Tm.lf_vins f x l h
theorem Tm.lf_vins (f : Int → Int) (x : Int) : ∀ l : List Tm, Tm.vins x (Tm.fills (lf f) l) → ∃ y, Tm.vins y l ∧ x = f y
  | t :: l, h => by
    rcases h with h | h
    · obtain ⟨y, hy, e⟩ := Tm.lf_vin f x t h
      exact ⟨y, .inl hy, e⟩
    · obtain ⟨y, hy, e⟩ := Tm.lf_vins f x l h
      exact ⟨y, .inr hy, e⟩
end

theorem everys_of {p : Tm → Bool} : ∀ {l : List Tm}, (∀ t ∈ l, t.every p = true) → Tm.everys p l = true
  | [], _ => rfl
  | t :: l, h => by
    simp only [Tm.everys, Bool.and_eq_true]
    exact ⟨h t (.head _), everys_of (fun u hu => h u (.tail _ hu))⟩

theorem smalls_all : ∀ {l : List Tm}, (∀ t ∈ l, t.small) → Tm.smalls l
  | [], _ => trivial
  | t :: _, h => ⟨h t (.head _), smalls_all (fun u hu => h u (.tail _ hu))⟩

theorem Tm.lf_isTree (f : Int → Int) {t : Tm} (h : t.isTree = true) (hf : ∀ x, t.vin x → 0 ≤ f x) : (t.fill (lf f)).isTree = true := by
  rw [Tm.isTree_iff] at h ⊢
  rw [(Tm.lf_size f t h.2.2).1, (Tm.lf_size f t h.2.2).2]
  exact ⟨h.1, h.2.1, Tm.lf_right f t h.2.2 hf⟩

mutual
theorem Tm.lf_small (f : Int → Int) : ∀ t : Tm, t.small → (∀ x, t.vin x → -9223372036854775808 ≤ f x ∧ f x ≤ 9223372036854775807) → (t.fill (lf f)).small
  | .node k n l, h, hf => by
    simp only [Tm.fill]
    split
    · rename_i hk
      exact ⟨hf n (by simp only [Tm.vin, if_pos hk]), trivial⟩
    · rename_i hk
      exact ⟨h.1, Tm.lf_smalls f l h.2 (fun x hx => hf x (by simp only [Tm.vin, if_neg hk]; exact hx))⟩
theorem Tm.lf_smalls (f : Int → Int) : ∀ l : List Tm, Tm.smalls l → (∀ x, Tm.vins x l → -9223372036854775808 ≤ f x ∧ f x ≤ 9223372036854775807) → Tm.smalls (Tm.fills (lf f) l)
  | [], _, _ => trivial
  | t :: l, h, hf => ⟨Tm.lf_small f t h.1 (fun x hx => hf x (.inl hx)), Tm.lf_smalls f l h.2 (fun x hx => hf x (.inr hx))⟩
end

mutual
/-- The variables of trees named anew are the variables, named anew. -/
theorem Tm.lf_vars (f : Int → Int) : ∀ (t : Tm) (out : List Int), (∀ x y, (x ∈ out ∨ t.vin x) → (y ∈ out ∨ t.vin y) → f x = f y → x = y) → (t.fill (lf f)).vars (out.map f) = (t.vars out).map f
  | .node k n l, out, hi => by
    simp only [Tm.fill]
    by_cases hk : k = 1
    · subst hk
      rw [if_pos rfl]
      simp only [lf, Tm.leaf, Tm.vars, if_true]
      by_cases hn : n ∈ out
      · have e1 : inB (out.map f) (f n) = true := by simp only [inB, decide_eq_true_eq]; exact List.mem_map_of_mem hn
        have e2 : inB out n = true := by simp only [inB, decide_eq_true_eq]; exact hn
        rw [if_pos e1, if_pos e2]
      · have e1 : ¬ inB (out.map f) (f n) = true := by
          simp only [inB, decide_eq_true_eq]
          intro h
          obtain ⟨x, hx, e⟩ := List.mem_map.1 h
          exact hn (hi x n (.inl hx) (.inr (by simp only [Tm.vin, if_true])) e ▸ hx)
        have e2 : ¬ inB out n = true := by simp only [inB, decide_eq_true_eq]; exact hn
        rw [if_neg e1, if_neg e2, List.map_append]
        rfl
    · rw [if_neg hk]
      simp only [Tm.vars, if_neg hk]
      exact Tm.lf_varss f l out (fun x y hx hy => hi x y (by simp only [Tm.vin, if_neg hk]; exact hx) (by simp only [Tm.vin, if_neg hk]; exact hy))
theorem Tm.lf_varss (f : Int → Int) : ∀ (l : List Tm) (out : List Int), (∀ x y, (x ∈ out ∨ Tm.vins x l) → (y ∈ out ∨ Tm.vins y l) → f x = f y → x = y) → Tm.varss (Tm.fills (lf f) l) (out.map f) = (Tm.varss l out).map f
  | [], _, _ => rfl
  | t :: l, out, hi => by
    simp only [Tm.fills, Tm.varss]
    rw [Tm.lf_vars f t out (fun x y hx hy => hi x y (hx.imp_right .inl) (hy.imp_right .inl))]
    refine Tm.lf_varss f l _ (fun x y hx hy => hi x y ?_ ?_)
    · rcases hx with hx | hx
      · exact ((Tm.vars_mem x t out).1 hx).imp_right .inl
      · exact .inr (.inr hx)
    · rcases hy with hy | hy
      · exact ((Tm.vars_mem y t out).1 hy).imp_right .inl
      · exact .inr (.inr hy)
end

theorem wereOf_lf {f : Int → Int} {la : List Tm} (hr : Tm.rights la = true) (h0 : ∀ x, Tm.vins x la → 0 ≤ f x) (hi : ∀ x y, Tm.vins x la → Tm.vins y la → f x = f y → x = y) : wereOf (Tm.fills (lf f) la) = (wereOf la).map f := by
  unfold wereOf
  rw [Tm.walks_vars _ [] hr, Tm.walks_vars _ [] (Tm.lf_rights f la hr h0)]
  exact Tm.lf_varss f la [] (fun x y hx hy => hi x y (hx.resolve_left (by simp)) (hy.resolve_left (by simp)))

theorem idxOf_map {f : Int → Int} {x : Int} : ∀ {l : List Int}, (∀ y, y ∈ l → f y = f x → y = x) → (l.map f).idxOf (f x) = l.idxOf x
  | [], _ => rfl
  | a :: l, h => by
    rw [List.map_cons, List.idxOf_cons, List.idxOf_cons]
    by_cases e : a = x
    · subst e
      simp
    · have e2 : f a ≠ f x := fun h2 => e (h a (.head _) h2)
      have e3 : (f a == f x) = false := by simpa using e2
      have e4 : (a == x) = false := by simpa using e
      rw [e3, e4]
      simp only [cond_false, idxOf_map (fun y hy => h y (.tail _ hy))]

/-- Normal trees do not depend on the names. -/
theorem normTs_lf {f : Int → Int} {la : List Tm} (hr : Tm.rights la = true) (h0 : ∀ x, Tm.vins x la → 0 ≤ f x) (hi : ∀ x y, Tm.vins x la → Tm.vins y la → f x = f y → x = y) : normTs (Tm.fills (lf f) la) = normTs la := by
  unfold normTs
  rw [wereOf_lf hr h0 hi, Tm.fills_lf]
  refine Tm.fills_congr _ _ la (fun x hx => ?_)
  rw [idxOf_map (fun y hy e => hi y x ((wereOf_mem hr y).1 hy) hx e)]

/-- The number of a variable among those of trees. -/
def numIn (la : List Tm) (n : Int) : Int := ((wereOf la).idxOf n : Nat)

theorem normTs_eq (la : List Tm) : normTs la = Tm.fills (lf (numIn la)) la := rfl

theorem wereOf_nodup (la : List Tm) : (wereOf la).Nodup := Tm.walks_nodup la [] List.nodup_nil

theorem idxOf_at : ∀ {l : List Int}, l.Nodup → ∀ (k : Nat) (h : k < l.length), l.idxOf l[k] = k
  | a :: l, _, 0, _ => by simp
  | a :: l, hn, k + 1, h => by
    rw [List.nodup_cons] at hn
    have h2 : k < l.length := by simpa using h
    rw [List.getElem_cons_succ, List.idxOf_cons]
    have e : (a == l[k]) = false := by
      simp only [beq_eq_false_iff_ne]
      exact fun e => hn.1 (e ▸ List.getElem_mem h2)
    rw [e, cond_false, idxOf_at hn.2 k h2]

theorem at_idxOf {l : List Int} {x : Int} (h : x ∈ l) : l[l.idxOf x]? = some x := by
  rw [List.getElem?_eq_getElem (List.idxOf_lt_length_iff.2 h)]
  exact congrArg some (by simp)

theorem numIn_inj {la : List Tm} (hr : Tm.rights la = true) (x y : Int) (hx : Tm.vins x la) (hy : Tm.vins y la) (e : numIn la x = numIn la y) : x = y := by
  have h1 := at_idxOf ((wereOf_mem hr x).2 hx)
  have h2 := at_idxOf ((wereOf_mem hr y).2 hy)
  unfold numIn at e
  rw [show (wereOf la).idxOf x = (wereOf la).idxOf y by omega, h2] at h1
  exact (Option.some.inj h1).symm

theorem normTs_twice {la : List Tm} (hr : Tm.rights la = true) : normTs (normTs la) = normTs la := by
  rw [normTs_eq la, ← normTs_eq la]
  conv => lhs; rw [normTs_eq la]
  exact normTs_lf hr (fun x _ => Int.natCast_nonneg _) (numIn_inj hr)

theorem wereOf_norm {la : List Tm} (hr : Tm.rights la = true) : (wereOf (normTs la)).length = (wereOf la).length ∧ ∀ (k : Nat) (h : k < (wereOf (normTs la)).length), (wereOf (normTs la))[k] = k := by
  have e : wereOf (normTs la) = (wereOf la).map (numIn la) := by
    rw [normTs_eq]
    exact wereOf_lf hr (fun x _ => Int.natCast_nonneg _) (numIn_inj hr)
  refine ⟨by rw [e, List.length_map], fun k h => ?_⟩
  have h2 : k < (wereOf la).length := by rw [e, List.length_map] at h; exact h
  have : (wereOf (normTs la))[k]? = some (k : Int) := by
    rw [e, List.getElem?_map, List.getElem?_eq_getElem h2]
    simp only [Option.map_some, numIn, idxOf_at (wereOf_nodup la) k h2]
  rw [List.getElem?_eq_getElem h] at this
  exact Option.some.inj this

/-- What SigNormal asks of Normal's mirror. -/
structure NormOk (la : List Tm) : Prop where
  small : Tm.smalls (normTs la)
  size : Tm.sizes (normTs la) ≤ 1000000
  len : (normTs la).length = la.length
  all : (normTs la).all Tm.isTree = true
  names : (wereOf la).length ≤ 6000

theorem isTree_right {la : List Tm} (h : la.all Tm.isTree = true) : Tm.rights la = true := by
  rw [Tm.rights_all, List.all_eq_true]
  rw [List.all_eq_true] at h
  exact fun t ht => ((Tm.isTree_iff t).1 (h t ht)).2.2

theorem few_sizes {la : List Tm} (h : fewB la = true) : Tm.sizes la ≤ 6000 := by
  have := ((Tm.cnts_iff 1000 la 6000 0 (by omega) (by omega)).1 h).1
  omega

theorem wereOf_len {la : List Tm} (hr : Tm.rights la = true) (hsz : Tm.sizes la ≤ 6000) : (wereOf la).length ≤ 6000 := by
  unfold wereOf
  rw [Tm.walks_vars la [] hr]
  have := Tm.varss_len la []
  simp only [List.length_nil] at this
  omega

theorem numIn_lt {la : List Tm} (hr : Tm.rights la = true) {x : Int} (hx : Tm.vins x la) : 0 ≤ numIn la x ∧ numIn la x < (wereOf la).length := by
  have := List.idxOf_lt_length_iff.2 ((wereOf_mem hr x).2 hx)
  unfold numIn
  omega

theorem normOk {la : List Tm} (hs : Tm.smalls la) (ha : la.all Tm.isTree = true) (hsz : Tm.sizes la ≤ 6000) : NormOk la := by
  have hr := isTree_right ha
  have hw := wereOf_len hr hsz
  refine ⟨?_, ?_, ?_, ?_, hw⟩
  · rw [normTs_eq]
    exact Tm.lf_smalls _ la hs (fun x hx => by have := numIn_lt hr hx; omega)
  · rw [normTs_eq, (Tm.lf_sizes _ la hr).1]
    omega
  · rw [normTs_eq, fills_len]
  · rw [normTs_eq, Tm.fills_map, List.all_map, List.all_eq_true]
    rw [List.all_eq_true] at ha
    exact fun t ht => Tm.lf_isTree _ (ha t ht) (fun x hx => Int.natCast_nonneg _)

/-- Put back, they are the trees that there were. -/
theorem norm_back {la : List Tm} (ha : la.all Tm.isTree = true) (k : Nat) (hk : k < la.length) (hk2 : k < (normTs la).length) : (normTs la)[k].subst ((wereOf la).map Tm.leaf) = (la[k], 0) := by
  have hr := isTree_right ha
  have ha2 := List.all_eq_true.1 ha
  have hm := List.getElem_mem hk
  have e : (normTs la)[k] = la[k].fill (lf (numIn la)) := by
    have : (normTs la)[k]? = some (la[k].fill (lf (numIn la))) := by rw [normTs_eq, Tm.fills_map, List.getElem?_map, List.getElem?_eq_getElem hk, Option.map_some]
    rw [List.getElem?_eq_getElem hk2] at this
    exact Option.some.inj this
  have ht := ha2 _ hm
  have hv := fun x (hx : la[k].vin x) => numIn_lt hr (Tm.vins_mem hm hx)
  have hT : (la[k].fill (lf (numIn la))).isTree = true := Tm.lf_isTree _ ht (fun x _ => Int.natCast_nonneg _)
  rw [e]
  unfold Tm.subst
  have hback : ((wereOf la).map Tm.leaf).all Tm.isTree = true := by
    rw [List.all_map, List.all_eq_true]
    intro x hx
    have := Tm.vins_nonneg x la hr ((wereOf_mem hr x).1 hx)
    show (Tm.leaf x).isTree = true
    rw [Tm.isTree_iff]
    exact ⟨by simp [Tm.leaf, Tm.size, Tm.sizes], by simp [Tm.leaf, Tm.depth, Tm.depths], by simp [Tm.leaf, Tm.right, Tm.rights]; omega⟩
  rw [if_pos ⟨hT, hback⟩]
  have hle : ¬ ((((wereOf la).map Tm.leaf).length : Nat) : Int) ≤ (la[k].fill (lf (numIn la))).top := by
    rw [List.length_map]
    have h3 : (la[k].fill (lf (numIn la))).top < ((wereOf la).length : Int) := Tm.top_lt hT (fun x hx => by
      obtain ⟨y, hy, rfl⟩ := Tm.lf_vin _ x la[k] hx
      exact (hv y hy).2)
    omega
  rw [if_neg hle, ← Tm.fill_repl, Tm.fill_lf]
  rw [Tm.fill_congr _ Tm.leaf la[k] (fun x hx => by
    have h5 := at_idxOf ((wereOf_mem hr x).2 (Tm.vins_mem hm hx))
    simp only [numIn, Int.toNat_natCast, List.getElem?_map, h5, Option.map_some, Option.getD_some])]
  rw [Tm.fill_leaf _ ((Tm.isTree_iff _).1 ht).2.2]
  unfold Tm.fit
  rw [if_pos ht]

mutual
theorem Tm.mov_fill (bb : Int) : ∀ t : Tm, t.right = true → t.mapN (movF 0 bb) = t.fill (lf (fun n => n + bb))
  | .node k n l, h => by
    simp only [Tm.right, Bool.and_eq_true] at h
    simp only [Tm.mapN, Tm.fill, movF]
    by_cases hk : k = 1
    · subst hk
      have hl : l = [] := by
        have := h.1.1.2
        simp only [beq_self_eq_true, Bool.true_and, Bool.not_eq_true', decide_eq_false_iff_not] at this
        exact List.length_eq_zero_iff.1 (by omega)
      subst hl
      have hn : 0 ≤ n := by
        have := h.1.1.1.1
        simp only [Bool.not_eq_true', decide_eq_false_iff_not] at this
        omega
      rw [if_pos ⟨rfl, hn⟩, if_pos rfl]
      rfl
    · rw [if_neg (fun h2 => hk h2.1), if_neg hk, Tm.movs_fill bb l h.2]
theorem Tm.movs_fill (bb : Int) : ∀ l : List Tm, Tm.rights l = true → Tm.mapNs (movF 0 bb) l = Tm.fills (lf (fun n => n + bb)) l
  | [], _ => rfl
  | t :: l, h => by
    simp only [Tm.rights, Bool.and_eq_true] at h
    simp only [Tm.mapNs, Tm.fills, Tm.mov_fill bb t h.1, Tm.movs_fill bb l h.2]
end

/-- Moved by a number: the same normal trees. -/
theorem norm_moved {la : List Tm} (hs : Tm.smalls la) (ha : la.all Tm.isTree = true) (hsz : Tm.sizes la ≤ 6000) (bb : Int) (hc : ∀ t ∈ la, (t.shift 0 bb).2 = 0) :
    Tm.smalls (la.map (fun t => (t.shift 0 bb).1)) ∧ Tm.sizes (la.map (fun t => (t.shift 0 bb).1)) ≤ 1000000 ∧ (la.map (fun t => (t.shift 0 bb).1)).all Tm.isTree = true ∧ normTs (la.map (fun t => (t.shift 0 bb).1)) = normTs la := by
  have hr := isTree_right ha
  have ha2 := List.all_eq_true.1 ha
  have hE : ∀ t ∈ la, t.every (canB 0 bb) = true := fun t ht => by
    have h1 := hc t ht
    unfold Tm.shift at h1
    rw [if_pos (ha2 t ht)] at h1
    split at h1
    · rename_i h2
      exact h2.2
    · cases h1
  have e1 : ∀ t ∈ la, (t.shift 0 bb).1 = t.mapN (movF 0 bb) := fun t ht => by
    unfold Tm.shift
    rw [if_pos (ha2 t ht), if_pos ⟨Int.le_refl _, hE t ht⟩]
  have e2 : la.map (fun t => (t.shift 0 bb).1) = Tm.fills (lf (fun n => n + bb)) la := by
    rw [Tm.fills_map]
    refine List.map_congr_left (fun t ht => ?_)
    rw [e1 t ht, Tm.mov_fill bb t ((Tm.isTree_iff t).1 (ha2 t ht)).2.2]
  have h0 : ∀ x, Tm.vins x la → 0 ≤ x + bb := fun x hx => by
    have h1 := Tm.everys_vin (p := canB 0 bb) hr (everys_of hE) hx
    have h2 := (canB_node 0 bb 1 x []).1 h1
    have h3 := Tm.vins_nonneg x la hr hx
    omega
  have hS : ∀ t ∈ la.map (fun t => (t.shift 0 bb).1), t.small := fun t ht => by
    obtain ⟨u, hu, rfl⟩ := List.mem_map.1 ht
    exact Tm.shift_small (Tm.smalls_mem hs hu)
  refine ⟨smalls_all hS, ?_, ?_, ?_⟩
  · rw [e2, (Tm.lf_sizes _ la hr).1]
    omega
  · rw [List.all_map, List.all_eq_true]
    intro t ht
    show (t.shift 0 bb).1.isTree = true
    rw [e1 t ht]
    exact Tm.mov_isTree (Int.le_refl _) (ha2 t ht) (hE t ht)
  · rw [e2]
    exact normTs_lf hr h0 (fun x y _ _ e => by omega)
end Go.Proofs.Ytljnmjehokijgaa

/- SigNormal: the walk. -/
namespace Go.Proofs.Ytljnmjehokijgaa
open Go.RowKit

theorem shift_err {t : Tm} (h : t.isTree = true) (fr bb : Int) : (t.shift fr bb).2 = 0 ∨ (t.shift fr bb).2 = 1 := by
  unfold Tm.shift
  rw [if_pos h]
  split
  · exact .inl rfl
  · exact .inr rfl

set_option maxRecDepth 100000 in
set_option maxHeartbeats 1600000 in
theorem sigNormalL_any (w : World) (l : List Tm) (v : Value) (bb : Int) (hl : RowTm w v l) (hs : Tm.smalls l) (_hb : -9223372036854775808 ≤ bb ∧ bb ≤ 9223372036854775807) :
    Calls Try.prog 6 #[v, .int .i64 bb] w fun e w' => e = .returned (.bool true) ∧ Below w.heap.size w w' := by
  have hl0 := hl
  obtain ⟨al, cl, rfl, hll, rl⟩ := hl
  have hfin : ∀ V, Turned w V (fun _ => False) → Below w.heap.size w V := fun V hV => hV.below (Nat.le_refl _) (fun _ hf => hf.elim)
  have HFin := Lib.hid hfin
  have Hsane := Lib.hid (sane_all w)
  have hF := fun V (hV : Turned w V (fun _ => False)) => few_any l _ V (hl0.turned hV)
  clear hfin
  cases hfw : fewB l with
  | false =>
    simp only [hfw] at hF
    have HF := Lib.hid hF
    clear hF hfw hl0 hs rl hll
    go_enter Try.func6, Try.ntmps6
    go_wp2_with fail
    refine Hsane.out.mono ?_
    rintro e w1 ⟨rfl, t1⟩
    go_wp2_with fail
    refine (HF.out w1 t1).mono ?_
    rintro e w2 ⟨rfl, t2⟩
    have T2 := Lib.hid (t1.trans t2 (fun _ _ hf => hf))
    clear t1 t2
    go_wp2
    go_ret
    exact ⟨rfl, HFin.out _ T2.out⟩
  | true =>
  simp only [hfw] at hF
  have HF := Lib.hid hF
  have hsz := few_sizes hfw
  have hlen : l.length ≤ 6000 := Nat.le_trans (Tm.sizes_len l) hsz
  have hN := fun V (hV : Turned w V (fun _ => False)) => sigNormal_any l _ V (hl0.turned hV) hs (by omega)
  have HN := Lib.hid hN
  clear hF hN hfw
  cases hall : l.all Tm.isTree with
  | false =>
    have hA := fun V (hV : Turned w V (fun _ => False)) => rall_any l _ V (hl0.turned hV)
    simp only [hall] at hA
    have HA := Lib.hid hA
    have Hall := Lib.hid hall
    clear hA hl0 hs rl hll hall hsz
    go_enter Try.func6, Try.ntmps6
    go_wp2_with fail
    refine Hsane.out.mono ?_
    rintro e w1 ⟨rfl, t1⟩
    go_wp2_with fail
    refine (HF.out w1 t1).mono ?_
    rintro e w2 ⟨rfl, t2⟩
    have T2 := Lib.hid (t1.trans t2 (fun _ _ hf => hf))
    clear t1 t2
    go_wp2_with fail
    refine (HN.out w2 T2.out).mono ?_
    rintro e w3 ⟨-, h2, t3⟩
    obtain rfl := h2 Hall.out
    have T3 := Lib.hid (T2.out.trans t3 (fun _ _ hf => hf))
    clear t3
    go_wp2_with fail
    refine (HA.out w3 T3.out).mono ?_
    rintro e w4 ⟨rfl, t4⟩
    have T4 := Lib.hid (T3.out.trans t4 (fun _ _ hf => hf))
    clear t4
    go_wp2
    go_ret
    exact ⟨rfl, HFin.out _ T4.out⟩
  | true =>
  have hok := normOk hs hall hsz
  have hr := isTree_right hall
  obtain ⟨hwl, hwk⟩ := wereOf_norm hr
  have htw := normTs_twice hr
  have hbk := norm_back hall
  have hmv := norm_moved hs hall hsz bb
  have hnm := hok.names
  have hln := hok.len
  have hN2 := fun V v (hv : RowTm V v (normTs l)) => sigNormal_any (normTs l) v V hv hok.small hok.size
  have hna := hok.all
  have hwf := fun V e V' => show NormP V l e V' → (∃ v1 v2, e = .returned (.tuple #[v1, v2, .int .i64 0]) ∧ RowTm V' v1 (normTs l) ∧ RowI V' v2 (wereOf l)) ∧ Turned V V' (fun _ => False) from fun h => ⟨h.1 hall, h.2.2⟩
  have HErr := Lib.hid (fun (k : Nat) (hk : k < l.length) => shift_err (List.all_eq_true.1 hall l[k] (List.getElem_mem hk)) 0 bb)
  have HSh := Lib.hid (fun (k : Nat) (hk : k < l.length) V v (hv : TmIn V l[k] v) => sigShift_any l[k] v 0 bb V hv (Tm.smalls_mem hs (List.getElem_mem hk)) (by omega))
  have HN2 := Lib.hid hN2
  have HWF := Lib.hid hwf
  have HMv := Lib.hid hmv
  have HBk := Lib.hid hbk
  have HTw := Lib.hid htw
  have HNa := Lib.hid hna
  have HRl := Lib.hid rl
  have HWk := Lib.hid hwk
  clear hok hr htw hbk hmv hN2 hna hwf hl0 hs hall hsz rl hwk
  generalize normTs l = ns at *
  generalize wereOf l = ws at *
  generalize hss : wereOf ns = ss at *
  have Hss := Lib.hid hss
  clear hss
  go_enter Try.func6, Try.ntmps6
  go_wp2_with fail
  refine Hsane.out.mono ?_
  rintro e w1 ⟨rfl, t1⟩
  go_wp2_with fail
  refine (HF.out w1 t1).mono ?_
  rintro e w2 ⟨rfl, t2⟩
  have T2 := Lib.hid (t1.trans t2 (fun _ _ hf => hf))
  clear t1 t2
  go_wp2_with fail
  refine (HN.out w2 T2.out).mono ?_
  intro e w3 h3
  obtain ⟨⟨v1, v2, rfl, hn, hw⟩, t3⟩ := HWF.out _ _ _ h3
  clear h3
  have hn0 := hn
  have hw0 := hw
  obtain ⟨a1, c1, rfl, -, -⟩ := hn0
  obtain ⟨a2, c2, rfl, -, -⟩ := hw0
  rw [hln] at hn
  rw [hln]
  have T3 := Lib.hid (T2.out.trans t3 (fun _ _ hf => hf))
  have HNs := Lib.hid hn
  have HWs := Lib.hid hw
  clear t3 hn hw
  go_wp2_with fail
  refine (HN2.out w3 _ HNs.out).mono ?_
  rintro e w4 ⟨h1, -, t4⟩
  obtain ⟨v3, v4, rfl, hA, hS⟩ := h1 HNa.out
  rw [HTw.out] at hA
  rw [Hss.out] at hS
  have hA0 := hA
  have hS0 := hS
  obtain ⟨a3, c3, rfl, -, -⟩ := hA0
  obtain ⟨a4, c4, rfl, -, -⟩ := hS0
  rw [hln] at hA
  rw [hwl] at hS
  rw [hln, hwl]
  have hsm := rsameAll_any ns ns _ _ w4 (HNs.out.turned t4) hA
  rw [(Tm.sames_iff ns ns).2 rfl] at hsm
  have Hsm := Lib.hid hsm
  have HS := Lib.hid hS
  have T34 := Lib.hid t4
  clear h1 hA hS hsm t4
  go_wp2_with fail
  refine Hsm.out.mono ?_
  rintro e w5 ⟨rfl, t5⟩
  have T35 := Lib.hid (T34.out.trans t5 (fun _ _ hf => hf))
  have HS5 := Lib.hid (HS.out.turned t5)
  have HWs5 := Lib.hid (HWs.out.turned T35.out)
  have HNs5 := Lib.hid (HNs.out.turned T35.out)
  have T5 := Lib.hid (T3.out.trans T35.out (fun _ _ hf => hf))
  clear t5
  go_wp2_with fail
  go_loopw [73, 10] (fun i u wr => ∃ k : Nat, k ≤ ws.length ∧ i = .int .i64 k ∧ OwnTT wr w5.heap.size (fun g => NoR g ∨ w5.heap.size ≤ g) u ((ws.take k).map Tm.leaf) ∧ Turned w5 wr (fun _ => False)) (fun i _ _ => ws.length - (intOf i).toNat)
  case atStart => exact ⟨0, Nat.zero_le _, rfl, ownTT_empty w5 _ (Nat.le_refl _), (Turned.refl _ _).alloc _⟩
  case round =>
    obtain ⟨k, hk, rfl, hor, ht⟩ := hrel
    by_cases hlt : k < ws.length
    · have hki : (k : Int) < (ws.length : Int) := by omega
      obtain ⟨gw, ow, rfl, lgw, pw⟩ := (HWs5.out.turned ht).at k hlt
      have hkl : k < ss.length := by omega
      obtain ⟨gs, os, rfl, lgs, ps⟩ := (HS5.out.turned ht).at k hkl
      rw [HWk.out k hkl] at ps
      have hlk : ((ws.take k).map Tm.leaf).length = k := by rw [List.length_map, List.length_take]; omega
      obtain ⟨ua, uc, hu⟩ := hor.form
      rw [hlk] at hu
      subst hu
      have hsn : (ws.take (k + 1)).map Tm.leaf = (ws.take k).map Tm.leaf ++ [Tm.leaf ws[k]] := by rw [List.take_succ_eq_append_getElem hlt, List.map_append]; rfl
      have Hor := Lib.hid hor
      have Ht := Lib.hid ht
      have Hlk := Lib.hid hlk
      have Hsn := Lib.hid hsn
      have hB5 : w5.heap.size ≤ wr.heap.size := ht.size
      have Hvar := Lib.hid (variable_any ws[k] wr)
      clear hor ht hlk hsn
      generalize ws[k] = x at *
      go_wp2_with fail
      refine Hvar.out.mono ?_
      rintro e w6 ⟨rfl, t6⟩
      obtain ⟨hA, hB, hC⟩ := put_one (R := NoR) (t := Tm.leaf x) (c0 := .int .i64 1) (c1 := .int .i64 x) (c2 := .slice none 0 0) Hor.out t6 ⟨none, 0, rfl, Nat.zero_le _, trivial⟩ (fun j hj => hj.elim) hB5
      have hG := heap_alloc_new w6 (.cells #[.int .i64 1, .int .i64 x, .slice none 0 0] 24)
      have HA := Lib.hid hA
      have HB := Lib.hid hB
      have HG := Lib.hid hG
      have HT2 := Lib.hid (show Turned w5 (w6.alloc (.cells #[.int .i64 1, .int .i64 x, .slice none 0 0] 24)) (fun _ => False) from (Ht.out.trans t6 (fun _ _ hf => hf)).alloc _)
      clear hA hB hG t6 pw ps
      go_wp2_with (at_builtin; refine append_term _ (by rfl) _ _ (by rfl) w5.heap.size _ (.slice ua k uc) _ (Tm.leaf x) (by rfl) HA.out w6.heap.size (.int .i64 1) (.int .i64 x) (.slice none 0 0) (by rfl) HG.out HB.out (by rw [Hlk.out]; omega) hC (w6.heap.size + 1) (by simp) ?_; intro g5 cap5 w7 ho5 ht5 hat5 hl5; have HO := Lib.hid ho5; have HT7 := Lib.hid (HT2.out.trans ht5 (fun i hi e => by have := (HA.out.own_le e).1; omega)); clear ho5 ht5 hat5 hl5)
      rw [← Hsn.out, Hlk.out] at HO
      go_roundw
      case rel => exact ⟨k + 1, by omega, by go_num, HO.out, HT7.out⟩
      case measure => simp [intOf]; omega
    · obtain rfl : k = ws.length := by omega
      rw [List.take_of_length_le (Nat.le_refl _)] at hor
      obtain ⟨pb, cb, hv, hln8, hrow⟩ := hor.rowS (S' := fun _ => True) (fun _ _ _ => trivial) (fun _ _ => trivial)
      rw [List.length_map] at hv
      subst hv
      have HBack := Lib.hid (show RowTm wr (.slice pb ws.length cb) (ws.map Tm.leaf) from ⟨pb, cb, by rw [List.length_map], hln8, TmsS.toIn _ hrow⟩)
      have T8 := Lib.hid (T5.out.trans ht (fun _ _ hf => hf))
      have HNs8 := Lib.hid (HNs5.out.turned ht)
      clear hor hln8 hrow ht HNs5 HNs HWs HWs5 HS HS5 T5 T35 T34 HN2 HN HF Hsane HWF HTw HNa HWk Hsm
      generalize wr = w8 at *
      go_wp2_with fail
      go_loopw [93, 13] (fun i u wr => ∃ k : Nat, k ≤ l.length ∧ i = .int .i64 k ∧ OwnTT wr w8.heap.size (fun g => NoR g ∨ w8.heap.size ≤ g) u ((l.take k).map fun t => (t.shift 0 bb).1) ∧ (∀ t ∈ l.take k, (t.shift 0 bb).2 = 0) ∧ Turned w8 wr (fun _ => False)) (fun i _ _ => l.length - (intOf i).toNat)
      case atStart => exact ⟨0, Nat.zero_le _, rfl, ownTT_empty w8 _ (Nat.le_refl _), fun t ht => by simp at ht, (Turned.refl _ _).alloc _⟩
      case round =>
        obtain ⟨k, hk, rfl, hor, hz, ht⟩ := hrel
        by_cases hlt : k < l.length
        · have hki : (k : Int) < (l.length : Int) := by omega
          have hkn : k < ns.length := by omega
          have hn8 := HNs8.out
          obtain ⟨a1', c1', e1', -, rn⟩ := hn8
          injection e1' with e1' e2' e3'
          subst e1'
          clear e2' e3'
          obtain ⟨gn, on, sn, cn, rfl, lgn, n0, n1, n2, nt⟩ := tmsIn_at2 (TmsIn.turned ht _ rn) k hkn
          have tw := T8.out.trans ht (fun _ _ hf => hf)
          obtain ⟨gl, ol, sl, scl, rfl, lgl, m0, m1, m2, mt⟩ := tmsIn_at2 (TmsIn.turned tw _ HRl.out) k hlt
          have hlk : ((l.take k).map fun t => (t.shift 0 bb).1).length = k := by rw [List.length_map, List.length_take]; omega
          obtain ⟨ua, uc, hu⟩ := hor.form
          rw [hlk] at hu
          subst hu
          have hsn : (l.take (k + 1)).map (fun t => (t.shift 0 bb).1) = (l.take k).map (fun t => (t.shift 0 bb).1) ++ [(l[k].shift 0 bb).1] := by rw [List.take_succ_eq_append_getElem hlt, List.map_append]; rfl
          have hzn : (l[k].shift 0 bb).2 = 0 → ∀ t ∈ l.take (k + 1), (t.shift 0 bb).2 = 0 := by
            intro h t ht
            rw [List.take_succ_eq_append_getElem hlt, List.mem_append] at ht
            rcases ht with ht | ht
            · exact hz t ht
            · rw [List.mem_singleton.1 ht]; exact h
          have hsub : ∀ V, Turned wr V (fun _ => False) → Calls Try.prog 21 #[.agg #[.int .i64 ns[k].kind, .int .i64 ns[k].num, .slice sn ns[k].kids.length cn], .slice pb ws.length cb] V (NewTe V (l[k], 0)) := fun V hV => by
            rw [← HBk.out k hlt hkn]
            exact sigSubst_any ns[k] _ (ws.map Tm.leaf) _ V (TmIn.turned hV _ nt) (HBack.out.turned (ht.trans hV (fun _ _ hf => hf)))
          have herr := HErr.out k hlt
          have hsh := HSh.out k hlt
          have Hor := Lib.hid hor
          have Ht := Lib.hid ht
          have Hlk := Lib.hid hlk
          have Hsn := Lib.hid hsn
          have Hzn := Lib.hid hzn
          have Hsub := Lib.hid hsub
          have Herr := Lib.hid herr
          have Hsh := Lib.hid hsh
          have Mt := Lib.hid mt
          have hB8 : w8.heap.size ≤ wr.heap.size := ht.size
          obtain ⟨U, hU, tU, hCU⟩ := box1 wr (.int .i64 ns[k].kind) (.int .i64 ns[k].num) (.slice sn ns[k].kids.length cn) 24
          obtain ⟨u0, u1, u2, lU⟩ := hCU U (Turned.refl _ _)
          have HU := Lib.hid hU
          have TU := Lib.hid tU
          clear hor hz hlk hsn hzn hsub herr hsh mt nt rn hU tU hCU tw
          generalize ns[k].kind = xk at *
          generalize ns[k].num = xn at *
          generalize ns[k].kids.length = xm at *
          go_upto_region 23 with fail
          rw [← HU.out]
          go_wp2_with fail
          refine (Hsub.out U TU.out).mono ?_
          rintro e w9 ⟨vx, rfl, hvx, t9⟩
          obtain ⟨px, qx, rfl⟩ := hvx.form
          have HX := Lib.hid (TmS.toIn _ hvx)
          obtain ⟨U2, hU2, tU2, hCU2⟩ := box1 w9 (.int .i64 l[k].kind) (.int .i64 l[k].num) (.slice px l[k].kids.length qx) 24
          have TR2 := Lib.hid ((TU.out.trans t9 (fun _ _ hf => hf)).trans tU2 (fun _ _ hf => hf))
          have HX2 := Lib.hid (TmIn.turned tU2 _ HX.out)
          have HU2 := Lib.hid hU2
          have HM := Lib.hid (fun V (hV : Turned wr V (fun _ => False)) => show V.cell? ⟨gl, ol + k * 3, none⟩ = some (.int .i64 l[k].kind) ∧ V.cell? ⟨gl, ol + k * 3 + 1, none⟩ = some (.int .i64 l[k].num) ∧ V.cell? ⟨gl, ol + k * 3 + 2, none⟩ = some (.slice sl l[k].kids.length scl) ∧ gl < V.heap.size from
            ⟨(hV.cell (p := ⟨gl, ol + k * 3, none⟩) lgl (fun hf => hf)).trans m0, (hV.cell (p := ⟨gl, ol + k * 3 + 1, none⟩) lgl (fun hf => hf)).trans m1, (hV.cell (p := ⟨gl, ol + k * 3 + 2, none⟩) lgl (fun hf => hf)).trans m2, Nat.lt_of_lt_of_le lgl hV.size⟩)
          have HSof := Lib.hid (fun w' (t : Turned U2 w' (fun _ => False)) => show w'.cell? ⟨w9.heap.size, 0, none⟩ = some (.int .i64 l[k].kind) ∧ w'.cell? ⟨w9.heap.size, 1, none⟩ = some (.int .i64 l[k].num) ∧ w'.cell? ⟨w9.heap.size, 2, none⟩ = some (.slice px l[k].kids.length qx) ∧
              w'.cell? ⟨gl, ol + k * 3, none⟩ = some (.int .i64 l[k].kind) ∧ w'.cell? ⟨gl, ol + k * 3 + 1, none⟩ = some (.int .i64 l[k].num) ∧ w'.cell? ⟨gl, ol + k * 3 + 2, none⟩ = some (.slice sl l[k].kids.length scl) ∧ Turned U2 w' (fun _ => False) from by
            obtain ⟨q0, q1, q2, -⟩ := hCU2 w' t
            obtain ⟨r0, r1, r2, -⟩ := HM.out w' (TR2.out.trans t (fun _ _ hf => hf))
            exact ⟨q0, q1, q2, r0, r1, r2, t⟩)
          have Hcall := Lib.hid (fun V (hV : Turned U2 V (fun _ => False)) => rsame_any l[k] l[k] (.agg #[.int .i64 l[k].kind, .int .i64 l[k].num, .slice px l[k].kids.length qx]) (.agg #[.int .i64 l[k].kind, .int .i64 l[k].num, .slice sl l[k].kids.length scl]) V (TmIn.turned hV _ HX2.out) (TmIn.turned (TR2.out.trans hV (fun _ _ hf => hf)) _ Mt.out))
          have hcs := Hcall.out
          rw [(Tm.same_iff l[k] l[k]).2 rfl] at hcs
          have Hcs := Lib.hid hcs
          clear hcs Hcall hCU2 tU2 hU2 hvx t9 u0 u1 u2 lU m0 m1 m2 n0 n1 n2 HX HX2 lgl
          obtain ⟨p1, p2, p3, q1, q2, q3, _⟩ := HSof.out U2 (Turned.refl _ _)
          have lg2 := (HM.out U2 TR2.out).2.2.2
          have tt : Turned U2 U2.drew (fun _ => False) := (Turned.refl U2 _).drew
          generalize hlk0 : l[k].kind = yk at *
          generalize hlk1 : l[k].num = yn at *
          generalize hlk2 : l[k].kids.length = ym at *
          go_upto_region 24 with fail
          rw [← HU2.out]
          go_region_held3 (fun w' => w'.cell? ⟨w9.heap.size, 0, none⟩ = some (.int .i64 yk) ∧ w'.cell? ⟨w9.heap.size, 1, none⟩ = some (.int .i64 yn) ∧ w'.cell? ⟨w9.heap.size, 2, none⟩ = some (.slice px ym qx) ∧
              w'.cell? ⟨gl, ol + k * 3, none⟩ = some (.int .i64 yk) ∧ w'.cell? ⟨gl, ol + k * 3 + 1, none⟩ = some (.int .i64 yn) ∧ w'.cell? ⟨gl, ol + k * 3 + 2, none⟩ = some (.slice sl ym scl) ∧ Turned U2 w' (fun _ => False))
            ((go_split_ands; first | exact HSof.out _ (by assumption) | exact HSof.out _ (Turned.drew (by assumption)) | exact HSof.out _ (Turned.trans tt t1 (fun _ _ hf => hf))))
            (first
              | (go_at_call 18; go_split_ands; refine (Hcs.out _ tt).mono ?_; rintro e wA ⟨rfl, t1⟩))
          have TA := Lib.hid (TR2.out.trans (tt.trans t1 (fun _ _ hf => hf)) (fun _ _ hf => hf))
          clear t1 tt p1 p2 p3 q1 q2 q3 lg2 HSof Hcs HU2 HU
          obtain ⟨r0, r1, r2, lgA⟩ := HM.out wA TA.out
          have Hshc := Lib.hid (Hsh.out wA _ (TmIn.turned TA.out _ Mt.out))
          clear Hsh HM Mt hlk0 hlk1 hlk2
          generalize l[k].shift 0 bb = X at *
          obtain ⟨x, ex⟩ := X
          simp only at Hsn Hzn Herr
          go_wp2_with fail
          refine Hshc.out.mono ?_
          rintro e wB ⟨vy, rfl, hvy, tB⟩
          simp only at hvy
          obtain ⟨py, qy, rfl⟩ := hvy.form
          obtain ⟨U3, hU3, tU3, hCU3⟩ := box1 wB (.int .i64 x.kind) (.int .i64 x.num) (.slice py x.kids.length qy) 24
          have TR3 := Lib.hid ((TA.out.trans tB (fun _ _ hf => hf)).trans tU3 (fun _ _ hf => hf))
          obtain ⟨s0, s1, s2, lU3⟩ := hCU3 U3 (Turned.refl _ _)
          have hvy3 : TmS U3 (fun g => NoR g ∨ wr.heap.size ≤ g) x (.agg #[.int .i64 x.kind, .int .i64 x.num, .slice py x.kids.length qy]) := TmS.turned tU3 (fun _ _ _ hf => hf) (fun _ _ h => .inr (by have := TA.out.size; omega)) _ hvy
          obtain ⟨hA, hB, hC⟩ := put_one (R := NoR) Hor.out TR3.out hvy3 (fun j hj => hj.elim) hB8
          have hG := heap_alloc_new U3 (.cells #[.int .i64 x.kind, .int .i64 x.num, .slice py x.kids.length qy] 24)
          have HA := Lib.hid hA
          have HB := Lib.hid hB
          have HG := Lib.hid hG
          have HU3 := Lib.hid hU3
          have HT2 := Lib.hid (show Turned w8 (U3.alloc (.cells #[.int .i64 x.kind, .int .i64 x.num, .slice py x.kids.length qy] 24)) (fun _ => False) from (Ht.out.trans TR3.out (fun _ _ hf => hf)).alloc _)
          clear hA hB hG hU3 tU3 hCU3 hvy hvy3 tB r0 r1 r2 lgA Hshc
          generalize hyk : x.kind = yk2 at *
          generalize hyn : x.num = yn2 at *
          generalize hym : x.kids.length = ym2 at *
          clear hyk hyn hym
          go_upto_region 27 with fail
          rw [← HU3.out]
          by_cases hx : ex = 0
          rotate_left 1
          · obtain rfl : ex = 1 := Herr.out.resolve_left hx
            have T9 := Lib.hid (T8.out.trans (Ht.out.trans TR3.out (fun _ _ hf => hf)) (fun _ _ hf => hf))
            clear hx HT2 HA HB HG
            go_wp2
            go_ret
            exact ⟨rfl, HFin.out _ T9.out⟩
          subst hx
          go_wp2_with (at_builtin; refine append_term _ (by rfl) _ _ (by rfl) w8.heap.size _ (.slice ua k uc) _ x (by rfl) HA.out U3.heap.size (.int .i64 yk2) (.int .i64 yn2) (.slice py ym2 qy) (by rfl) HG.out HB.out (by rw [Hlk.out]; omega) hC (U3.heap.size + 1) (by simp) ?_; intro g5 cap5 w7 ho5 ht5 hat5 hl5; have HO := Lib.hid ho5; have HT7 := Lib.hid (HT2.out.trans ht5 (fun i hi e => by have := (HA.out.own_le e).1; omega)); clear ho5 ht5 hat5 hl5)
          rw [← Hsn.out, Hlk.out] at HO
          go_roundw
          case rel => exact ⟨k + 1, by omega, by go_num, HO.out, Hzn.out rfl, HT7.out⟩
          case measure => simp [intOf]; omega
        · obtain rfl : k = l.length := by omega
          rw [List.take_of_length_le (Nat.le_refl _)] at hor hz
          obtain ⟨pm, cm, hv, hlnm, hrow⟩ := hor.rowS (S' := fun _ => True) (fun _ _ _ => trivial) (fun _ _ => trivial)
          rw [List.length_map] at hv
          subst hv
          obtain ⟨hm1, hm2, hm3, hm4⟩ := HMv.out hz
          have hMrow : RowTm wr (.slice pm l.length cm) (l.map fun t => (t.shift 0 bb).1) := ⟨pm, cm, by rw [List.length_map], hlnm, TmsS.toIn _ hrow⟩
          have Hlast := Lib.hid (sigNormal_any _ _ wr hMrow hm1 hm2)
          have Hm3 := Lib.hid hm3
          have Hm4 := Lib.hid hm4
          have T9 := Lib.hid (T8.out.trans ht (fun _ _ hf => hf))
          have HNs9 := Lib.hid (HNs8.out.turned ht)
          clear hor hz hlnm hrow hm1 hm2 hm3 hm4 hMrow ht HNs8 HBack HBk HMv HErr HSh T8
          go_wp2_with fail
          refine Hlast.out.mono ?_
          rintro e w9 ⟨h1, -, t9⟩
          obtain ⟨v5, v6, rfl, hA, hS⟩ := h1 Hm3.out
          rw [Hm4.out] at hA
          have hA0 := hA
          have hS0 := hS
          obtain ⟨a5, c5, rfl, -, -⟩ := hA0
          obtain ⟨a6, c6, rfl, -, -⟩ := hS0
          rw [hln] at hA
          rw [hln]
          have hsm := rsameAll_any ns ns _ _ w9 hA (HNs9.out.turned t9)
          rw [(Tm.sames_iff ns ns).2 rfl] at hsm
          have Hsm := Lib.hid hsm
          have T10 := Lib.hid (T9.out.trans t9 (fun _ _ hf => hf))
          clear h1 hA hS hsm t9 Hlast
          go_wp2_with fail
          refine Hsm.out.mono ?_
          rintro e w10 ⟨rfl, t10⟩
          have T11 := Lib.hid (T10.out.trans t10 (fun _ _ hf => hf))
          clear t10
          go_wp2
          go_ret
          exact ⟨rfl, HFin.out _ T11.out⟩
end Go.Proofs.Ytljnmjehokijgaa
