/- A new scanner. -/
import Derived.Test.YtinogdeolnldhaaDoorState
namespace Go.Proofs.YtinogdeolnldhaaDoor
open Go.RowKit Go.WideMaps Go.Maps

/-- What the library's tables hold. -/
structure Env (w : World) : Prop where
  space : Lib.TabIs Tryd.prog w "strings.asciiSpace" .u8 Lib.asciiSpaceTab
  pow : Lib.TabIs Tryd.prog w "internal/strconv.uint64pow10" .u64 Lib.pow10Tab

theorem global_space : Tryd.prog.globalNamed "strings.asciiSpace" = some 1 := by kernel_rfl
theorem global_pow : Tryd.prog.globalNamed "internal/strconv.uint64pow10" = some 3 := by kernel_rfl

theorem var_keep {w w' : World} {n : String} {g : Nat} {k : IntKind} {zs : List Int} (hg : Tryd.prog.globalNamed n = some g) (h : Lib.TabIs Tryd.prog w n k zs) (hk : w'.heap[g]? = w.heap[g]?) : Lib.TabIs Tryd.prog w' n k zs := by
  unfold Lib.TabIs World.var? at h ⊢
  rw [hg] at h ⊢
  simpa [hk] using h

theorem Env.below {w w' : World} {B : Nat} (h : Env w) (hb : Below B w w') (hB : 7 ≤ B) : Env w' :=
  ⟨var_keep global_space h.space (hb.block _ (by omega)), var_keep global_pow h.pow (hb.block _ (by omega))⟩

theorem Env.turned {w w' : World} {D : Nat → Prop} (h : Env w) (t : Turned w w' D) (hs : 7 ≤ w.heap.size) (hD : ∀ k, D k → 7 ≤ k) : Env w' :=
  ⟨var_keep global_space h.space (t.block _ (by omega) (fun hd => by have := hD _ hd; omega)), var_keep global_pow h.pow (t.block _ (by omega) (fun hd => by have := hD _ hd; omega))⟩

def wordBytes : Lx.Bytes := [97, 99, 99, 101, 112, 116, 32, 97, 110, 121, 32, 98, 101, 104, 97, 118, 105, 111, 117, 114, 32, 99, 104, 111, 105, 99, 101, 32, 101, 110, 100, 108, 105, 98, 32, 101, 110, 100, 112, 114, 111, 99, 32, 101, 110, 100, 115, 112, 101, 99, 32, 101, 110, 100, 116, 121, 112, 101, 32, 101, 113, 110, 115, 32, 101, 120, 105, 116, 32, 102, 111, 114, 32, 102, 111, 114, 97, 108, 108, 32, 102, 111, 114, 109, 97, 108, 101, 113, 110, 115, 32, 102, 111, 114, 109, 97, 108, 111, 112, 110, 115, 32, 102, 111, 114, 109, 97, 108, 115, 111, 114, 116, 115, 32, 104, 105, 100, 101, 32, 105, 32, 105, 110, 32, 105, 115, 32, 108, 101, 116, 32, 108, 105, 98, 114, 97, 114, 121, 32, 110, 111, 101, 120, 105, 116, 32, 111, 102, 32, 111, 102, 115, 111, 114, 116, 32, 111, 112, 110, 110, 97, 109, 101, 115, 32, 111, 112, 110, 115, 32, 112, 114, 111, 99, 101, 115, 115, 32, 114, 101, 110, 97, 109, 101, 100, 98, 121, 32, 97, 99, 116, 117, 97, 108, 105, 122, 101, 100, 98, 121, 32, 115, 111, 114, 116, 110, 97, 109, 101, 115, 32, 115, 111, 114, 116, 115, 32, 115, 112, 101, 99, 105, 102, 105, 99, 97, 116, 105, 111, 110, 32, 115, 116, 111, 112, 32, 116, 121, 112, 101, 32, 117, 115, 105, 110, 103, 32, 119, 97, 105, 116, 32, 119, 104, 101, 114, 101]
def signBytes : Lx.Bytes := [40, 32, 41, 32, 91, 32, 93, 32, 123, 32, 125, 32, 44, 32, 59, 32, 58, 32, 63, 32, 33, 32, 95, 32, 91, 93, 32, 91, 62, 32, 124, 91, 32, 93, 124, 32, 124, 124, 32, 124, 124, 124, 32, 58, 61, 32, 61, 32, 45, 62, 32, 61, 62, 32, 62, 62, 32, 46, 46]

theorem ascii_of {l : Lx.Bytes} (h : l.all (fun b => decide (b.toNat < 128)) = true) : ∀ (j : Nat) (b : UInt8), l[j]? = some b → b.toNat < 128 := fun j b hb => by
  have := List.all_eq_true.1 h b (List.mem_of_getElem? hb)
  simpa using this

theorem fields_words : Lib.fields wordBytes = Lx.words := by decide +kernel
theorem fields_signs : Lib.fields signBytes = Lx.signs := by decide +kernel

theorem fields_at (l : Lx.Bytes) (L : List Lx.Bytes) (n : Nat) (w : World) (he : Env w) (hl : l.length < 4294967281) (ha : l.all (fun b => decide (b.toNat < 128)) = true) (hL : Lib.fields l = L) (hn : L.length = n) :
    Calls Tryd.prog 37 #[.string ⟨l.toArray⟩] w fun e w' => e = .returned (.slice (some ⟨w.heap.size, 0, none⟩) n n) ∧ w' = w.alloc (.cells (L.map str).toArray 9) := by
  refine (Tryd.strings_Fields ⟨l.toArray⟩ w (by simpa [ByteArray.size] using hl) (by simpa using ascii_of ha) he.space).mono ?_
  rintro e w' ⟨rfl, rfl⟩
  subst hL
  subst hn
  exact ⟨by simp, by simp; rfl⟩

set_option maxRecDepth 100000 in
set_option maxHeartbeats 400000 in
theorem words_any (w : World) (he : Env w) :
    Calls Tryd.prog 17 #[] w fun e w' => e = .returned (.slice (some ⟨w.heap.size, 0, none⟩) 37 37) ∧ w' = w.alloc (.cells (Lx.words.map str).toArray 9) := by
  go_enter Tryd.func17, Tryd.ntmps17
  go_wp2_with fail
  refine (fields_at wordBytes _ 37 w he (by decide +kernel) (by decide +kernel) fields_words (by decide +kernel)).mono ?_
  rintro e w' ⟨rfl, rfl⟩
  go_wp2
  go_ret
  exact ⟨rfl, rfl⟩

set_option maxRecDepth 100000 in
set_option maxHeartbeats 400000 in
theorem signs_any (w : World) (he : Env w) :
    Calls Tryd.prog 18 #[] w fun e w' => e = .returned (.slice (some ⟨w.heap.size, 0, none⟩) 24 24) ∧ w' = w.alloc (.cells (Lx.signs.map str).toArray 9) := by
  go_enter Tryd.func18, Tryd.ntmps18
  go_wp2_with fail
  refine (fields_at signBytes _ 24 w he (by decide +kernel) (by decide +kernel) fields_signs (by decide +kernel)).mono ?_
  rintro e w' ⟨rfl, rfl⟩
  go_wp2
  go_ret
  exact ⟨rfl, rfl⟩

/-- The set of the texts that have been put in. -/
def setD (l : List Lx.Bytes) : DataW Unit := Maps.setOf (.lit (.bool true)) (l.map Lit.string)

theorem setD_at (l : List Lx.Bytes) (s : Lx.Bytes) : (setD l).atKey (.string s) (.lit (.bool false)) = .lit (.bool (l.contains s)) := by
  have gen : ∀ (acc : List Lx.Bytes) (m : DataW Unit), Maps.IsMap m → ((acc.map Lit.string).foldl (fun m x => m.put x (.lit (.bool true))) m).atKey (.string s) (.lit (.bool false)) = if acc.contains s then .lit (.bool true) else m.atKey (.string s) (.lit (.bool false)) := by
    intro acc
    induction acc with
    | nil => intro m _; rfl
    | cons x acc ih =>
      intro m hm
      simp only [List.map_cons, List.foldl_cons]
      rw [ih _ (hm.put _ _)]
      by_cases hx : s = x
      · subst hx
        simp only [List.contains_cons, BEq.rfl, Bool.true_or, if_true]
        split
        · rfl
        · exact Maps.atKey_put_same hm (by trivial) _ _
      · have hb : (s == x) = false := by simpa using hx
        rw [List.contains_cons, hb, Bool.false_or]
        split
        · rfl
        · exact Maps.atKey_put_other (by intro e; cases e; exact hx rfl) _ _
  have h := gen l (.map []) ⟨[], rfl⟩
  have e : setD l = (l.map Lit.string).foldl (fun m x => m.put x (.lit (.bool true))) (.map []) := rfl
  rw [e, h]
  cases l.contains s
  · rfl
  · rfl

theorem setD_snoc (l : List Lx.Bytes) (k : Nat) (h : k < l.length) : setD (l.take (k + 1)) = (setD (l.take k)).put (.string (l.getD k [])) (.lit (.bool true)) := by
  unfold setD
  rw [List.take_succ_eq_append_getElem h, List.map_append, List.map_cons, List.map_nil, Maps.setOf_snoc, List.getD_eq_getElem?_getD, List.getElem?_eq_getElem h]
  rfl

set_option maxRecDepth 100000 in
set_option maxHeartbeats 800000 in
theorem setOf_any (b n : Nat) (l : List Lx.Bytes) (w : World) (hn : l.length = n) (hn2 : n ≤ 1000) (hb : b < w.heap.size) (hl : ∀ s ∈ l, s.length ≤ 1000)
    (hc : ∀ j, j < n → w.cell? ⟨b, j, none⟩ = some (str (l.getD j []))) :
    Calls Tryd.prog 50 #[.slice (some ⟨b, 0, none⟩) n n] w fun e w' => e = .returned (.map (some w.heap.size)) ∧ SetAt w' w.heap.size l ∧ Below w.heap.size w w' := by
  have hmm := @run_makeMap Tryd.prog
  go_enter Tryd.func50, Tryd.ntmps50
  go_wp2
  go_loopw [9] (fun i wr => ∃ k : Nat, k ≤ n ∧ i = .int .i64 k ∧ wr.ownsMap Tryd.prog 9 (plainElem Tryd.prog 4) w.heap.size k (setD (l.take k)) ∧ Below w.heap.size w wr)
    (fun i _ => n - (intOf i).toNat)
  case atStart => exact ⟨0, Nat.zero_le _, rfl, World.ownsMap_made _ _ _ _, (Below.refl _ _).alloc (Nat.le_refl _) _⟩
  case round =>
    obtain ⟨k, hk, rfl, hown, hnx⟩ := hrel
    obtain ⟨s, hs⟩ : ∃ s, s = l.getD k [] := ⟨_, rfl⟩
    have hcx : k < n → wr.cell? ⟨b, k, none⟩ = some (.string ⟨s.toArray⟩) := fun hlt => by rw [hs]; exact (hnx.cell (by exact hb)).trans (hc k hlt)
    have hsl : s.length ≤ 1000 := by
      rw [hs]
      by_cases hk2 : k < l.length
      · rw [List.getD, List.getElem?_eq_getElem hk2]
        exact hl _ (List.getElem_mem hk2)
      · rw [List.getD, List.getElem?_eq_none (by omega)]
        simp
    have hkey : keyOf Tryd.prog 9 (.string ⟨s.toArray⟩) = some (.string s) := by
      have := keyOf_string_mk Tryd.underlying9 (s := ⟨s.toArray⟩) (by simp [ByteArray.size, maxLen]; omega)
      simpa using this
    have Hs := Lib.hid hs
    clear hs
    have hc' := Lib.hid hc
    clear hc
    go_wp2_with (first
      | (at_mapUpdate; refine wpList_mapUpdate_own _ rfl _ _ _ 59 rfl 9 4 keyed9 Tryd.underlying59 _ w.heap.size k _ rfl hown (by unfold maxLen; omega) _ _ _ rfl rfl hkey _ [] (plainElem_bool Tryd.underlying4 true) ?_)
      | go_in)
    · intro w1 hown1 hgrow1
      have hlt : k < n := by assumption
      have R1 : w1.ownsMap Tryd.prog 9 (plainElem Tryd.prog 4) w.heap.size (k + 1) (setD (l.take (k + 1))) := by
        rw [setD_snoc l k (by omega), ← Hs.out]; exact hown1
      have R2 := hnx.grown hgrow1 hnx.size (fun j hj => by cases hj; exact Nat.le_refl _)
      clear hown1 hgrow1 hown hcx hkey
      go_wp2
      go_roundw
      case rel => exact ⟨k + 1, by omega, by go_num, R1, R2⟩
      case measure => simp [intOf]; omega
    · have : k = n := by omega
      subst this
      go_ret
      refine ⟨rfl, ⟨_, _, hown, fun s => ?_⟩, hnx⟩
      rw [List.take_of_length_le (by omega)]
      exact setD_at l s
end Go.Proofs.YtinogdeolnldhaaDoor
