/- The states of the scanner that cut names, symbols and blanks. -/
import Derived.Test.YtinogdeolnldhaaDoorAdd
import Derived.StringKeys
import Derived.Deep.RegionWith
import Derived.Deep.Cut
import Derived.Deep.DeepCutAuto
namespace Go.Proofs.YtinogdeolnldhaaDoor
open Go.RowKit Go.WideMaps Go.Maps

/-- A step that ends well. -/
def Fine (B : Nat) (w : World) (S : Scn) (f : Value → Value → Scn) (e : Ending) (w' : World) : Prop :=
  e = .returned (.tuple #[]) ∧ ∃ tv cv, Scan B w' (f tv cv) ∧ Goes w S w' (f tv cv)
/-- A step that throws. -/
def Thrown (B : Nat) (w : World) (S : Scn) (e : Ending) (w' : World) : Prop :=
  e = .panicked (wrongAt S.from_) ∧ ∃ S', S'.sb = S.sb ∧ Scan B w' S' ∧ Goes w S w' S'

set_option maxRecDepth 100000 in
set_option maxHeartbeats 400000 in
theorem add_bad (B : Nat) (w : World) (S : Scn) (h : Scan B w S) (t : Lx.Tok) (hl : 32 < t.s.length) :
    Calls Tryd.prog 77 #[.pointer (some ⟨S.sb, 0, none⟩), .agg #[.int .i64 t.kind, .int .i64 t.n, str t.s, .int .i64 0, .int .i64 0]] w (Thrown B w S) := by
  have hle : 32 < (t.s.length : Int) := by omega
  unfold str
  go_enter Tryd.func77, Tryd.ntmps77
  go_wp2_with (go_at_call 76; refine (throw_any B _ S (h.alloc _)).mono ?_; rintro e w' ⟨rfl, rfl⟩)
  exact ⟨rfl, rfl, S, rfl, h.alloc _, (Goes.refl w S).alloc _⟩

theorem keyed9 : Keyed Tryd.prog 9 := string_keyed Tryd.underlying9
theorem zero4 (w : World) : (zeroValue 4).run Tryd.prog w = .ok (.bool false) w := by kernel_rfl

set_option maxRecDepth 100000 in
theorem SetAt.look {w : World} {b : Nat} {L : List Lx.Bytes} (h : SetAt w b L) (l : Lx.Bytes) (hl : l.length ≤ maxLen) :
    (Instr.lookup 59 (.map (some b)) (.string ⟨l.toArray⟩) false).run Tryd.prog w = .ok (.bool (L.contains l)) w := by
  obtain ⟨n, D, hm, hD⟩ := h
  obtain ⟨v, ps, hrun, hv⟩ := hm.lookup keyed9 Tryd.underlying59 (zero4 w) (plainElem_bool Tryd.underlying4 false) (keyOf_string_mk Tryd.underlying9 (s := ⟨l.toArray⟩) (by simpa [ByteArray.size] using hl))
  rw [hrun]
  have e : (⟨l.toArray⟩ : ByteArray).data.toList = l := by simp
  rw [e, hD l] at hv
  have : v = .bool (L.contains l) := by
    unfold plainElem at hv
    rw [Tryd.underlying4] at hv
    cases v <;> simp_all
  rw [this]

set_option maxRecDepth 100000 in
set_option maxHeartbeats 400000 in
theorem addAs_ok (B : Nat) (w : World) (S : Scn) (h : Scan B w S) (b : Nat) (L : List Lx.Bytes) (hb : SetAt w b L) (k k2 : Nat) (l : Lx.Bytes) (hl : l.length ≤ 32) (hn : (S.toks.length + 1) * 48 ≤ 140737488355328) :
    Calls Tryd.prog 73 #[.pointer (some ⟨S.sb, 0, none⟩), .int .i64 k, .string ⟨l.toArray⟩, .map (some b), .int .i64 k2] w
      (Fine B w S fun tv cv => { S with tv := tv, cv := cv, toks := S.toks ++ [⟨Lx.kindOf L l k k2, 0, l, S.from_, S.at_⟩] }) := by
  have hlk := hb.look l (by unfold maxLen; omega)
  go_enter Tryd.func73, Tryd.ntmps73
  go_wp2_with fail
  · have hin : Lx.kindOf L l k k2 = k2 := if_pos (by simpa using ‹l ∈ L›)
    refine (add_ok B _ S h ⟨k2, 0, l, 0, 0⟩ hl hn).mono ?_
    rintro e w' ⟨rfl, v, hs, hg⟩
    rw [← hin] at hs hg
    clear hin
    go_wp2
    go_end0
    exact ⟨rfl, v, S.cv, hs, hg⟩
  · have hin : Lx.kindOf L l k k2 = k := if_neg (by simpa using ‹¬ l ∈ L›)
    refine (add_ok B _ S h ⟨k, 0, l, 0, 0⟩ hl hn).mono ?_
    rintro e w' ⟨rfl, v, hs, hg⟩
    rw [← hin] at hs hg
    clear hin
    go_wp2
    go_end0
    exact ⟨rfl, v, S.cv, hs, hg⟩

set_option maxRecDepth 100000 in
set_option maxHeartbeats 400000 in
theorem addAs_bad (B : Nat) (w : World) (S : Scn) (h : Scan B w S) (b : Nat) (L : List Lx.Bytes) (hb : SetAt w b L) (k k2 : Nat) (l : Lx.Bytes) (hl : 32 < l.length) (hm : l.length ≤ maxLen) :
    Calls Tryd.prog 73 #[.pointer (some ⟨S.sb, 0, none⟩), .int .i64 k, .string ⟨l.toArray⟩, .map (some b), .int .i64 k2] w (Thrown B w S) := by
  have hlk := hb.look l hm
  clear hm
  go_enter Tryd.func73, Tryd.ntmps73
  go_wp2_with fail
  · refine (add_bad B _ S h ⟨k2, 0, l, 0, 0⟩ hl).mono ?_
    rintro e w' ⟨rfl, S', h1, h2, h3⟩
    exact ⟨rfl, rfl, S', h1, h2, h3⟩
  · refine (add_bad B _ S h ⟨k, 0, l, 0, 0⟩ hl).mono ?_
    rintro e w' ⟨rfl, S', h1, h2, h3⟩
    exact ⟨rfl, rfl, S', h1, h2, h3⟩

set_option maxRecDepth 100000 in
set_option maxHeartbeats 400000 in
theorem cutBlanks_any (B : Nat) (w : World) (S : Scn) (h : Scan B w S) (hs : S.text.size ≤ maxLen) (hat : S.at_ ≤ S.text.size) :
    Calls Tryd.prog 51 #[.pointer (some ⟨S.sb, 0, none⟩)] w (Fine B w S fun tv cv => { S with tv := tv, cv := cv, at_ := S.at_ + (S.rest.takeWhile Lx.isBlank).length }) := by
  go_enter Tryd.func51, Tryd.ntmps51
  go_wp2_with fail
  refine (pass_any _ _ run_isBlank isBlank_any B _ S h hs hat).mono ?_
  rintro e w' ⟨rfl, h1, h2⟩
  go_wp2
  go_end0
  exact ⟨rfl, S.tv, S.cv, h1, h2⟩

set_option maxRecDepth 100000 in
set_option maxHeartbeats 400000 in
theorem cutName_ok (B : Nat) (w : World) (S : Scn) (h : Scan B w S) (hs : S.text.size ≤ maxLen) (hat : S.at_ ≤ S.text.size) (hl : (S.rest.takeWhile Lx.isInName).length ≤ 32) (hn : (S.toks.length + 1) * 48 ≤ 140737488355328) :
    Calls Tryd.prog 52 #[.pointer (some ⟨S.sb, 0, none⟩)] w (Fine B w S fun tv cv =>
      { S with tv := tv, cv := cv, at_ := S.at_ + (S.rest.takeWhile Lx.isInName).length, toks := S.toks ++ [⟨Lx.kindOf Lx.words (S.rest.takeWhile Lx.isInName) 1 2, 0, S.rest.takeWhile Lx.isInName, S.from_, S.at_ + (S.rest.takeWhile Lx.isInName).length⟩] }) := by
  have c0 := h.c0
  go_enter Tryd.func52, Tryd.ntmps52
  go_wp2_with fail
  go_region_with (first
    | (go_at_call 71; refine (pass_any _ _ run_isInName isInName_any B _ S (h.drew) hs hat).mono ?_; rintro e w1 ⟨rfl, h1, h2⟩; have d0 := h1.c0)
    | (go_at_call 73; refine (addAs_ok B _ _ h1 S.mw Lx.words h1.words 1 2 _ hl hn).mono ?_; rintro e w2 ⟨rfl, tv, cv, h3, h4⟩))
  all_goals
    go_wp2
    go_end0
    exact ⟨rfl, tv, cv, h3, ((Goes.refl w S).drew.trans h2).trans h4⟩

/-- For a way out of a region by a panic: what is shown is shown; what is left is the end of an empty region. -/
theorem leave_any {p : Prop} (P : Program) (a : Act) (w : World) (h : p) (_ : wpAny P Region.Mode.any #[] (fun _ _ _ => True) 0 #[] a w) : p := h

theorem rest_le (S : Scn) : S.rest.length ≤ S.text.size := by simp [Scn.rest]

set_option maxRecDepth 100000 in
set_option maxHeartbeats 400000 in
theorem cutName_bad (B : Nat) (w : World) (S : Scn) (h : Scan B w S) (hs : S.text.size ≤ maxLen) (hat : S.at_ ≤ S.text.size) (hl : 32 < (S.rest.takeWhile Lx.isInName).length) :
    Calls Tryd.prog 52 #[.pointer (some ⟨S.sb, 0, none⟩)] w (Thrown B w S) := by
  have c0 := h.c0
  have hm : (S.rest.takeWhile Lx.isInName).length ≤ maxLen := Nat.le_trans (tw_le _ _) (Nat.le_trans (rest_le S) hs)
  go_enter Tryd.func52, Tryd.ntmps52
  go_wp2_with fail
  go_region_with (first
    | (go_at_call 71; refine (pass_any _ _ run_isInName isInName_any B _ S (h.drew) hs hat).mono ?_; rintro e w1 ⟨rfl, h1, h2⟩; have d0 := h1.c0)
    | (go_at_call 73; refine (addAs_bad B _ _ h1 S.mw Lx.words h1.words 1 2 _ hl hm).mono ?_; rintro e w2 ⟨rfl, S', h3, h4, h5⟩; refine leave_any Tryd.prog { tmps := #[], defers := [] } w2 ⟨rfl, rfl, S', h3, h4, ((Goes.refl w S).drew.trans h2).trans h5⟩ ?_))
  all_goals trivial

set_option maxRecDepth 100000 in
set_option maxHeartbeats 400000 in
theorem cutSymbols_ok (B : Nat) (w : World) (S : Scn) (h : Scan B w S) (hs : S.text.size ≤ maxLen) (hat : S.at_ ≤ S.text.size) (hl : (S.rest.takeWhile Lx.isSymbol).length ≤ 32) (hn : (S.toks.length + 1) * 48 ≤ 140737488355328) :
    Calls Tryd.prog 54 #[.pointer (some ⟨S.sb, 0, none⟩)] w (Fine B w S fun tv cv =>
      { S with tv := tv, cv := cv, at_ := S.at_ + (S.rest.takeWhile Lx.isSymbol).length, toks := S.toks ++ [⟨Lx.kindOf Lx.signs (S.rest.takeWhile Lx.isSymbol) 4 5, 0, S.rest.takeWhile Lx.isSymbol, S.from_, S.at_ + (S.rest.takeWhile Lx.isSymbol).length⟩] }) := by
  have c1 := h.c1
  go_enter Tryd.func54, Tryd.ntmps54
  go_wp2_with fail
  go_region_with (first
    | (go_at_call 71; refine (pass_any _ _ run_isSymbol isSymbol_any B _ S (h.drew) hs hat).mono ?_; rintro e w1 ⟨rfl, h1, h2⟩; have d1 := h1.c1)
    | (go_at_call 73; refine (addAs_ok B _ _ h1 S.ms Lx.signs h1.signs 4 5 _ hl hn).mono ?_; rintro e w2 ⟨rfl, tv, cv, h3, h4⟩))
  all_goals
    go_wp2
    go_end0
    exact ⟨rfl, tv, cv, h3, ((Goes.refl w S).drew.trans h2).trans h4⟩

set_option maxRecDepth 100000 in
set_option maxHeartbeats 400000 in
theorem cutSymbols_bad (B : Nat) (w : World) (S : Scn) (h : Scan B w S) (hs : S.text.size ≤ maxLen) (hat : S.at_ ≤ S.text.size) (hl : 32 < (S.rest.takeWhile Lx.isSymbol).length) :
    Calls Tryd.prog 54 #[.pointer (some ⟨S.sb, 0, none⟩)] w (Thrown B w S) := by
  have c1 := h.c1
  have hm : (S.rest.takeWhile Lx.isSymbol).length ≤ maxLen := Nat.le_trans (tw_le _ _) (Nat.le_trans (rest_le S) hs)
  go_enter Tryd.func54, Tryd.ntmps54
  go_wp2_with fail
  go_region_with (first
    | (go_at_call 71; refine (pass_any _ _ run_isSymbol isSymbol_any B _ S (h.drew) hs hat).mono ?_; rintro e w1 ⟨rfl, h1, h2⟩; have d1 := h1.c1)
    | (go_at_call 73; refine (addAs_bad B _ _ h1 S.ms Lx.signs h1.signs 4 5 _ hl hm).mono ?_; rintro e w2 ⟨rfl, S', h3, h4, h5⟩; refine leave_any Tryd.prog { tmps := #[], defers := [] } w2 ⟨rfl, rfl, S', h3, h4, ((Goes.refl w S).drew.trans h2).trans h5⟩ ?_))
  all_goals trivial
end Go.Proofs.YtinogdeolnldhaaDoor
