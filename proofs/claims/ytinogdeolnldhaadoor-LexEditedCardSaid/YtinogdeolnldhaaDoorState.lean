/- One step of the scanner, whichever state it is in. -/
import Derived.Test.YtinogdeolnldhaaDoorSign
import Derived.Test.YtinogdeolnldhaaDoorMath
namespace Go.Proofs.YtinogdeolnldhaaDoor
open Go.RowKit

def StepPost (B : Nat) (w : World) (S : Scn) (o : Option (Nat × List Lx.Tok × List (Nat × Nat))) (e : Ending) (w' : World) : Prop :=
  match o with
  | none => Thrown B w S e w'
  | some (k, ts, cs) => Fine B w S (fun tv cv => { S with tv := tv, cv := cv, at_ := S.at_ + k, toks := S.toks ++ ts, coms := S.coms ++ cs }) e w'

theorem state_any (B : Nat) (w : World) (S : Scn) (h : Scan B w S) (hs : S.text.size ≤ 140737488351232) (hat : S.at_ < S.text.size) (hf : S.from_ = S.at_)
    (hn : (S.toks.length + 1) * 48 ≤ 140737488355328) (hn2 : (S.coms.length + 1) * 16 ≤ 140737488355328) (c : UInt8) (r : Lx.Bytes) (hr : S.rest = c :: r) :
    Calls Tryd.prog (stateOf (Lx.classOf c)) #[.pointer (some ⟨S.sb, 0, none⟩)] w (StepPost B w S (Lx.step S.at_ S.rest)) := by
  have hm : S.text.size ≤ maxLen := by unfold maxLen; omega
  have hl : S.at_ ≤ S.text.size := by omega
  rw [cls_cases]
  have hstep : Lx.step S.at_ S.rest = if Lx.isBlank c then some ((S.rest.takeWhile Lx.isBlank).length, [], []) else match Lx.cut1 S.rest with
      | .skip => none
      | .comment n => some (n, [], [(S.at_, S.at_ + n)])
      | .tok k n s len => some (len, [⟨k, n, s, S.at_, S.at_ + len⟩], [])
      | .bad => none := by rw [hr]; rfl
  have hcut : Lx.cut1 S.rest = if Lx.isBlank c then .skip else if Lx.isLetter c then Lx.cutName S.rest else if Lx.isDigit c then Lx.cutNumber S.rest else if Lx.isSymbol c then Lx.cutSymbols S.rest else Lx.cutSign S.rest := by
    rw [hr]; rfl
  rw [hstep]
  by_cases hb : Lx.isBlank c
  · rw [if_pos hb, if_pos hb]
    refine (cutBlanks_any B w S h hm hl).mono ?_
    rintro e w' ⟨rfl, tv, cv, h1, h2⟩
    refine ⟨rfl, tv, cv, ?_, ?_⟩
    · simpa using h1
    · simpa using h2
  rw [if_neg hb, if_neg hb]
  rw [if_neg hb] at hcut
  by_cases hle : Lx.isLetter c
  · rw [if_pos hle]
    rw [if_pos hle] at hcut
    rw [hcut]
    unfold Lx.cutName
    by_cases h32 : (S.rest.takeWhile Lx.isInName).length ≤ 32
    · simp only [if_pos h32]
      refine (cutName_ok B w S h hm hl h32 hn).mono ?_
      rintro e w' ⟨rfl, tv, cv, h1, h2⟩
      rw [hf] at h1 h2
      refine ⟨rfl, tv, cv, ?_, ?_⟩
      · simpa [hf] using h1
      · simpa [hf] using h2
    · simp only [if_neg h32]
      exact cutName_bad B w S h hm hl (by omega)
  rw [if_neg hle]
  rw [if_neg hle] at hcut
  by_cases hd : Lx.isDigit c
  · rw [if_pos hd]
    rw [if_pos hd] at hcut
    rw [hcut]
    unfold Lx.cutNumber
    by_cases h32 : (Lx.num (S.rest.takeWhile Lx.isDigit) ≤ Lx.maxNum && !((S.rest.drop (S.rest.takeWhile Lx.isDigit).length).head?.any Lx.isInName)) = true
    · simp only [if_pos h32]
      have h33 : Lx.num (S.rest.takeWhile Lx.isDigit) ≤ Lx.maxNum ∧ (S.rest.drop (S.rest.takeWhile Lx.isDigit).length).head?.any Lx.isInName = false := by simpa only [Bool.and_eq_true, decide_eq_true_eq, Bool.not_eq_true'] using h32
      refine (cutNumber_ok B w S h hs hl hn h33.1 h33.2).mono ?_
      rintro e w' ⟨rfl, tv, cv, h1, h2⟩
      rw [hf] at h1 h2
      refine ⟨rfl, tv, cv, ?_, ?_⟩
      · simpa [hf] using h1
      · simpa [hf] using h2
    · simp only [if_neg h32]
      refine cutNumber_bad B w S h hs hl ?_
      by_cases h34 : Lx.num (S.rest.takeWhile Lx.isDigit) ≤ Lx.maxNum
      · right
        cases h35 : (S.rest.drop (S.rest.takeWhile Lx.isDigit).length).head?.any Lx.isInName
        · rw [h35] at h32; simp [h34] at h32
        · rfl
      · left
        unfold Lx.maxNum at h34
        omega
  rw [if_neg hd]
  rw [if_neg hd] at hcut
  by_cases hsy : Lx.isSymbol c
  · rw [if_pos hsy]
    rw [if_pos hsy] at hcut
    rw [hcut]
    unfold Lx.cutSymbols
    by_cases h32 : (S.rest.takeWhile Lx.isSymbol).length ≤ 32
    · simp only [if_pos h32]
      refine (cutSymbols_ok B w S h hm hl h32 hn).mono ?_
      rintro e w' ⟨rfl, tv, cv, h1, h2⟩
      rw [hf] at h1 h2
      refine ⟨rfl, tv, cv, ?_, ?_⟩
      · simpa [hf] using h1
      · simpa [hf] using h2
    · simp only [if_neg h32]
      exact cutSymbols_bad B w S h hm hl (by omega)
  rw [if_neg hsy]
  rw [if_neg hsy] at hcut
  rw [hcut]
  unfold Lx.cutSign
  by_cases ht : S.rest.take 2 = [40, 42]
  · simp only [if_pos ht]
    cases hc : Lx.com 1 (S.rest.drop 2) with
    | none => exact cutSign_comBad B w S h hs hl ht hc
    | some n =>
      refine (cutSign_com B w S h hs hl hn2 ht n hc).mono ?_
      rintro e w' ⟨rfl, tv, cv, h1, h2⟩
      rw [hf] at h1 h2
      refine ⟨rfl, tv, cv, ?_, ?_⟩
      · simpa [Nat.add_assoc, Nat.add_comm 2 n, hf] using h1
      · simpa [Nat.add_assoc, Nat.add_comm 2 n, hf] using h2
  · simp only [if_neg ht]
    refine (cutSign_tok B w S h hs hl hn ht _ rfl).mono ?_
    intro e w' hp
    unfold SignPost at hp
    cases hk : Lx.signLen S.rest 3 with
    | zero => rw [if_pos hk] at hp; exact hp
    | succ k =>
      rw [if_neg (by omega), hk] at hp
      obtain ⟨rfl, tv, cv, h1, h2⟩ := hp
      rw [hf] at h1 h2
      refine ⟨rfl, tv, cv, ?_, ?_⟩
      · simpa [hf] using h1
      · simpa [hf] using h2
end Go.Proofs.YtinogdeolnldhaaDoor
