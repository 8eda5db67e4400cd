/-
  The document's kinds of elements: among, Kind. No conditions.
-/
import Derived.Test.YtkfmfldkllkcbaaGreatDoorRTell
namespace Go.TreeKit
open Go Go.Lib Go.TokenKit
/-- A word, up to the next blank. -/
def wordAt (l : Bytes) : Bytes := l.takeWhile fun b => b != 32
def amongF : Nat → Bytes → Bytes → Bool
  | 0, _, _ => false
  | f + 1, w, l => if l = [] then false else if wordAt l = w then true else amongF f w (l.drop ((wordAt l).length + 1))
def amongL (w l : Bytes) : Bool := amongF l.length w l
theorem amongF_more (w : Bytes) : ∀ (f g : Nat) (l : Bytes), l.length ≤ f → l.length ≤ g → amongF f w l = amongF g w l
  | 0, 0, _, _, _ => rfl
  | 0, g + 1, l, h, _ => by
    obtain rfl : l = [] := List.length_eq_zero_iff.1 (by omega)
    rfl
  | f + 1, 0, l, _, h => by
    obtain rfl : l = [] := List.length_eq_zero_iff.1 (by omega)
    rfl
  | f + 1, g + 1, l, hf, hg => by
    unfold amongF
    split
    · rfl
    · split
      · rfl
      · exact amongF_more w f g _ (by rw [List.length_drop]; omega) (by rw [List.length_drop]; omega)
theorem amongL_step {w l : Bytes} (hl : l ≠ []) : amongL w l = if wordAt l = w then true else amongL w (l.drop ((wordAt l).length + 1)) := by
  obtain ⟨b, r, rfl⟩ : ∃ b r, l = b :: r := by
    cases l with
    | nil => exact absurd rfl hl
    | cons b r => exact ⟨b, r, rfl⟩
  conv => lhs; unfold amongL; rw [List.length_cons]; unfold amongF
  rw [if_neg hl]
  split
  · rfl
  · exact amongF_more w _ _ _ (by rw [List.length_drop, List.length_cons]; omega) (Nat.le_refl _)
theorem wordAt_eq : ∀ {l : Bytes} {n : Nat}, n ≤ l.length → (∀ j b, j < n → l[j]? = some b → b ≠ 32) → (n = l.length ∨ l[n]? = some 32) → wordAt l = l.take n
  | [], n, _, _, _ => by simp [wordAt]
  | b :: r, 0, _, _, h => by
    rcases h with h | h
    · simp at h
    · simp only [List.getElem?_cons_zero, Option.some.injEq] at h
      subst h
      simp [wordAt]
  | b :: r, n + 1, hn, h, he => by
    have hb : b ≠ 32 := h 0 b (by omega) rfl
    have := wordAt_eq (l := r) (n := n) (by simpa using hn) (fun j c hj hc => h (j + 1) c (by omega) (by simpa using hc)) (by simpa using he)
    unfold wordAt at this ⊢
    simp only [List.take_succ_cons, List.takeWhile]
    rw [show (b != 32) = true by simpa using hb]
    simp only [this]
def kWords1 : Bytes := [100, 105, 118, 32, 117, 108, 32, 111, 108, 32, 115, 101, 99, 116, 105, 111, 110, 32, 97, 114, 116, 105, 99, 108, 101, 32, 104, 101, 97, 100, 101, 114, 32, 102, 111, 111, 116, 101, 114, 32, 109, 97, 105, 110, 32, 110, 97, 118, 32, 97, 115, 105, 100, 101, 32, 98, 108, 111, 99, 107, 113, 117, 111, 116, 101, 32, 102, 105, 103, 117, 114, 101]
def kWords4 : Bytes := [104, 49, 32, 104, 50, 32, 104, 51, 32, 104, 52, 32, 104, 53, 32, 104, 54]
def kWords5 : Bytes := [115, 112, 97, 110, 32, 98, 32, 105, 32, 101, 109, 32, 115, 116, 114, 111, 110, 103, 32, 117, 32, 115, 32, 115, 109, 97, 108, 108, 32, 99, 111, 100, 101, 32, 98, 100, 105, 32, 98, 100, 111, 32, 97, 98, 98, 114, 32, 99, 105, 116, 101, 32, 113, 32, 115, 117, 98, 32, 115, 117, 112, 32, 109, 97, 114, 107]
/-- The words of a list. -/
def splitF : Nat → Bytes → List Bytes
  | 0, _ => []
  | f + 1, l => if l = [] then [] else wordAt l :: splitF f (l.drop ((wordAt l).length + 1))
theorem amongF_split (w : Bytes) : ∀ (f : Nat) (l : Bytes), amongF f w l = (splitF f l).contains w
  | 0, _ => rfl
  | f + 1, l => by
    unfold amongF splitF
    split
    · rfl
    · rw [List.contains_cons, amongF_split w f]
      split
      · rename_i h; rw [h, BEq.rfl, Bool.true_or]
      · rename_i h; rw [show (w == wordAt l) = false from beq_eq_false_iff_ne.2 (fun e => h e.symm), Bool.false_or]
theorem split1 : splitF kWords1.length kWords1 = [[100, 105, 118], [117, 108], [111, 108], [115, 101, 99, 116, 105, 111, 110], [97, 114, 116, 105, 99, 108, 101], [104, 101, 97, 100, 101, 114], [102, 111, 111, 116, 101, 114], [109, 97, 105, 110], [110, 97, 118], [97, 115, 105, 100, 101], [98, 108, 111, 99, 107, 113, 117, 111, 116, 101], [102, 105, 103, 117, 114, 101]] := by kernel_rfl
theorem split4 : splitF kWords4.length kWords4 = [[104, 49], [104, 50], [104, 51], [104, 52], [104, 53], [104, 54]] := by kernel_rfl
theorem split5 : splitF kWords5.length kWords5 = [[115, 112, 97, 110], [98], [105], [101, 109], [115, 116, 114, 111, 110, 103], [117], [115], [115, 109, 97, 108, 108], [99, 111, 100, 101], [98, 100, 105], [98, 100, 111], [97, 98, 98, 114], [99, 105, 116, 101], [113], [115, 117, 98], [115, 117, 112], [109, 97, 114, 107]] := by kernel_rfl
/-- P5.1, as the document says it. -/
def kindR (w : Bytes) : Nat :=
  if w = [] then 0 else if amongL w kWords1 then 1 else if w = [112] then 2 else if w = [108, 105] then 3 else if amongL w kWords4 then 4 else if amongL w kWords5 then 5 else if w = [97] then 6 else if w = [98, 114] then 7 else if w = [119, 98, 114] then 7 else if w = [104, 114] then 8 else 0
theorem kindR_tab : (kindTab.all fun p => kindR p.1 == p.2 && kindL p.1 == p.2) = true := by kernel_rfl
theorem kindR_eq (w : Bytes) : kindR w = kindL w := by
  by_cases h : ∃ p, p ∈ kindTab ∧ p.1 = w
  · obtain ⟨p, hp, rfl⟩ := h
    have := List.all_eq_true.1 kindR_tab p hp
    simp only [Bool.and_eq_true, beq_iff_eq] at this
    rw [this.1, this.2]
  · have hn : ∀ p, p ∈ kindTab → p.1 ≠ w := fun p hp e => h ⟨p, hp, e⟩
    have h0 : kindL w = 0 := by
      unfold kindL
      rw [show (kindTab.find? fun p => p.1 == w) = none from List.find?_eq_none.2 fun p hp => by simpa using hn p hp]
      rfl
    have hc : ∀ l : Bytes, (∀ v, v ∈ splitF l.length l → ∃ p, p ∈ kindTab ∧ p.1 = v) → amongL w l = false := fun l hl => by
      unfold amongL
      rw [amongF_split, Bool.eq_false_iff]
      intro e
      obtain ⟨p, hp, e2⟩ := hl w (List.contains_iff_mem.1 e)
      exact hn p hp e2
    have ha : ∀ (L : List Bytes), (L.all fun v => kindTab.any fun p => p.1 == v) = true → ∀ v, v ∈ L → ∃ p, p ∈ kindTab ∧ p.1 = v := fun L hL v hv => by
      have := List.all_eq_true.1 hL v hv
      obtain ⟨p, hp, e⟩ := List.any_eq_true.1 this
      exact ⟨p, hp, beq_iff_eq.1 e⟩
    have hx : ∀ v n, (v, n) ∈ kindTab → ¬ w = v := fun v n hv e => hn (v, n) hv e.symm
    rw [h0]
    unfold kindR
    rw [hc kWords1 (by rw [split1]; exact ha _ (by kernel_rfl)), hc kWords4 (by rw [split4]; exact ha _ (by kernel_rfl)), hc kWords5 (by rw [split5]; exact ha _ (by kernel_rfl)),
      if_neg (hx [112] 2 (by decide)), if_neg (hx [108, 105] 3 (by decide)), if_neg (hx [97] 6 (by decide)), if_neg (hx [98, 114] 7 (by decide)), if_neg (hx [119, 98, 114] 7 (by decide)), if_neg (hx [104, 114] 8 (by decide))]
    split <;> rfl
end Go.TreeKit
namespace Go.Proofs.YtkfmfldkllkcbaaGreatDoor
open Go.RowKit Go.RunKit Go.CharrefKit Go.Lib Go.TokenKit Go.TreeKit

theorem bl_extract (s : ByteArray) (i k : Nat) : bl (s.extract i k) = ((bl s).drop i).take (k - i) := by
  simp [bl, List.extract]

set_option maxRecDepth 100000 in
set_option maxHeartbeats 1000000 in
theorem among_any (s l : ByteArray) (hl : l.size ≤ 1048576) (w : World) :
    Calls Tryz.prog 58 #[.string s, .string l] w fun e w' => e = .returned (.bool (amongL (bl s) (bl l))) ∧ w = w' := by
  have hll := bl_length l
  go_enter Tryz.func58, Tryz.ntmps58
  go_big_wp2
  go_loop [5] (fun v => ∃ i : Nat, v = .int .i64 (i : Nat) ∧ i ≤ l.size + 1 ∧ Hid (amongL (bl s) ((bl l).drop i) = amongL (bl s) (bl l))) (fun v => l.size + 2 - (RowKit.intOf v).toNat)
  case atStart => exact ⟨0, rfl, by omega, Lib.hid rfl⟩
  case round =>
    obtain ⟨i, rfl, hi, HI⟩ := hrel
    by_cases hlt : i < l.size
    · have hltI : (i : Int) < l.size := by omega
      go_big_wp2
      go_loop [6] (fun v => ∃ k : Nat, v = .int .i64 (k : Nat) ∧ i ≤ k ∧ k ≤ l.size ∧ Hid (∀ j b, i ≤ j → j < k → (bl l)[j]? = some b → b ≠ 32)) (fun v => l.size - (RowKit.intOf v).toNat)
      case atStart => exact ⟨i, rfl, Nat.le_refl _, by omega, Lib.hid fun j b h1 h2 => by omega⟩
      case round =>
        obtain ⟨k, rfl, hik, hks, HK⟩ := hrel
        have hikI : (i : Int) ≤ k := by omega
        have hksI : (k : Int) ≤ l.size := by omega
        have hne : (bl l).drop i ≠ [] := fun e => by
          have := congrArg List.length e
          rw [List.length_drop, hll] at this
          simp at this
          omega
        have FIN : Hid ((k = l.size ∨ (bl l)[k]? = some 32) → amongL (bl s) (bl l) = if bl (l.extract i k) = bl s then true else amongL (bl s) ((bl l).drop (k + 1))) := Lib.hid fun h => by
          have hw : wordAt ((bl l).drop i) = bl (l.extract i k) := by
            rw [bl_extract]
            refine wordAt_eq (by rw [List.length_drop]; omega) (fun j b hj hb => HK.out (i + j) b (by omega) (by omega) (by rwa [List.getElem?_drop] at hb)) ?_
            rcases h with h | h
            · left; rw [List.length_drop]; omega
            · right; rw [List.getElem?_drop, show i + (k - i) = k by omega]; exact h
          have hlen : (bl (l.extract i k)).length = k - i := by rw [bl_extract, List.length_take, List.length_drop]; omega
          rw [← HI.out, amongL_step hne, hw, hlen, List.drop_drop, show i + (k - i + 1) = k + 1 by omega]
        clear hne
        obtain ⟨x, hx⟩ : ∃ x, l.extract i k = x := ⟨_, rfl⟩
        rw [hx] at FIN
        by_cases hk : k < l.size
        · have hkI : (k : Int) < l.size := by omega
          obtain ⟨b, hb⟩ : ∃ b, l[k]'hk = b := ⟨_, rfl⟩
          have hbl : (bl l)[k]? = some b := by rw [← hb]; exact Lib.data_getElem? l k hk
          have HBl := Lib.hid hbl
          clear hbl
          by_cases h32 : b = 32
          · subst h32
            have hF := FIN.out (.inr HBl.out)
            by_cases he : x = s
            · subst he
              rw [if_pos rfl] at hF
              have HF := Lib.hid hF
              clear hF FIN
              go_big_wp2
              go_ret
              refine ⟨ret1_eq (congrArg Value.bool ?_), rfl⟩
              exact HF.out.symm
            · have hn : ¬ bl x = bl s := fun e => he (bl_eq e)
              have hn2 : ¬ x.toList = s.toList := by rw [Lib.toList_data, Lib.toList_data]; exact hn
              have hn4 : (x.toList == s.toList) = false := beq_eq_false_iff_ne.2 hn2
              rw [if_neg hn] at hF
              have HF := Lib.hid hF
              clear hF FIN hn
              go_big_wp2
              exact ⟨⟨k + 1, by go_num, by omega, Lib.hid HF.out.symm⟩, by simp [RowKit.intOf]; omega⟩
          · have h32N : ¬ b.toNat = 32 := fun e => h32 (UInt8.toNat_inj.1 (by simpa using e))
            have h32I : ((b.toNat : Int) = 32) = False := eq_false (by omega)
            have h32B : ((b.toNat : Int) != 32) = true := by rw [bne_iff_ne]; omega
            have HN : Hid (∀ j c, i ≤ j → j < k + 1 → (bl l)[j]? = some c → c ≠ 32) := Lib.hid fun j c h1 h2 hc => by
              by_cases e : j = k
              · subst e; rw [HBl.out] at hc; cases hc; exact h32
              · exact HK.out j c h1 (by omega) hc
            clear FIN h32N h32
            go_big_wp2
            exact ⟨⟨k + 1, by go_num, by omega, by omega, HN⟩, by simp [RowKit.intOf]; omega⟩
        · have hk2 : k = l.size := by omega
          have hF := FIN.out (.inl hk2)
          subst hk2
          by_cases he : x = s
          · subst he
            rw [if_pos rfl] at hF
            have HF := Lib.hid hF
            clear hF FIN
            go_big_wp2
            go_ret
            refine ⟨ret1_eq (congrArg Value.bool ?_), rfl⟩
            exact HF.out.symm
          · have hn : ¬ bl x = bl s := fun e => he (bl_eq e)
            have hn2 : ¬ x.toList = s.toList := by rw [Lib.toList_data, Lib.toList_data]; exact hn
            have hn4 : (x.toList == s.toList) = false := beq_eq_false_iff_ne.2 hn2
            rw [if_neg hn] at hF
            have HF := Lib.hid hF
            clear hF FIN hn
            go_big_wp2
            exact ⟨⟨l.size + 1, by go_num, by omega, Lib.hid HF.out.symm⟩, by simp [RowKit.intOf]; omega⟩
    · have h0 : (bl l).drop i = [] := List.drop_eq_nil_of_le (by omega)
      have hF : amongL (bl s) (bl l) = false := by rw [← HI.out, h0]; rfl
      have hltI : ((i : Int) < l.size) = False := eq_false (by omega)
      have HF := Lib.hid hF
      clear h0 hF
      go_big_wp2
      go_ret
      refine ⟨ret1_eq (congrArg Value.bool ?_), rfl⟩
      exact HF.out.symm

set_option maxRecDepth 100000 in
set_option maxHeartbeats 4000000 in
theorem kindR_any (s : ByteArray) (w : World) :
    Calls Tryz.prog 26 #[.string s] w fun e w' => e = .returned (.int .u8 ((kindR (bl s) : Nat) : Int)) ∧ w = w' := by
  have HA := Lib.hid fun (l : ByteArray) (hl : l.size ≤ 1048576) (w : World) => among_any s l hl w
  have hlist := Lib.toList_data s
  have hbe : ∀ v : Bytes, bl s = v → (s.toList == v) = true := fun v h => by rw [hlist]; exact beq_iff_eq.2 h
  have hbn : ∀ v : Bytes, ¬ bl s = v → (s.toList == v) = false := fun v h => by rw [hlist]; exact beq_eq_false_iff_ne.2 h
  have HBn := Lib.hid hbn
  clear hbn
  by_cases h0 : bl s = []
  · have hs : s = ⟨#[]⟩ := bl_eq h0
    subst hs
    rw [show kindR (bl ⟨#[]⟩) = 0 from rfl]
    clear hlist hbe
    go_enter Tryz.func26, Tryz.ntmps26
    go_big_wp2
    go_ret
    exact ⟨rfl, rfl⟩
  have n0 : (s.toList == []) = false := HBn.out [] h0
  have n0' : s.toList.isEmpty = false := by
    rw [hlist]; cases hb : bl s with
    | nil => exact absurd hb h0
    | cons b r => show (bl s).isEmpty = false; rw [hb]; rfl
  clear hlist hbe
  obtain ⟨b1, hb1⟩ : ∃ b, amongL (bl s) kWords1 = b := ⟨_, rfl⟩
  obtain ⟨b4, hb4⟩ : ∃ b, amongL (bl s) kWords4 = b := ⟨_, rfl⟩
  obtain ⟨b5, hb5⟩ : ∃ b, amongL (bl s) kWords5 = b := ⟨_, rfl⟩
  have hk : kindR (bl s) = if b1 then 1 else if bl s = [112] then 2 else if bl s = [108, 105] then 3 else if b4 then 4 else if b5 then 5 else if bl s = [97] then 6 else if bl s = [98, 114] then 7 else if bl s = [119, 98, 114] then 7 else if bl s = [104, 114] then 8 else 0 := by
    unfold kindR
    rw [if_neg h0, hb1, hb4, hb5]
  rw [hk]
  have H1 : Hid (∀ w, Calls Tryz.prog 58 #[.string s, .string ⟨kWords1.toArray⟩] w fun e w' => e = .returned (.bool b1) ∧ w = w') := Lib.hid fun w => by
    have := HA.out ⟨kWords1.toArray⟩ (by decide) w
    rwa [bl_of kWords1, hb1] at this
  have H4 : Hid (∀ w, Calls Tryz.prog 58 #[.string s, .string ⟨kWords4.toArray⟩] w fun e w' => e = .returned (.bool b4) ∧ w = w') := Lib.hid fun w => by
    have := HA.out ⟨kWords4.toArray⟩ (by decide) w
    rwa [bl_of kWords4, hb4] at this
  have H5 : Hid (∀ w, Calls Tryz.prog 58 #[.string s, .string ⟨kWords5.toArray⟩] w fun e w' => e = .returned (.bool b5) ∧ w = w') := Lib.hid fun w => by
    have := HA.out ⟨kWords5.toArray⟩ (by decide) w
    rwa [bl_of kWords5, hb5] at this
  clear hk hb1 hb4 hb5 HA h0
  cases b1 with
  | true =>
    go_enter Tryz.func26, Tryz.ntmps26
    go_big_wp2_with (go_at_call 58; refine (H1.out _).mono ?_; rintro e w1 ⟨rfl, rfl⟩)
    go_ret
    exact ⟨rfl, rfl⟩
  | false =>
    rw [if_neg (by decide)]
    by_cases e2 : bl s = [112]
    · obtain rfl : s = ⟨#[112]⟩ := bl_eq e2
      rw [if_pos (show bl ⟨#[112]⟩ = [112] from rfl)]
      clear n0 n0'
      go_enter Tryz.func26, Tryz.ntmps26
      go_big_wp2_with (go_at_call 58; refine (H1.out _).mono ?_; clear H1; rintro e w1 ⟨rfl, rfl⟩)
      go_ret
      exact ⟨rfl, rfl⟩
    rw [if_neg e2]
    have n2 : (s.toList == [112]) = false := HBn.out _ e2
    by_cases e3 : bl s = [108, 105]
    · obtain rfl : s = ⟨#[108, 105]⟩ := bl_eq e3
      rw [if_pos (show bl ⟨#[108, 105]⟩ = [108, 105] from rfl)]
      clear n0 n0' n2
      go_enter Tryz.func26, Tryz.ntmps26
      go_big_wp2_with (go_at_call 58; refine (H1.out _).mono ?_; clear H1; rintro e w1 ⟨rfl, rfl⟩)
      go_ret
      exact ⟨rfl, rfl⟩
    rw [if_neg e3]
    have n3 : (s.toList == [108, 105]) = false := HBn.out _ e3
    cases b4 with
    | true =>
      go_enter Tryz.func26, Tryz.ntmps26
      go_big_wp2_with (go_at_call 58; first | (refine (H1.out _).mono ?_; clear H1; rintro e w1 ⟨rfl, rfl⟩) | (refine (H4.out _).mono ?_; clear H4; rintro e w1 ⟨rfl, rfl⟩))
      go_ret
      exact ⟨rfl, rfl⟩
    | false =>
      rw [if_neg (by decide)]
      cases b5 with
      | true =>
        go_enter Tryz.func26, Tryz.ntmps26
        go_big_wp2_with (go_at_call 58; first | (refine (H1.out _).mono ?_; clear H1; rintro e w1 ⟨rfl, rfl⟩) | (refine (H4.out _).mono ?_; clear H4; rintro e w1 ⟨rfl, rfl⟩) | (refine (H5.out _).mono ?_; clear H5; rintro e w1 ⟨rfl, rfl⟩))
        go_ret
        exact ⟨rfl, rfl⟩
      | false =>
        rw [if_neg (by decide)]
        by_cases e6 : bl s = [97]
        · obtain rfl : s = ⟨#[97]⟩ := bl_eq e6
          rw [if_pos (show bl ⟨#[97]⟩ = [97] from rfl)]
          clear n0 n0' n2 n3
          go_enter Tryz.func26, Tryz.ntmps26
          go_big_wp2_with (go_at_call 58; first | (refine (H1.out _).mono ?_; clear H1; rintro e w1 ⟨rfl, rfl⟩) | (refine (H4.out _).mono ?_; clear H4; rintro e w1 ⟨rfl, rfl⟩) | (refine (H5.out _).mono ?_; clear H5; rintro e w1 ⟨rfl, rfl⟩))
          go_ret
          exact ⟨rfl, rfl⟩
        rw [if_neg e6]
        have n6 : (s.toList == [97]) = false := HBn.out _ e6
        by_cases e7 : bl s = [98, 114]
        · obtain rfl : s = ⟨#[98, 114]⟩ := bl_eq e7
          rw [if_pos (show bl ⟨#[98, 114]⟩ = [98, 114] from rfl)]
          clear n0 n0' n2 n3 n6
          go_enter Tryz.func26, Tryz.ntmps26
          go_big_wp2_with (go_at_call 58; first | (refine (H1.out _).mono ?_; clear H1; rintro e w1 ⟨rfl, rfl⟩) | (refine (H4.out _).mono ?_; clear H4; rintro e w1 ⟨rfl, rfl⟩) | (refine (H5.out _).mono ?_; clear H5; rintro e w1 ⟨rfl, rfl⟩))
          go_ret
          exact ⟨rfl, rfl⟩
        rw [if_neg e7]
        have n7 : (s.toList == [98, 114]) = false := HBn.out _ e7
        by_cases e8 : bl s = [119, 98, 114]
        · obtain rfl : s = ⟨#[119, 98, 114]⟩ := bl_eq e8
          rw [if_pos (show bl ⟨#[119, 98, 114]⟩ = [119, 98, 114] from rfl)]
          clear n0 n0' n2 n3 n6 n7
          go_enter Tryz.func26, Tryz.ntmps26
          go_big_wp2_with (go_at_call 58; first | (refine (H1.out _).mono ?_; clear H1; rintro e w1 ⟨rfl, rfl⟩) | (refine (H4.out _).mono ?_; clear H4; rintro e w1 ⟨rfl, rfl⟩) | (refine (H5.out _).mono ?_; clear H5; rintro e w1 ⟨rfl, rfl⟩))
          go_ret
          exact ⟨rfl, rfl⟩
        rw [if_neg e8]
        have n8 : (s.toList == [119, 98, 114]) = false := HBn.out _ e8
        by_cases e9 : bl s = [104, 114]
        · obtain rfl : s = ⟨#[104, 114]⟩ := bl_eq e9
          rw [if_pos (show bl ⟨#[104, 114]⟩ = [104, 114] from rfl)]
          clear n0 n0' n2 n3 n6 n7 n8
          go_enter Tryz.func26, Tryz.ntmps26
          go_big_wp2_with (go_at_call 58; first | (refine (H1.out _).mono ?_; clear H1; rintro e w1 ⟨rfl, rfl⟩) | (refine (H4.out _).mono ?_; clear H4; rintro e w1 ⟨rfl, rfl⟩) | (refine (H5.out _).mono ?_; clear H5; rintro e w1 ⟨rfl, rfl⟩))
          go_ret
          exact ⟨rfl, rfl⟩
        rw [if_neg e9]
        have n9 : (s.toList == [104, 114]) = false := HBn.out _ e9
        go_enter Tryz.func26, Tryz.ntmps26
        go_big_wp2_with (go_at_call 58; first | (refine (H1.out _).mono ?_; clear H1; rintro e w1 ⟨rfl, rfl⟩) | (refine (H4.out _).mono ?_; clear H4; rintro e w1 ⟨rfl, rfl⟩) | (refine (H5.out _).mono ?_; clear H5; rintro e w1 ⟨rfl, rfl⟩))
        go_ret
        exact ⟨rfl, rfl⟩
end Go.Proofs.YtkfmfldkllkcbaaGreatDoor
