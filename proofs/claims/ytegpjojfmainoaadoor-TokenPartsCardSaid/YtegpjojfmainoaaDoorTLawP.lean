/-
  A plain text is one token. Conditions: the library's variable MaxLen holds a number.
-/
import Derived.Test.YtegpjojfmainoaaDoorTLaw1
namespace Go.TokenKit
open Go Go.Lib Go.CharrefKit
theorem has_no {s m : Bytes} (h : hasL s m = false) : ∀ b, b ∈ s → ∀ c, c ∈ m → b ≠ c := by
  intro b hb c hc e
  unfold hasL at h
  rw [List.any_eq_false] at h
  have := h b hb
  rw [List.any_eq_true] at this
  exact this ⟨c, hc, beq_iff_eq.2 e⟩
theorem mark_no : ∀ {l : Bytes}, (∀ b, b ∈ l → b ≠ 60) → markL l = false
  | [], _ => rfl
  | [_], _ => rfl
  | a :: c :: r, h => by
    have : (a == 60) = false := by rw [beq_eq_false_iff_ne]; exact h a (by simp)
    simp only [markL, this, Bool.false_and]
theorem decodeL_plainAll (attr : Bool) (l : Bytes) (h : ∀ b, b ∈ l → b ≠ 38) : decodeL attr l = l := by
  have := decodeL_ahead (attr := attr) l [] (fun b hb e => h b hb (UInt8.toNat_inj.1 e))
  rw [List.append_nil, decodeL_nil, List.append_nil] at this
  exact this
theorem words_no {l : Bytes} (h : ∀ b, b ∈ l → b ≠ 60) : wordsN l = l.length :=
  wordsN_eq l l.length (Nat.le_refl _) (fun _ _ => mark_no fun b hb => h b (List.mem_of_mem_drop hb)) (.inl rfl)
theorem plain_told {l : Bytes} (h : hasL l [60, 38, 0] = false) (hl : l.length ≤ 65536) : answerL l = (if l = [] then [] else [⟨3, [], [], false, l⟩], 0, 0) := by
  have h60 : ∀ b, b ∈ l → b ≠ 60 := fun b hb => has_no h b hb 60 (by simp)
  have h38 : ∀ b, b ∈ l → b ≠ 38 := fun b hb => has_no h b hb 38 (by simp)
  have h0 : l.contains 0 = false := by
    rw [Bool.eq_false_iff]
    intro hc
    exact has_no h 0 (List.contains_iff_mem.1 hc) 0 (by simp) rfl
  unfold answerL
  rw [if_neg (by omega), h0]
  by_cases hn : l = []
  · subst hn; rfl
  · have h1 : oneL l = .ok (⟨3, [], [], false, l⟩, []) := by
      unfold oneL
      rw [mark_no h60, words_no h60, List.take_length, List.drop_length, decodeL_plainAll false l h38]; rfl
    have h2 : toksL l = .ok [⟨3, [], [], false, l⟩] := by
      show toksAt 0 l = _
      rw [toksAt_step 0 hn, h1]
      rfl
    rw [h2, if_neg hn]; rfl
end Go.TokenKit
namespace Go.Proofs.YtegpjojfmainoaaDoor
open Go.RowKit Go.RunKit Go.CharrefKit Go.Lib Go.TokenKit

set_option maxRecDepth 100000 in
set_option maxHeartbeats 1000000 in
theorem has_any (s m : ByteArray) (hs : s.size ≤ 1099511627776) (hm : m.size ≤ 1099511627776) (w : World) : Calls Tryd.prog 11 #[.string s, .string m] w fun e w' => e = .returned (.bool (hasL (bl s) (bl m))) ∧ Below w.heap.size w w' := by
  have hls := bl_length s
  have hlm := bl_length m
  go_enter Tryd.func11, Tryd.ntmps11
  go_big_wp2
  go_loopw [5] (fun v wr => ∃ i : Nat, v = .int .i64 (i : Nat) ∧ i ≤ s.size ∧ Hid (Below w.heap.size w wr) ∧ Hid (∀ j b, j < i → (bl s)[j]? = some b → (bl m).any (fun c => b == c) = false)) (fun v _ => s.size - (RowKit.intOf v).toNat)
  case atStart => exact ⟨0, rfl, Nat.zero_le _, Lib.hid (Below.refl _ _), Lib.hid fun j b h => by omega⟩
  case round =>
    obtain ⟨i, rfl, his, HB, HA⟩ := hrel
    by_cases hi : i < s.size
    · have hI : (i : Int) < s.size := by omega
      obtain ⟨x, hx⟩ : ∃ x : UInt8, s[i]'hi = x := ⟨_, rfl⟩
      have hxl : (bl s)[i]? = some x := by rw [← hx]; exact Lib.data_getElem? s i hi
      have HX := Lib.hid hxl
      clear hxl
      go_big_wp2
      go_hide hQ
      go_loopw [6] (fun v wr => ∃ k : Nat, v = .int .i64 (k : Nat) ∧ k ≤ m.size ∧ Hid (Below w.heap.size w wr) ∧ Hid (∀ j c, j < k → (bl m)[j]? = some c → (x == c) = false)) (fun v _ => m.size - (RowKit.intOf v).toNat)
      case atStart => exact ⟨0, rfl, Nat.zero_le _, HB, Lib.hid fun j b h => by omega⟩
      case round =>
        obtain ⟨k, rfl, hks, HB2, HK⟩ := hrel
        by_cases hk : k < m.size
        · have hKI : (k : Int) < m.size := by omega
          obtain ⟨y, hy⟩ : ∃ y : UInt8, m[k]'hk = y := ⟨_, rfl⟩
          have hyl : (bl m)[k]? = some y := by rw [← hy]; exact Lib.data_getElem? m k hk
          have HY := Lib.hid hyl
          clear hyl
          by_cases he : x = y
          · subst he
            have heb : ((x.toNat : Int) == (x.toNat : Int)) = true := by simp
            go_big_wp2
            go_quiet (fail)
            go_big_wp2
            subst hQ
            go_big_wp2
            go_ret
            refine ⟨ret1_eq (congrArg Value.bool ?_), below_drewN HB2.out _⟩
            symm
            exact List.any_eq_true.2 ⟨x, List.mem_of_getElem? HX.out, List.any_eq_true.2 ⟨x, List.mem_of_getElem? HY.out, by simp⟩⟩
          · have hne : ¬ ((x.toNat : Int) = (y.toNat : Int)) := fun e => he (UInt8.toNat_inj.1 (by omega))
            have heb : ((x.toNat : Int) == (y.toNat : Int)) = false := beq_eq_false_iff_ne.2 hne
            go_big_wp2
            go_quiet (fail)
            go_big_wp2
            refine ⟨⟨k + 1, rfl, by omega, Lib.hid (below_drewN HB2.out _), Lib.hid fun j c hj hc => ?_⟩, by simp [RowKit.intOf]; omega⟩
            by_cases e : j = k
            · subst e; rw [HY.out] at hc; cases hc; exact beq_eq_false_iff_ne.2 he
            · exact HK.out j c (by omega) hc
        · obtain rfl : k = m.size := by omega
          go_big_wp2
          subst hQ
          go_big_wp2
          refine ⟨⟨i + 1, rfl, by omega, HB2, Lib.hid fun j b hj hb => ?_⟩, by simp [RowKit.intOf]; omega⟩
          by_cases e : j = i
          · subst e; rw [HX.out] at hb; cases hb
            rw [List.any_eq_false]
            intro c hc
            obtain ⟨q, hq⟩ := List.mem_iff_getElem?.1 hc
            rw [HK.out q c (by rw [← hlm]; exact (List.getElem?_eq_some_iff.1 hq).1) hq]; decide
          · exact HA.out j b (by omega) hb
    · obtain rfl : i = s.size := by omega
      go_big_wp2
      go_ret
      refine ⟨ret1_eq (congrArg Value.bool ?_), HB.out⟩
      symm
      unfold hasL
      rw [List.any_eq_false]
      intro b hb
      obtain ⟨j, hj⟩ := List.mem_iff_getElem?.1 hb
      rw [HA.out j b (by rw [← hls]; exact (List.getElem?_eq_some_iff.1 hj).1) hj]; decide

set_option maxRecDepth 100000 in
set_option maxHeartbeats 2000000 in
theorem lawPlain (s : ByteArray) (w : World) (hM : Maxed w w.heap.size) : Calls Tryd.prog 4 #[.string s] w fun e w' => e = .returned (.bool true) ∧ Below w.heap.size w w' := by
  have HW := Lib.hid fun w1 (hb : Below w.heap.size w w1) => works_any w1 (maxed_on hM hb)
  by_cases hbig : 5000 < s.size
  · have hI : (5000 : Int) < s.size := by omega
    go_enter Tryd.func4, Tryd.ntmps4
    go_big_wp2_with (go_at_call 7; refine (HW.out _ (Below.refl _ _)).mono ?_; rintro e w1 ⟨rfl, hb1⟩)
    go_ret
    exact ⟨rfl, hb1⟩
  · have hI : ¬ (5000 : Int) < s.size := by omega
    have hH := has_any s ⟨#[60, 38, 0]⟩ (by omega) (by decide) w
    rw [show bl (⟨#[60, 38, 0]⟩ : ByteArray) = [60, 38, 0] from rfl] at hH
    cases hh : hasL (bl s) [60, 38, 0] with
    | true =>
      rw [hh] at hH
      have HH := Lib.hid hH
      clear hH hh
      go_enter Tryd.func4, Tryd.ntmps4
      go_big_wp2_with (first
        | (go_at_call 11; refine HH.out.mono ?_; rintro e w1 ⟨rfl, hb1⟩; have HB1 := Lib.hid hb1; clear hb1)
        | (go_at_call 7; refine (HW.out _ HB1.out).mono ?_; rintro e w2 ⟨rfl, hb2⟩))
      go_ret
      exact ⟨rfl, HB1.out.trans (hb2.mono HB1.out.size)⟩
    | false =>
      rw [hh] at hH
      have HH := Lib.hid hH
      have htold := plain_told hh (by rw [bl_length]; omega)
      clear hH hh
      by_cases hn : bl s = []
      · rw [if_pos hn] at htold
        have HT := Lib.hid fun w1 (hb : Below w.heap.size w w1) => tokens_at (n := 0) htold rfl w1 (maxed_on hM hb)
        have hE : s.toList = [] := by rw [Lib.toList_data]; exact hn
        have hE1 : s.toList.isEmpty = true := by simp [hE]
        clear htold hn hM
        go_enter Tryd.func4, Tryd.ntmps4
        go_big_wp2_with (first
          | (go_at_call 11; refine HH.out.mono ?_; rintro e w1 ⟨rfl, hb1⟩; have HB1 := Lib.hid hb1; clear hb1)
          | (go_at_call 8; refine (HT.out _ HB1.out).mono ?_; rintro e w2 ⟨ao, cap, L, rfl, hb2, _, _, _⟩; have HB2 := Lib.hid (HB1.out.trans (hb2.mono HB1.out.size)); clear hb2)
          | (go_at_call 7; refine (HW.out _ HB2.out).mono ?_; rintro e w3 ⟨rfl, hb3⟩))
        go_ret
        exact ⟨rfl, HB2.out.trans (hb3.mono HB2.out.size)⟩
      · rw [if_neg hn] at htold
        have HT := Lib.hid fun w1 (hb : Below w.heap.size w w1) => tokens_at (n := 1) htold rfl w1 (maxed_on hM hb)
        have hE : ¬ s.toList = [] := by rw [Lib.toList_data]; exact hn
        have hE1 : s.toList.isEmpty = false := by simpa using hE
        clear htold hn hM
        go_enter Tryd.func4, Tryd.ntmps4
        go_big_wp2_with (first
          | (go_at_call 11; refine HH.out.mono ?_; rintro e w1 ⟨rfl, hb1⟩; have HB1 := Lib.hid hb1; clear hb1)
          | (go_at_call 8; refine (HT.out _ HB1.out).mono ?_; rintro e w2 ⟨ao, cap, L, rfl, hb2, _, hr, hL⟩; have HB2 := Lib.hid (HB1.out.trans (hb2.mono HB1.out.size)); obtain ⟨u, rfl⟩ := map_one hL; obtain ⟨g, rfl, a0, a1, a2, a3, a4⟩ := hr.at_ 0 _ rfl; have a5 : w2.cell? ⟨g, 0 * 5 + 4, none⟩ = some (.string s) := a4; clear hb2 hr hL a4)
          | (go_at_call 7; refine (HW.out _ HB2.out).mono ?_; rintro e w3 ⟨rfl, hb3⟩))
        go_ret
        exact ⟨rfl, HB2.out.trans (hb3.mono HB2.out.size)⟩
end Go.Proofs.YtegpjojfmainoaaDoor
