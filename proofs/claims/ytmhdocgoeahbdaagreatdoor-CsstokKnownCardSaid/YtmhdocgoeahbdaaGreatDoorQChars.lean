/-
  The characters of a text, line ends made one sign: package csstok. Conditions: the library's two tables hold what its text lays; texts are no longer than 2^30 bytes.
-/
import Derived.Test.YtmhdocgoeahbdaaGreatDoorQTake6
import Derived.Test.YtmhdocgoeahbdaaGreatDoorUTabs
namespace Go.CssKit
open Go Go.Lib Go.UtfKit
/-- The characters as they are told. -/
def codes (s : ByteArray) : Chars := (parts s).map fun p => ((p.char : Nat) : Int)
def charsOf (s : ByteArray) : Chars := charsL false (codes s)
theorem partsF_len (s : ByteArray) : ∀ (f i : Nat), (partsF s f i).length ≤ f
  | 0, _ => Nat.le_refl _
  | f + 1, i => by
    unfold partsF
    split
    · have := partsF_len s f (i + (cutAt s i).len)
      simp; omega
    · simp
theorem codes_len (s : ByteArray) : (codes s).length ≤ s.size := by
  have := partsF_len s (s.size - 0) 0
  unfold codes
  rw [List.length_map]
  exact this
theorem charsL_len : ∀ (b : Bool) (l : Chars), (charsL b l).length ≤ l.length
  | _, [] => Nat.le_refl _
  | b, r :: t => by
    have h1 := charsL_len false t
    have h2 := charsL_len true t
    unfold charsL
    repeat' split
    all_goals simp only [List.length_cons]; omega
theorem cut_char {s : ByteArray} {j : Nat} : (cutAt s j).char < 55296 ∨ (57343 < (cutAt s j).char ∧ (cutAt s j).char ≤ 1114111) := by
  cases ho : (cutAt s j).ok with
  | true =>
    have hv := decodeN_valid (s.size - j) (byteAt s j) (byteAt s (j + 1)) (byteAt s (j + 2)) (byteAt s (j + 3)) (byteAt_lt _ _)
    rw [decode_cut _ _ _ _ _ (byteAt_lt _ _) (byteAt_lt _ _) (byteAt_lt _ _) (byteAt_lt _ _)] at hv
    change (if (cutAt s j).ok = true then ((cutAt s j).char, (cutAt s j).len) else (65533, 1)).1 < 55296 ∨ (57343 < (if (cutAt s j).ok = true then ((cutAt s j).char, (cutAt s j).len) else (65533, 1)).1 ∧ (if (cutAt s j).ok = true then ((cutAt s j).char, (cutAt s j).len) else (65533, 1)).1 ≤ 1114111) at hv
    rw [ho] at hv
    simpa using hv
  | false =>
    have := cut_char_bad _ _ _ _ _ ho
    have e : (cutAt s j).char = 65533 := this
    rw [e]; omega
theorem partsF_char (s : ByteArray) : ∀ (f i : Nat) (p : Part), p ∈ partsF s f i → p.char < 55296 ∨ (57343 < p.char ∧ p.char ≤ 1114111)
  | 0, _, p, h => by cases h
  | f + 1, i, p, h => by
    unfold partsF at h
    split at h
    · rcases List.mem_cons.1 h with rfl | h
      · exact cut_char
      · exact partsF_char s f _ p h
    · cases h
theorem codes_char {s : ByteArray} {z : Int} (h : z ∈ codes s) : 0 ≤ z ∧ (z < 55296 ∨ (57343 < z ∧ z ≤ 1114111)) := by
  unfold codes at h
  obtain ⟨p, hp, rfl⟩ := List.mem_map.1 h
  have := partsF_char s _ _ p hp
  omega
end Go.CssKit
namespace Go.Proofs.YtmhdocgoeahbdaaGreatDoor
open Go.RowKit Go.RunKit Go.UtfKit Go.Lib Go.CssKit

theorem charsL_ok : ∀ (b : Bool) (l : Chars), (∀ z, z ∈ l → 0 ≤ z ∧ (z < 55296 ∨ (57343 < z ∧ z ≤ 1114111))) → ∀ z, z ∈ charsL b l → okC z
  | _, [], _, z, hz => by cases hz
  | b, r :: t, h, z, hz => by
    have h1 := charsL_ok false t (fun x hx => h x (by simp [hx]))
    have h2 := charsL_ok true t (fun x hx => h x (by simp [hx]))
    have hr := h r (by simp)
    unfold charsL at hz
    split at hz
    · exact h1 z hz
    · split at hz
      · rcases List.mem_cons.1 hz with rfl | hz
        · unfold okC; omega
        · exact h2 z hz
      · split at hz
        · rcases List.mem_cons.1 hz with rfl | hz
          · unfold okC; omega
          · exact h1 z hz
        · split at hz
          · rcases List.mem_cons.1 hz with rfl | hz
            · unfold okC; omega
            · exact h1 z hz
          · rcases List.mem_cons.1 hz with rfl | hz
            · unfold okC; omega
            · exact h1 z hz
theorem charCells_codes (s : ByteArray) : U.charCells (parts s) = intC (codes s) := by unfold U.charCells intC codes; rw [List.map_map]; rfl
/-- One more character in a row of one's own, nothing else touched. -/
theorem charStep {w1 wr W1 : World} {B n' cap cap' : Nat} {a a' : Option Addr} {out : Chars} {z : Int} (h : OwnC wr B (.slice a out.length cap) out) (hb : Below B w1 wr) (hB : w1.heap.size = B)
    (hown : W1.ownsRow B 21 1 (.slice a' n' cap') (out.length + 1) (intC out ++ [.int .i32 z]))
    (hg : (wr.alloc (.cells #[.int .i32 z] 21)).grownBy W1 (Value.slice a out.length cap).ownBlock) : OwnC W1 B (.slice a' n' cap') (out ++ [z]) ∧ Below B w1 W1 := by
  refine ⟨?_, ?_⟩
  · unfold OwnC
    rw [intC_snoc, List.length_append]
    exact hown
  · have hs := hb.size
    exact (hb.alloc (by omega) _).grown hg (by simp; omega) (fun k hk => by have := (World.ownsRow.lt h k hk).1; omega)

set_option maxRecDepth 100000 in
set_option maxHeartbeats 8000000 in
theorem characters7_any (s : ByteArray) (w : World) (ht : U.Tabs w) (hsz : s.size ≤ 1073741824) :
    Calls Tryz.prog 18 #[.string s] w fun e w' => ∃ a cap, e = .returned (.slice a (charsOf s).length cap) ∧ OwnC w' w.heap.size (.slice a (charsOf s).length cap) (charsOf s) ∧ Below w.heap.size w w' := by
  obtain ⟨i0, hi, hz0, hz1, hz2⟩ := info_parts U.Tryz.infoInt32
  have HR := Lib.hid (U.runes_any s w ht (by omega))
  have hcl := codes_len s
  obtain ⟨ans, hans⟩ : ∃ x, charsOf s = x := ⟨_, rfl⟩
  have D0 : Hid (([] : Chars) ++ charsL false ((codes s).drop 0) = ans) := Lib.hid (by rw [List.drop_zero]; exact hans)
  rw [hans]
  have HEl := Lib.hid (charCells_codes s)
  obtain ⟨cs, hcs⟩ : ∃ x, codes s = x := ⟨_, rfl⟩
  have hpl : (parts s).length = cs.length := by rw [← hcs]; unfold codes; rw [List.length_map]
  rw [hcs] at D0 hcl HEl
  rw [hpl, HEl.out] at HR
  have HLen := Lib.hid hcl
  clear ht hans hcs hpl HEl
  go_enter Tryz.func18, Tryz.ntmps18
  go_wp2_with (go_at_call 33; refine HR.out.mono ?_; rintro e w1 ⟨v, rfl, hown, hb⟩; obtain ⟨ao, acap, hsl, hna, hra⟩ := OwnC.slice (l := cs) hown; subst hsl; have HW1 := Lib.hid (And.intro hown (And.intro hb (And.intro hna hra))); clear hown hb hna hra)
  obtain ⟨B, hB⟩ : ∃ n, w1.heap.size = n := ⟨_, rfl⟩
  have HBs := Lib.hid hB
  have N0 : Hid (OwnC w1 B (.slice none 0 0) [] ∧ Below B w1 w1) := Lib.hid ⟨OwnC.nil _ _, by rw [← hB]; exact Below.refl _ _⟩
  clear hB HR
  go_loopw [3, 4, 11] (fun v r i wr => ∃ (k : Nat) (a : Option Addr) (n cap : Nat) (ret : Bool) (out : Chars), v = .slice a n cap ∧ r = .bool ret ∧ i = .int .i64 ((k : Nat) : Int) ∧ k ≤ cs.length ∧ n = out.length ∧ n ≤ k ∧ Hid (OwnC wr B (.slice a n cap) out ∧ Below B w1 wr) ∧ Hid (out ++ charsL ret (cs.drop k) = ans)) (fun _ _ i _ => cs.length - (RowKit.intOf i).toNat)
  case atStart => exact ⟨0, none, 0, 0, false, [], rfl, rfl, rfl, Nat.zero_le _, rfl, Nat.le_refl _, N0, D0⟩
  case round =>
    clear N0 D0
    obtain ⟨k, a, n, cap, ret, out, rfl, rfl, rfl, hk, rfl, hnk, HN, HD⟩ := hrel
    have HBel := Lib.hid (show Below w1.heap.size w1 wr by rw [HBs.out]; exact HN.out.2)
    by_cases hlt : k < cs.length
    · obtain ⟨z, hz⟩ := some_at (l := cs) rfl hlt
      have hd : cs.drop k = z :: cs.drop (k + 1) := by rw [List.drop_eq_getElem_cons hlt]; rw [List.getElem?_eq_getElem hlt] at hz; cases hz; rfl
      have hst := HD.out
      rw [hd, charsL] at hst
      cases hao : ao with
      | none => have := HW1.out.2.2.1 hao; rw [this] at hlt; simp at hlt
      | some ad =>
      subst hao
      obtain ⟨g, o, rfl, hra⟩ := HW1.out.2.2.2 ad rfl
      have hcell : wr.cell? ⟨g, o + k, none⟩ = some (.int .i32 z) := by
        rw [HBel.out.cell (World.block_lt_of_cell? _ _ (hra k z hz))]; exact hra k z hz
      have hltI : (k : Int) < cs.length := by omega
      clear hra hz hd
      by_cases hp : ret = true ∧ z = 10
      · obtain ⟨rfl, rfl⟩ := hp
        rw [if_pos ⟨rfl, rfl⟩] at hst
        have HS := Lib.hid hst
        clear HD hk hst
        go_wp2
        exact ⟨⟨k + 1, a, _, cap, false, out, rfl, rfl, by go_num, by omega, rfl, by omega, HN, HS⟩, by simp [RowKit.intOf]; omega⟩
      rw [if_neg hp] at hst
      by_cases h13 : z = 13
      · rw [if_pos h13] at hst
        have HS : Hid ((out ++ [10]) ++ charsL true (cs.drop (k + 1)) = ans) := Lib.hid (by rw [List.append_assoc]; exact hst)
        subst h13
        clear hst hp
        cases ret
        all_goals
          skip
          have HO := Lib.hid (World.ownsRow.alloc HN.out.1 (.cells #[.int .i32 10] 21))
          clear HD hk
          go_wp2_with (at_builtin; refine wpList_append_own _ rfl _ _ 41 rfl B 21 i0 _ 1 4 U.Tryz.underRunes hi hz0 hz1 hz2 rfl (by decide) _ out.length (intC out) rfl HO.out ⟨wr.heap.size, 0, none⟩ 1 1 [.int .i32 10] rfl ?c1 ?c2 ?c3 ?c4 ?c5 ?c6 ?_)
          case c1 => rfl
          case c2 =>
            intro j u hu
            cases j with
            | zero => simpa [go_sem] using hu
            | succ j => simp at hu
          case c3 => intro u hu; simp at hu; subst hu; rfl
          case c4 => unfold maxLen; omega
          case c5 => omega
          case c6 => have := HN.out.2.size; have := HBs.out; simp; omega
          intro v' W hown' hgrow _
          obtain ⟨a1, cap1, hvs1⟩ := U.slice_of hown'
          subst hvs1
          have HN2 := Lib.hid (charStep HN.out.1 HN.out.2 HBs.out hown' hgrow)
          clear hown' hgrow HO
          go_wp2
          exact ⟨⟨k + 1, a1, _, cap1, true, out ++ [10], rfl, rfl, by go_num, by omega, by simp, by omega, HN2, HS⟩, by simp [RowKit.intOf]; omega⟩
      rw [if_neg h13] at hst
      have b13 : (z == 13) = false := by rw [beq_eq_false_iff_ne]; exact h13
      by_cases h12 : z = 12
      · rw [if_pos h12] at hst
        have HS : Hid ((out ++ [10]) ++ charsL false (cs.drop (k + 1)) = ans) := Lib.hid (by rw [List.append_assoc]; exact hst)
        subst h12
        clear hst hp
        cases ret
        all_goals
          skip
          have HO := Lib.hid (World.ownsRow.alloc HN.out.1 (.cells #[.int .i32 10] 21))
          clear HD hk
          go_wp2_with (at_builtin; refine wpList_append_own _ rfl _ _ 41 rfl B 21 i0 _ 1 4 U.Tryz.underRunes hi hz0 hz1 hz2 rfl (by decide) _ out.length (intC out) rfl HO.out ⟨wr.heap.size, 0, none⟩ 1 1 [.int .i32 10] rfl ?c1 ?c2 ?c3 ?c4 ?c5 ?c6 ?_)
          case c1 => rfl
          case c2 =>
            intro j u hu
            cases j with
            | zero => simpa [go_sem] using hu
            | succ j => simp at hu
          case c3 => intro u hu; simp at hu; subst hu; rfl
          case c4 => unfold maxLen; omega
          case c5 => omega
          case c6 => have := HN.out.2.size; have := HBs.out; simp; omega
          intro v' W hown' hgrow _
          obtain ⟨a1, cap1, hvs1⟩ := U.slice_of hown'
          subst hvs1
          have HN2 := Lib.hid (charStep HN.out.1 HN.out.2 HBs.out hown' hgrow)
          clear hown' hgrow HO
          go_wp2
          exact ⟨⟨k + 1, a1, _, cap1, false, out ++ [10], rfl, rfl, by go_num, by omega, by simp, by omega, HN2, HS⟩, by simp [RowKit.intOf]; omega⟩
      rw [if_neg h12] at hst
      have b12 : (z == 12) = false := by rw [beq_eq_false_iff_ne]; exact h12
      by_cases h0 : z = 0
      · rw [if_pos h0] at hst
        have HS : Hid ((out ++ [65533]) ++ charsL false (cs.drop (k + 1)) = ans) := Lib.hid (by rw [List.append_assoc]; exact hst)
        subst h0
        clear hst hp
        cases ret
        all_goals
          skip
          have HO := Lib.hid (World.ownsRow.alloc HN.out.1 (.cells #[.int .i32 65533] 21))
          clear HD hk
          go_wp2_with (at_builtin; refine wpList_append_own _ rfl _ _ 41 rfl B 21 i0 _ 1 4 U.Tryz.underRunes hi hz0 hz1 hz2 rfl (by decide) _ out.length (intC out) rfl HO.out ⟨wr.heap.size, 0, none⟩ 1 1 [.int .i32 65533] rfl ?c1 ?c2 ?c3 ?c4 ?c5 ?c6 ?_)
          case c1 => rfl
          case c2 =>
            intro j u hu
            cases j with
            | zero => simpa [go_sem] using hu
            | succ j => simp at hu
          case c3 => intro u hu; simp at hu; subst hu; rfl
          case c4 => unfold maxLen; omega
          case c5 => omega
          case c6 => have := HN.out.2.size; have := HBs.out; simp; omega
          intro v' W hown' hgrow _
          obtain ⟨a1, cap1, hvs1⟩ := U.slice_of hown'
          subst hvs1
          have HN2 := Lib.hid (charStep HN.out.1 HN.out.2 HBs.out hown' hgrow)
          clear hown' hgrow HO
          go_wp2
          exact ⟨⟨k + 1, a1, _, cap1, false, out ++ [65533], rfl, rfl, by go_num, by omega, by simp, by omega, HN2, HS⟩, by simp [RowKit.intOf]; omega⟩
      rw [if_neg h0] at hst
      have b0 : (z == 0) = false := by rw [beq_eq_false_iff_ne]; exact h0
      have HS : Hid ((out ++ [z]) ++ charsL false (cs.drop (k + 1)) = ans) := Lib.hid (by rw [List.append_assoc]; exact hst)
      have hpb : ret = true → (z == 10) = false := fun e => by rw [beq_eq_false_iff_ne]; exact fun e2 => hp ⟨e, e2⟩
      clear hst hp
      cases ret
      · clear hpb
        skip
        have HO := Lib.hid (World.ownsRow.alloc HN.out.1 (.cells #[.int .i32 z] 21))
        clear HD hk
        go_wp2_with (at_builtin; refine wpList_append_own _ rfl _ _ 41 rfl B 21 i0 _ 1 4 U.Tryz.underRunes hi hz0 hz1 hz2 rfl (by decide) _ out.length (intC out) rfl HO.out ⟨wr.heap.size, 0, none⟩ 1 1 [.int .i32 z] rfl ?c1 ?c2 ?c3 ?c4 ?c5 ?c6 ?_)
        case c1 => rfl
        case c2 =>
          intro j u hu
          cases j with
          | zero => simpa [go_sem] using hu
          | succ j => simp at hu
        case c3 => intro u hu; simp at hu; subst hu; rfl
        case c4 => unfold maxLen; omega
        case c5 => omega
        case c6 => have := HN.out.2.size; have := HBs.out; simp; omega
        intro v' W hown' hgrow _
        obtain ⟨a1, cap1, hvs1⟩ := U.slice_of hown'
        subst hvs1
        have HN2 := Lib.hid (charStep HN.out.1 HN.out.2 HBs.out hown' hgrow)
        clear hown' hgrow HO
        go_wp2
        exact ⟨⟨k + 1, a1, _, cap1, false, out ++ [z], rfl, rfl, by go_num, by omega, by simp, by omega, HN2, HS⟩, by simp [RowKit.intOf]; omega⟩
      · have b10 := hpb rfl
        clear hpb
        skip
        have HO := Lib.hid (World.ownsRow.alloc HN.out.1 (.cells #[.int .i32 z] 21))
        clear HD hk
        go_wp2_with (at_builtin; refine wpList_append_own _ rfl _ _ 41 rfl B 21 i0 _ 1 4 U.Tryz.underRunes hi hz0 hz1 hz2 rfl (by decide) _ out.length (intC out) rfl HO.out ⟨wr.heap.size, 0, none⟩ 1 1 [.int .i32 z] rfl ?c1 ?c2 ?c3 ?c4 ?c5 ?c6 ?_)
        case c1 => rfl
        case c2 =>
          intro j u hu
          cases j with
          | zero => simpa [go_sem] using hu
          | succ j => simp at hu
        case c3 => intro u hu; simp at hu; subst hu; rfl
        case c4 => unfold maxLen; omega
        case c5 => omega
        case c6 => have := HN.out.2.size; have := HBs.out; simp; omega
        intro v' W hown' hgrow _
        obtain ⟨a1, cap1, hvs1⟩ := U.slice_of hown'
        subst hvs1
        have HN2 := Lib.hid (charStep HN.out.1 HN.out.2 HBs.out hown' hgrow)
        clear hown' hgrow HO
        go_wp2
        exact ⟨⟨k + 1, a1, _, cap1, false, out ++ [z], rfl, rfl, by go_num, by omega, by simp, by omega, HN2, HS⟩, by simp [RowKit.intOf]; omega⟩
    · have hkl : k = cs.length := by omega
      subst hkl
      have hst := HD.out
      rw [List.drop_length, charsL, List.append_nil] at hst
      subst hst
      go_wp2
      go_ret
      exact ⟨a, cap, rfl, ⟨HN.out.1.1, by
        rcases HN.out.1.2 with h | ⟨g, c, cur, e1, e2, e3⟩
        · exact .inl h
        · exact .inr ⟨g, c, cur, e1, by have := HW1.out.2.1.size; have := HBs.out; omega, e3⟩⟩, HW1.out.2.1.trans (HBel.out.mono HW1.out.2.1.size)⟩
end Go.Proofs.YtmhdocgoeahbdaaGreatDoor
