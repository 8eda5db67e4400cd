/-
  PACKS: TAny TByte TSmall TRead TAttr TAttr2 TJoin TTag TOne TOne2 TOne3 TNext TToks
  strings.IndexAny and ContainsAny at some few ASCII bytes, whatever the text. Conditions: the bytes looked for are ASCII, two or more; the text is shorter than 2^32.
  Functions of package token that read bytes alone: isLetter, isDigit, isMark, isWord, small. Conditions: texts are no longer than 2^40 bytes.
  small and isWord of package token. Conditions: texts are no longer than 2^40 bytes.
  The reader of package token, step by step: take, takeUpTo, leaveOutBlanks, took, quoted. Conditions: texts are no longer than 2^31 bytes.
  The reader of package token: a value, an attribute. Conditions: texts are no longer than 2^31 bytes.
  The reader of package token: an attribute. Conditions: texts are no longer than 2^31 bytes.
  mayJoin of package token: may one attribute more stand behind some. Conditions: the attributes stand in a row; fewer than 2^31.
  The reader of package token: a tag. Conditions: texts are no longer than 2^31 bytes.
  The reader of package token: what reads each token. Conditions: texts are no longer than 2^31 bytes.
  The reader of package token: texts, comments, the doctype, end tags. Conditions: texts are no longer than 2^31 bytes.
  The reader of package token: the doctype, end tags; what reads next. Conditions: texts are no longer than 2^31 bytes.
  The reader of package token: what reads next. Conditions: texts are no longer than 2^31 bytes.
  Tokens of package token: it tells what the document says. Conditions: the library's variable MaxLen holds a number.
-/
import Derived.Test.YtkfmfldkllkcbaaGreatDoorPKC
import Derived.Laws.RangeAny
import Derived.WalkMore
import Derived.Shelf.Strings.SlTrimAscii
import Derived.Test.YtkfmfldkllkcbaaGreatDoorTMath
import Derived.Laws.IdiomStrings
import Derived.Sort.AtCall
import Derived.Laws.ResultCell
import Derived.Laws.Rows
import Derived.Shelf.Abstract
import Derived.Laws.OwnMore
import Derived.Maps.AppendAt
namespace Go.Proofs.YtkfmfldkllkcbaaGreatDoor
open Go.RowKit Go.RunKit Go.CharrefKit Go.Lib

def AllAscii (s : ByteArray) : Prop := ∀ (j : Nat) b, s.data.toList[j]? = some b → b.toNat < 128
/-- A byte of 128 and more is none of them. -/
theorem ib_high {s : ByteArray} (h : AllAscii s) (j : Nat) {c : UInt8} (hc : 128 ≤ c.toNat) : Lib.indexByte (s.extract j s.size).data.toList c = -1 := by
  have e : (s.extract j s.size).data.toList = s.data.toList.drop j := bl_drop s j
  rw [e]
  cases hx : Lib.indexByte (s.data.toList.drop j) c == -1 with
  | true => simpa using hx
  | false =>
    have hx : Lib.indexByte (s.data.toList.drop j) c ≠ -1 := by simpa using hx
    have hg := Lib.indexByte_ge (s.data.toList.drop j) c
    obtain ⟨x, y, e2, _, _⟩ := ib_some (c := c) (l := s.data.toList.drop j) (p := (Lib.indexByte (s.data.toList.drop j) c).toNat) (by omega)
    have hm : c ∈ s.data.toList.drop j := by rw [e2]; simp
    obtain ⟨k, hk⟩ := List.mem_iff_getElem?.1 (List.mem_of_mem_drop hm)
    have := h k c hk
    omega
theorem encode_high {n : Nat} (h : 128 ≤ n) : ∃ rs : ByteArray, Utf8.encode ((n : Nat) : Int) = rs ∧ 2 ≤ rs.size ∧ rs.size ≤ 4 ∧ ∀ (j : Nat) (hj : j < rs.size), 128 ≤ (rs[j]'hj).toNat := by
  refine ⟨_, rfl, ?_⟩
  have hall : ∀ c : Nat, 128 ≤ c → c ≤ 1114111 → ∀ r : ByteArray, r = (if c < 0x80 then ⟨#[UInt8.ofNat c]⟩
      else if c < 0x800 then ⟨#[UInt8.ofNat (0xC0 + c / 64), UInt8.ofNat (0x80 + c % 64)]⟩
      else if c < 0x10000 then ⟨#[UInt8.ofNat (0xE0 + c / 4096), UInt8.ofNat (0x80 + c / 64 % 64), UInt8.ofNat (0x80 + c % 64)]⟩
      else ⟨#[UInt8.ofNat (0xF0 + c / 262144), UInt8.ofNat (0x80 + c / 4096 % 64), UInt8.ofNat (0x80 + c / 64 % 64), UInt8.ofNat (0x80 + c % 64)]⟩) →
      2 ≤ r.size ∧ r.size ≤ 4 ∧ ∀ (j : Nat) (hj : j < r.size), 128 ≤ (r[j]'hj).toNat := by
    intro c h1 h2 r hr
    rw [if_neg (by omega)] at hr
    have key : ∀ m : Nat, 128 ≤ m → m < 256 → 128 ≤ (UInt8.ofNat m).toNat := fun m h1 h2 => by
      rw [UInt8.toNat_ofNat']; omega
    split at hr
    · subst hr
      refine ⟨Nat.le_refl 2, (by decide : 2 ≤ 4), fun j hj => ?_⟩
      have hj : j < 2 := hj
      rcases (by omega : j = 0 ∨ j = 1) with rfl | rfl
      · exact key _ (by omega) (by omega)
      · exact key _ (by omega) (by omega)
    · split at hr
      · subst hr
        refine ⟨(by decide : 2 ≤ 3), (by decide : 3 ≤ 4), fun j hj => ?_⟩
        have hj : j < 3 := hj
        rcases (by omega : j = 0 ∨ j = 1 ∨ j = 2) with rfl | rfl | rfl
        · exact key _ (by omega) (by omega)
        · exact key _ (by omega) (by omega)
        · exact key _ (by omega) (by omega)
      · subst hr
        refine ⟨(by decide : 2 ≤ 4), Nat.le_refl 4, fun j hj => ?_⟩
        have hj : j < 4 := hj
        rcases (by omega : j = 0 ∨ j = 1 ∨ j = 2 ∨ j = 3) with rfl | rfl | rfl | rfl
        · exact key _ (by omega) (by omega)
        · exact key _ (by omega) (by omega)
        · exact key _ (by omega) (by omega)
        · exact key _ (by omega) (by omega)
  unfold Utf8.encode
  simp only
  by_cases hv : Utf8.valid (n : Int) = true
  · rw [if_pos hv, Int.toNat_natCast]
    have hle : n ≤ 1114111 := by
      simp only [Utf8.valid, Bool.or_eq_true, Bool.and_eq_true, decide_eq_true_eq] at hv
      omega
    exact hall n h hle _ rfl
  · rw [if_neg hv]
    exact hall Utf8.runeError (by decide) (by decide) _ rfl

set_option maxRecDepth 100000 in
set_option maxHeartbeats 400000 in
theorem indexRune_err (s : ByteArray) (hs : AllAscii s) (w : World) :
    Calls Tryz.prog 210 #[.string s, .int .i32 65533] w fun e w' => e = .returned (.int .i64 (-1)) ∧ Below w.heap.size w w' := by
  have hA := Lib.hid hs
  clear hs
  go_enter Tryz.func210, Tryz.ntmps210
  go_wp2
  go_loopg [5] s.size (fun g _ wx => ∃ i : Nat, i + g = s.size ∧ wx = w.iter s i)
  case atStart => exact ⟨0, by omega, rfl⟩
  case round =>
    obtain ⟨i, hig, rfl⟩ := hrel
    cases gk with
    | zero =>
      obtain rfl : i = s.size := by omega
      have hnx := run_next_end (P := Tryz.prog) w s s.size
      go_wp2
      go_ret
      exact ⟨rfl, (Below.refl _ _).alloc (Nat.le_refl _) _⟩
    | succ g =>
      have hi : i < s.size := by omega
      obtain ⟨x, hx⟩ : ∃ x : UInt8, s[i]'hi = x := ⟨_, rfl⟩
      have hxl : s.data.toList[i]? = some x := by rw [← hx]; exact Lib.data_getElem? s i hi
      have hx128 : x.toNat < 128 := hA.out i x hxl
      have hnx := fun ty => run_next_ascii (P := Tryz.prog) w s i ty hi (by rw [hx]; exact hx128)
      rw [hx] at hnx
      clear hxl hx
      have hne : ¬ ((x.toNat : Int) = 65533) := by omega
      have hne2 : ((x.toNat : Int) == 65533) = false := beq_eq_false_iff_ne.2 hne
      go_wp2
      go_roundg g
      case measure => omega
      case rel => exact ⟨i + 1, by omega, rfl⟩

set_option maxRecDepth 100000 in
set_option maxHeartbeats 400000 in
theorem indexRune_bad (s : ByteArray) (n : Nat) (h128 : 128 ≤ n) (hne : n ≠ 65533) (hv : Lib.validRune (n : Int) = false) (w : World) :
    Calls Tryz.prog 210 #[.string s, .int .i32 n] w fun e w' => e = .returned (.int .i64 (-1)) ∧ Below w.heap.size w w' := by
  have hge : ¬ ((n : Int) < 128) := by omega
  have hn1 : ¬ ((n : Int) = 65533) := by omega
  have hn2 : ((n : Int) == 65533) = false := beq_eq_false_iff_ne.2 hn1
  go_enter Tryz.func210, Tryz.ntmps210
  go_wp2_with (go_at_call 222; refine (Tryz.utf8_ValidRune _ _).mono ?_; rintro e w' ⟨rfl, rfl⟩)
  go_ret
  exact ⟨rfl, Below.refl _ _⟩
set_option maxRecDepth 100000 in
set_option maxHeartbeats 400000 in
theorem indexRune_ok (s : ByteArray) (hs : AllAscii s) (n : Nat) (h128 : 128 ≤ n) (hne : n ≠ 65533) (hv : Lib.validRune (n : Int) = true) (w : World) :
    Calls Tryz.prog 210 #[.string s, .int .i32 n] w fun e w' => e = .returned (.int .i64 (-1)) ∧ Below w.heap.size w w' := by
  have hge : ¬ ((n : Int) < 128) := by omega
  have hn1 : ¬ ((n : Int) = 65533) := by omega
  have hn2 : ((n : Int) == 65533) = false := beq_eq_false_iff_ne.2 hn1
  go_enter Tryz.func210, Tryz.ntmps210
  go_wp2_with (go_at_call 222; refine (Tryz.utf8_ValidRune _ _).mono ?_; rintro e w' ⟨rfl, rfl⟩)
  go_step3
  go_wp2
  obtain ⟨rs, hrs, h2, h4, hb⟩ := encode_high h128
  rw [hrs]
  obtain ⟨k, hk⟩ : ∃ k, rs.size = k + 1 := ⟨rs.size - 1, by omega⟩
  have hw1 : wrap64 ((rs.size : Int) - 1) = (k : Int) := by rw [hk]; simp [wrap64]; omega
  rw [hw1]
  have hkr : k < rs.size := by omega
  obtain ⟨c, hc⟩ : ∃ c : UInt8, rs[k]'hkr = c := ⟨_, rfl⟩
  have hc128 : 128 ≤ c.toNat := by rw [← hc]; exact hb k hkr
  have hib := ib_high hs (k + 1) hc128
  have HC : Hid (∀ W, Calls Tryz.prog 82 #[.string (s.extract (k + 1) s.size), .int .u8 c.toNat] W fun e w'' => e = .returned (.int .i64 (-1)) ∧ w'' = W) :=
    Lib.hid fun W => (Tryz.strings_IndexByte (s.extract (k + 1) s.size) (c.toNat : Int) W).mono fun e w1 ⟨h1, h2⟩ => ⟨by rw [h1, show ((c.toNat : Int)).toNat.toUInt8 = c by simp, hib], h2⟩
  clear hib
  have HA := Lib.hid hs
  clear hrs hw1 hb hs
  go_loop [9] (fun v => v = .int .i64 (k : Int)) (fun _ => 0)
  case atStart => rfl
  case round =>
    subst hrel
    by_cases hks : k < s.size
    · have hksI : (k : Int) < (s.size : Int) := by omega
      obtain ⟨x, hx⟩ : ∃ x : UInt8, s[k]'hks = x := ⟨_, rfl⟩
      have hx128 : x.toNat < 128 := HA.out k x (by rw [← hx]; exact Lib.data_getElem? s k hks)
      have hne3 : ¬ ((x.toNat : Int) = (c.toNat : Int)) := by omega
      have hne4 : ((x.toNat : Int) == (c.toNat : Int)) = false := beq_eq_false_iff_ne.2 hne3
      have hne5 : ((x.toNat : Int) != (c.toNat : Int)) = true := by simp [bne, hne4]
      go_wp2
      go_step3
      have hks2 : (k : Int) + 1 ≤ (s.size : Int) := by omega
      have hks3 : k + 1 ≤ s.size := by omega
      go_wp2
      go_quiet (fail)
      go_wp2
      go_quiet ((go_at_call 82; exact (HC.out _).mono fun e w1 ⟨h1, h2⟩ => ⟨h1, _, h2⟩))
      go_wp2
      rw [Exit.noGoto_ret]
      simp only [Exit.inBlock]
      simp +zetaDelta only [Exit.inBlock, Exit.then, Exit.noGoto_ret]
      go_ret
      exact ⟨rfl, below_drewN (Below.refl _ _) _⟩
    · have hksI : ¬ ((k : Int) < (s.size : Int)) := by omega
      go_wp2
      go_ret
      exact ⟨rfl, Below.refl _ _⟩

theorem indexRune_any (s : ByteArray) (hs : AllAscii s) (n : Nat) (h128 : 128 ≤ n) (w : World) :
    Calls Tryz.prog 210 #[.string s, .int .i32 n] w fun e w' => e = .returned (.int .i64 (-1)) ∧ Below w.heap.size w w' := by
  by_cases hne : n = 65533
  · subst hne; exact indexRune_err s hs w
  · cases hv : Lib.validRune (n : Int) with
    | false => exact indexRune_bad s n h128 hne hv w
    | true => exact indexRune_ok s hs n h128 hne hv w

/-- What a character of 128 and more takes has no ASCII byte in it. -/
theorem decode_bytes (s : ByteArray) (pos : Nat) (h : pos < s.size) (ha : 128 ≤ (s[pos]'h).toNat) (j : Nat) (hj : j < (Utf8.decode s pos).2) : ∀ b, s.data.toList[pos + j]? = some b → 128 ≤ b.toNat := by
  intro b hb
  have hlt : pos + j < s.size := by
    have := (List.getElem?_eq_some_iff.1 hb).1
    simpa using this
  have e : (s.get! (pos + j)) = b := by
    have h1 : s.get! (pos + j) = s[pos + j]'hlt := get_at s (pos + j) hlt
    rw [h1]
    have h2 := Lib.data_getElem? s (pos + j) hlt
    rw [h2] at hb
    exact Option.some.inj hb
  rw [← e]
  have g0 : s.get! (pos + 0) = s[pos]'h := get_at s pos h
  have hn : ¬ (s[pos]'h).toNat < 128 := by omega
  have hj4 : j < 4 := by
    revert hj
    simp only [Utf8.decode]
    repeat' split
    all_goals (intro hj; simp only at hj; omega)
  revert hj
  simp only [Utf8.decode, g0, hn, if_false]
  rcases (by omega : j = 0 ∨ j = 1 ∨ j = 2 ∨ j = 3) with rfl | rfl | rfl | rfl
  · intro _; rw [g0]; exact ha
  all_goals
    repeat' split
    all_goals (intro hj; simp_all <;> omega)

theorem decode_fit (s : ByteArray) (i : Nat) (h : i < s.size) : i + (Utf8.decode s i).2 ≤ s.size := by
  simp only [Utf8.decode]
  repeat' split
  all_goals (simp_all <;> omega)
theorem NoAny.more {s chars : List UInt8} {i n : Nat} (h : NoAny s chars i) (hn : ∀ j, j < n → ∀ b, s[i + j]? = some b → chars.contains b = false) : NoAny s chars (i + n) := fun j b hj hb => by
  by_cases e : j < i
  · exact h j b e hb
  · obtain ⟨k, rfl⟩ : ∃ k, j = i + k := ⟨j - i, by omega⟩
    exact hn k (by omega) b hb

set_option maxRecDepth 100000 in
set_option maxHeartbeats 800000 in
theorem indexAny_short (s chars : ByteArray) (w : World) (h2 : 2 ≤ chars.size) (h8 : s.size ≤ 8) (hch : AllAscii chars) :
    Calls Tryz.prog 189 #[.string s, .string chars] w fun e w' => e = .returned (.int .i64 (Lib.indexAny (bl s) (bl chars))) ∧ Below w.heap.size w w' := by
  have hemp : chars.toList.isEmpty = false := by
    rw [Lib.toList_data]
    cases h : chars.data.toList with
    | nil => have := Lib.size_eq chars; rw [h, List.length_nil] at this; omega
    | cons _ _ => rfl
  have hn1 : ((chars.size : Int) == 1) = false := beq_eq_false_iff_ne.2 (by omega)
  have h8z : decide ((8 : Int) < (s.size : Int)) = false := decide_eq_false (by omega)
  have HA := Lib.hid hch
  clear hch
  go_enter Tryz.func189, Tryz.ntmps189
  go_wp2_with (go_at_call 211; refine (Tryz.strings_shouldUseASCIISet _ _).mono ?_; rintro e w' ⟨rfl, hw⟩; rw [hw, h8z]; clear hw)
  go_loopw [9, 10] (fun _ _ wx => ∃ i : Nat, i ≤ s.size ∧ wx.heap[w.heap.size]? = some (.stringIter s i) ∧ Below w.heap.size w wx ∧ Hid (NoAny (bl s) (bl chars) i)) (fun _ _ wx => s.size - wx.iterPos w.heap.size)
  case atStart => exact ⟨0, Nat.zero_le _, heap_alloc_new w _, (Below.refl _ _).alloc (Nat.le_refl _) _, Lib.hid (NoAny.zero _ _)⟩
  case round =>
    obtain ⟨i, his, hk, hb, HN⟩ := hrel
    have hpos : wr.iterPos w.heap.size = i := by simp only [World.iterPos, hk]
    have hlt : w.heap.size < wr.heap.size := (Array.getElem?_eq_some_iff.1 hk).1
    by_cases hi : i < s.size
    · obtain ⟨x, hx⟩ : ∃ x : UInt8, s[i]'hi = x := ⟨_, rfl⟩
      have hxl : (bl s)[i]? = some x := by rw [← hx]; exact Lib.data_getElem? s i hi
      by_cases hx128 : x.toNat < 128
      · have hnx := fun ty => run_next_ascii_at (P := Tryz.prog) wr w.heap.size s i ty hk hi (by rw [hx]; exact hx128)
        rw [hx] at hnx
        have hk' := iterAt_heap wr w.heap.size s i (i + 1) hk
        have hb' := below_iterAt hb (Nat.le_refl _) s (i + 1)
        obtain ⟨wi, hwi⟩ : ∃ wi, wr.iterAt w.heap.size s (i + 1) = wi := ⟨_, rfl⟩
        rw [hwi] at hnx hk' hb'
        have hcon := Lib.contains_iff_indexByte chars.data.toList x
        have hback : ((x.toNat : Int)).toNat.toUInt8 = x := by simp
        have HX := Lib.hid hxl
        have HP := Lib.hid hpos
        clear hk hb hxl hx hwi hlt hpos
        cases hin : chars.data.toList.contains x with
        | false =>
          rw [hin] at hcon
          have hneg : ¬ ((0 : Int) ≤ Lib.indexByte chars.data.toList x) := of_decide_eq_false hcon.symm
          clear hcon
          go_wp2_with (go_at_call 210; refine (Tryz.strings_IndexRune_ascii _ _ _ (by omega) (by omega)).mono ?_; rintro e w' ⟨rfl, hw⟩; rw [hw, hback]; clear hw)
          have hp2 : wi.iterPos w.heap.size = i + 1 := by simp only [World.iterPos, hk']
          exact ⟨⟨i + 1, by omega, hk', hb', Lib.hid (HN.out.succ HX.out hin)⟩, by rw [hp2, HP.out]; omega⟩
        | true =>
          rw [hin] at hcon
          have hge : (0 : Int) ≤ Lib.indexByte chars.data.toList x := of_decide_eq_true hcon.symm
          clear hcon
          go_wp2_with (go_at_call 210; refine (Tryz.strings_IndexRune_ascii _ _ _ (by omega) (by omega)).mono ?_; rintro e w' ⟨rfl, hw⟩; rw [hw, hback]; clear hw)
          go_ret
          exact ⟨by rw [show Lib.indexAny (bl s) (bl chars) = (i : Int) from Lib.indexAny_hit HN.out HX.out hin]; rfl, hb'⟩
      · have hhi : 128 ≤ (s[i]'hi).toNat := by rw [hx]; omega
        obtain ⟨hd1, hd2⟩ := decode_high s i hi hhi
        have hnx := fun ty => run_next_any_at (P := Tryz.prog) wr w.heap.size s i ty hk hi
        have hby := decode_bytes s i hi hhi
        obtain ⟨r, n, hrn⟩ : ∃ r n, Utf8.decode s i = (r, n) := ⟨_, _, rfl⟩
        have hdl := decode_le s i
        have hfit := decode_fit s i hi
        rw [hrn] at hfit hnx hd1 hd2 hby hdl
        simp only at hfit hnx hd1 hd2 hby hdl
        have hk' := iterAt_heap wr w.heap.size s i (i + n) hk
        have hb' := below_iterAt hb (Nat.le_refl _) s (i + n)
        have hlt' : w.heap.size < (wr.iterAt w.heap.size s (i + n)).heap.size := by rw [iterAt_size]; exact hlt
        obtain ⟨wi, hwi⟩ : ∃ wi, wr.iterAt w.heap.size s (i + n) = wi := ⟨_, rfl⟩
        rw [hwi] at hnx hk' hb' hlt'
        have HR := Lib.hid (indexRune_any chars HA.out r hd1)
        have HP := Lib.hid hpos
        have HNN : Hid (NoAny (bl s) (bl chars) (i + n)) := Lib.hid (NoAny.more HN.out fun j hj b hb => by
          have h128 := hby j hj b hb
          cases hc : (bl chars).contains b with
          | false => rfl
          | true =>
            obtain ⟨k, hk⟩ := List.mem_iff_getElem?.1 (List.contains_iff_mem.1 hc)
            have := HA.out k b hk
            omega)
        clear hk hb hxl hx hwi hlt hpos hrn hby hx128 hhi
        go_wp2_with (go_at_call 210; refine (HR.out _).mono ?_; rintro e w2 ⟨rfl, hw⟩)
        have hk2 : w2.heap[w.heap.size]? = some (.stringIter s (i + n)) := by rw [hw.block _ hlt']; exact hk'
        have hp2 : w2.iterPos w.heap.size = i + n := by simp only [World.iterPos, hk2]
        exact ⟨⟨i + n, by omega, hk2, hb'.trans (hw.mono hb'.size), HNN⟩, by rw [hp2, HP.out]; omega⟩
    · obtain rfl : i = s.size := by omega
      have hnx := fun ty => run_next_end_at (P := Tryz.prog) wr w.heap.size s s.size ty hk (by omega)
      go_wp2
      go_ret
      exact ⟨by rw [show Lib.indexAny (bl s) (bl chars) = -1 from Lib.indexAny_none (by rw [bl_length]; exact HN.out)]; rfl, hb⟩

/-- IndexAny at whatever text. -/
theorem indexAny_any (s chars : ByteArray) (w : World) (h2 : 2 ≤ chars.size) (hs : s.size < 4294967281) (hcs : chars.size < 4294967281) (hch : AllAscii chars) :
    Calls Tryz.prog 189 #[.string s, .string chars] w fun e w' => e = .returned (.int .i64 (Lib.indexAny (bl s) (bl chars))) ∧ Below w.heap.size w w' := by
  by_cases h8 : s.size ≤ 8
  · exact indexAny_short s chars w h2 h8 hch
  · have h116 : (Tryz.prog.info? (Tryz.lays153_ren.t 116)).map (fun i => (i.zero, i.size)) = some (some (.agg (Array.replicate 256 (.bool false))), 256) := by kernel_rfl
    refine (Any.strings_IndexAny_long Tryz.lays153 (zero_of_info h116).1 (zero_of_info h116).2 s chars w h2 (by omega) hs hcs hch).mono fun e w' ⟨h1, h2⟩ => ⟨h1, ?_⟩
    rw [h2]
    exact ((Below.refl _ _).alloc (Nat.le_refl _) _).alloc (by simp) _
set_option maxRecDepth 100000 in
set_option maxHeartbeats 400000 in
theorem containsAny_any (s chars : ByteArray) (w : World) (h2 : 2 ≤ chars.size) (hs : s.size < 4294967281) (hcs : chars.size < 4294967281) (hch : AllAscii chars) :
    Calls Tryz.prog 214 #[.string s, .string chars] w fun e w' => e = .returned (.bool (Lib.containsAny (bl s) (bl chars))) ∧ Below w.heap.size w w' := by
  have HC := Lib.hid (indexAny_any s chars w h2 hs hcs hch)
  go_enter Tryz.func214, Tryz.ntmps214
  go_wp2_with (go_at_call 189; refine HC.out.mono ?_; rintro e w2 ⟨rfl, hw⟩)
  go_ret
  exact ⟨rfl, hw⟩
theorem trimLeft_any (s chars : ByteArray) (w : World) (hcs : chars.size < 4294967281) (hch : AllAscii chars) :
    Calls Tryz.prog 158 #[.string s, .string chars] w fun e w' => e = .returned (.string ⟨(Lib.trimLeftS (bl s) (bl chars)).toArray⟩) ∧ Below w.heap.size w w' :=
  Any.strings_TrimLeft_laid Tryz.lays161 (by kernel_rfl) s chars w hcs hch
theorem trim_any (s chars : ByteArray) (w : World) (hs : s.size ≤ 9223372036854775807) (hcs : chars.size < 4294967281) (hch : AllAscii chars) :
    Calls Tryz.prog 147 #[.string s, .string chars] w fun e w' => e = .returned (.string ⟨(Lib.trimS (bl s) (bl chars)).toArray⟩) ∧ Below w.heap.size w w' :=
  Any.strings_Trim_laid Tryz.lays160 (by kernel_rfl) s chars w hs hcs hch
end Go.Proofs.YtkfmfldkllkcbaaGreatDoor
namespace Go.Proofs.YtkfmfldkllkcbaaGreatDoor
open Go.RowKit Go.RunKit Go.CharrefKit Go.Lib Go.TokenKit

set_option maxRecDepth 100000 in
set_option maxHeartbeats 1000000 in
theorem tisLetter_any (b : Nat) (hb : b < 256) (w : World) :
    Calls Tryz.prog 111 #[.int .u8 (b : Nat)] w fun e w' => e = .returned (.bool (isLet b)) ∧ w = w' := by
  by_cases h1 : (97 : Int) ≤ b <;> by_cases h2 : (b : Int) ≤ 122 <;> by_cases h3 : (65 : Int) ≤ b <;> by_cases h4 : (b : Int) ≤ 90
  all_goals (try (exfalso; omega))
  all_goals
    go_enter Tryz.func111, Tryz.ntmps111
    go_wp2
    go_ret
    refine ⟨ret1_eq (congrArg Value.bool ?_), rfl⟩
    unfold isLet
    try simp
    try omega
set_option maxRecDepth 100000 in
set_option maxHeartbeats 1000000 in
theorem tisDigit_any (b : Nat) (hb : b < 256) (w : World) :
    Calls Tryz.prog 190 #[.int .u8 (b : Nat)] w fun e w' => e = .returned (.bool (isNum b)) ∧ w = w' := by
  by_cases h1 : (48 : Int) ≤ b <;> by_cases h2 : (b : Int) ≤ 57
  all_goals (try (exfalso; omega))
  all_goals
    go_enter Tryz.func190, Tryz.ntmps190
    go_wp2
    go_ret
    refine ⟨ret1_eq (congrArg Value.bool ?_), rfl⟩
    unfold isNum
    try simp
    try omega
theorem u8eq {b : UInt8} {k : Nat} (hk : k < 256) : (b == UInt8.ofNat k) = ((b.toNat : Int) == (k : Int)) := by
  rw [Bool.eq_iff_iff, beq_iff_eq, beq_iff_eq]
  constructor
  · rintro rfl; rw [UInt8.toNat_ofNat']; omega
  · intro h; apply UInt8.toNat_inj.1; rw [UInt8.toNat_ofNat']; omega
theorem mark_at (s : ByteArray) (h : 1 < s.size) : markL (bl s) = ((((s[0]'(by omega)).toNat : Int) == 60) && (isLet (s[1]'h).toNat || (((s[1]'h).toNat : Int) == 47) || (((s[1]'h).toNat : Int) == 33) || (((s[1]'h).toNat : Int) == 63))) := by
  have h0 : (bl s)[0]? = some (s[0]'(by omega)) := Lib.data_getElem? s 0 (by omega)
  have h1 : (bl s)[1]? = some (s[1]'h) := Lib.data_getElem? s 1 h
  cases hl : bl s with
  | nil => rw [hl] at h0; cases h0
  | cons a t =>
    rw [hl] at h0 h1
    cases t with
    | nil => cases h1
    | cons c u =>
      simp only [List.getElem?_cons_zero, List.getElem?_cons_succ, Option.some.injEq] at h0 h1
      rw [← h0, ← h1]
      show (a == UInt8.ofNat 60 && (isL c || c == UInt8.ofNat 47 || c == UInt8.ofNat 33 || c == UInt8.ofNat 63)) = _
      rw [u8eq (by decide), u8eq (by decide), u8eq (by decide), u8eq (by decide)]
      rfl
theorem mark_short (s : ByteArray) (h : ¬ 1 < s.size) : markL (bl s) = false := by
  have hl := bl_length s
  match hb : bl s with
  | [] => rfl
  | [_] => rfl
  | _ :: _ :: _ => rw [hb] at hl; simp at hl; omega
set_option maxRecDepth 100000 in
set_option maxHeartbeats 1000000 in
theorem isMark_any (s : ByteArray) (w : World) :
    Calls Tryz.prog 109 #[.string s] w fun e w' => e = .returned (.bool (markL (bl s))) ∧ w = w' := by
  by_cases h : 1 < s.size
  · have hI : (1 : Int) < s.size := by omega
    have h0 : 0 < s.size := by omega
    rw [mark_at s h]
    obtain ⟨x, hx⟩ : ∃ x, s[0]'h0 = x := ⟨_, rfl⟩
    obtain ⟨y, hy⟩ : ∃ y, s[1]'h = y := ⟨_, rfl⟩
    rw [hx, hy]
    have HL := Lib.hid (tisLetter_any y.toNat y.toNat_lt)
    obtain ⟨z, hz⟩ : ∃ z, isLet y.toNat = z := ⟨_, rfl⟩
    rw [hz] at HL
    rw [hz]
    clear hz
    go_enter Tryz.func109, Tryz.ntmps109
    go_big_wp2_with (go_at_call 111; refine (HL.out _).mono ?_; rintro e w1 ⟨rfl, rfl⟩)
    all_goals (go_ret; refine ⟨ret1_eq (congrArg Value.bool ?_), rfl⟩; simp_all)
  · have hI : ¬ (1 : Int) < s.size := by omega
    rw [mark_short s h]
    go_enter Tryz.func109, Tryz.ntmps109
    go_wp2
    go_ret
    exact ⟨rfl, rfl⟩
end Go.Proofs.YtkfmfldkllkcbaaGreatDoor
namespace Go.Proofs.YtkfmfldkllkcbaaGreatDoor
open Go.RowKit Go.RunKit Go.CharrefKit Go.Lib Go.TokenKit

/-- A row of bytes that may be written, in a block. -/
structure BR (w : World) (g : Nat) (l : List UInt8) : Prop where
  ex : ∃ cur fr, w.heap[g]? = some (.cells cur 5 fr) ∧ cur.toList.take l.length = byteCells l ∧ l.length ≤ fr.1
theorem BR.at_ {w : World} {g : Nat} {l : List UInt8} (h : BR w g l) (j : Nat) (hj : j < l.length) : w.cell? ⟨g, j, none⟩ = some (.int .u8 (l[j].toNat : Int)) := by
  obtain ⟨cur, fr, hg, ht, _⟩ := h.ex
  have e : cur[j]? = (byteCells l)[j]? := by
    rw [← ht, List.getElem?_take, if_pos hj]; simp
  simp only [World.cell?, hg]
  simp [e, byteCells, hj]
theorem BR.frozen {w : World} {g : Nat} {l : List UInt8} (h : BR w g l) (j : Nat) (hj : j < l.length) : w.frozen? ⟨g, j, none⟩ = false := by
  obtain ⟨cur, ⟨lo, hi⟩, hg, _, hf⟩ := h.ex
  simp only [World.frozen?, hg]
  simp only at hf
  simp; omega
theorem BR.set {w : World} {g : Nat} {l : List UInt8} (h : BR w g l) (j : Nat) (b : UInt8) : BR (w.setCell ⟨g, j, none⟩ (.int .u8 (b.toNat : Int))) g (l.set j b) := by
  obtain ⟨cur, fr, hg, ht, hf⟩ := h.ex
  refine ⟨cur.setIfInBounds j (.int .u8 (b.toNat : Int)), fr, ?_, ?_, by simpa using hf⟩
  · have hlt : g < w.heap.size := (Array.getElem?_eq_some_iff.1 hg).1
    have hv : w.heap[g] = .cells cur 5 fr := (Array.getElem?_eq_some_iff.1 hg).2
    simp only [World.setCell]
    rw [Array.getElem?_eq_getElem (by simpa using hlt), Array.getElem_modify]
    simp [hv]
  · rw [Array.toList_setIfInBounds, List.length_set, List.take_set, ht]
    simp [byteCells, List.map_set]
theorem bytes_made (s : ByteArray) (w : World) : ∃ cap W, (convert 9 42 (.string s)).run Tryz.prog w = .ok (.slice (some ⟨w.heap.size, 0, none⟩) s.size cap) W ∧ BR W w.heap.size (bl s) ∧ Below w.heap.size w W := by
  refine ⟨_, _, run_bytes_of_string w 9 42 5 s underString underBytes underByte, ⟨_, _, heap_alloc_new w.drew _, ?_, ?_⟩, (Below.refl _ _).drew.alloc (Nat.le_refl _) _⟩
  · simp [bytesRow, byteCells, bl]
  · simp [bytesRow, bl_length]
theorem BR.text {w : World} {g : Nat} {l : List UInt8} (h : BR w g l) (cap : Nat) : (convert 42 9 (.slice (some ⟨g, 0, none⟩) l.length cap)).run Tryz.prog w = .ok (.string ⟨l.toArray⟩) w :=
  run_convert_bytes_back w 42 9 5 ⟨g, 0, none⟩ cap l underBytes underByte underString (fun j hj => by rw [add_at]; exact h.at_ j hj)

theorem smallB_hit {b : UInt8} (h1 : 65 ≤ b.toNat) (h2 : b.toNat ≤ 90) : (smallB b).toNat = b.toNat + 32 := by
  unfold smallB
  rw [if_pos ⟨h1, h2⟩, UInt8.toNat_add]
  show (b.toNat + 32) % 256 = _
  omega
theorem smallB_miss {b : UInt8} (h : ¬ (65 ≤ b.toNat ∧ b.toNat ≤ 90)) : smallB b = b := by unfold smallB; rw [if_neg h]
/-- Small up to a place. -/
def smallTo (l : List UInt8) (i : Nat) : List UInt8 := smallL (l.take i) ++ l.drop i
theorem smallTo_len (l : List UInt8) (i : Nat) : (smallTo l i).length = l.length := by simp [smallTo, smallL]; omega
theorem smallTo_zero (l : List UInt8) : smallTo l 0 = l := by simp [smallTo, smallL]
theorem smallTo_all (l : List UInt8) : smallTo l l.length = smallL l := by simp [smallTo]
theorem smallTo_at {l : List UInt8} {i : Nat} {b : UInt8} (h : l[i]? = some b) : (smallTo l i)[i]? = some b := by
  have hi : i < l.length := (List.getElem?_eq_some_iff.1 h).1
  unfold smallTo
  rw [List.getElem?_append_right (by simp [smallL]; omega)]
  simp [smallL, Nat.min_eq_left (Nat.le_of_lt hi), h]
theorem smallTo_set {l : List UInt8} {i : Nat} {b : UInt8} (h : l[i]? = some b) : (smallTo l i).set i (smallB b) = smallTo l (i + 1) := by
  have hi : i < l.length := (List.getElem?_eq_some_iff.1 h).1
  have hb : l[i] = b := by rw [List.getElem?_eq_getElem hi] at h; exact Option.some.inj h
  have e1 : l.take (i + 1) = l.take i ++ [b] := by rw [List.take_succ_eq_append_getElem hi, hb]
  have e2 : l.drop i = b :: l.drop (i + 1) := by rw [List.drop_eq_getElem_cons hi, hb]
  have e3 : (smallL (l.take i)).length = i := by simp [smallL]; omega
  unfold smallTo
  rw [e1, e2, List.set_append_right _ _ (by omega), e3, Nat.sub_self]
  simp [smallL]
theorem smallTo_same {l : List UInt8} {i : Nat} {b : UInt8} (h : l[i]? = some b) (hb : smallB b = b) : smallTo l i = smallTo l (i + 1) := by
  have hi : i < l.length := (List.getElem?_eq_some_iff.1 h).1
  rw [← smallTo_set h, hb]
  symm
  have := smallTo_at h
  have h2 := (List.getElem?_eq_some_iff.1 this)
  obtain ⟨h3, h4⟩ := h2
  conv => lhs; rw [← h4]
  exact List.set_getElem_self h3

set_option maxRecDepth 100000 in
set_option maxHeartbeats 1000000 in
theorem small_any (s : ByteArray) (hsz : s.size ≤ 1099511627776) (w : World) :
    Calls Tryz.prog 116 #[.string s] w fun e w' => e = .returned (.string ⟨(smallL (bl s)).toArray⟩) ∧ Below w.heap.size w w' := by
  obtain ⟨cap, W, hcv, hrow, hbel⟩ := bytes_made s w
  have hlen := bl_length s
  go_enter Tryz.func116, Tryz.ntmps116
  go_wp2
  have HR := Lib.hid hrow
  clear hrow hcv
  go_loopw [10] (fun v wr => ∃ i : Nat, v = .int .i64 (i : Nat) ∧ i ≤ s.size ∧ Hid (BR wr w.heap.size (smallTo (bl s) i)) ∧ Hid (Below w.heap.size w wr)) (fun v _ => s.size - (RowKit.intOf v).toNat)
  case atStart => exact ⟨0, rfl, Nat.zero_le _, by rw [smallTo_zero]; exact HR, Lib.hid hbel⟩
  case round =>
    clear HR hbel
    obtain ⟨i, rfl, his, HR, HB⟩ := hrel
    by_cases hi : i < s.size
    · have hI : (i : Int) < s.size := by omega
      obtain ⟨x, hx⟩ : ∃ x : UInt8, s[i]'hi = x := ⟨_, rfl⟩
      have hxl : (bl s)[i]? = some x := by rw [← hx]; exact Lib.data_getElem? s i hi
      have hc : wr.cell? ⟨w.heap.size, i, none⟩ = some (.int .u8 (x.toNat : Int)) := by
        have hj : i < (smallTo (bl s) i).length := by rw [smallTo_len, hlen]; exact hi
        rw [HR.out.at_ i hj]
        have := smallTo_at hxl
        rw [List.getElem?_eq_getElem hj] at this
        rw [Option.some.inj this]
      have hfz : wr.frozen? ⟨w.heap.size, i, none⟩ = false := HR.out.frozen i (by rw [smallTo_len, hlen]; exact hi)
      have HX := Lib.hid hxl
      clear hxl hx
      have hx256 := x.toNat_lt
      by_cases hup : 65 ≤ x.toNat ∧ x.toNat ≤ 90
      · have h1 : (65 : Int) ≤ x.toNat := by omega
        have h2 : (x.toNat : Int) ≤ 90 := by omega
        have HS : Hid (BR (wr.setCell ⟨w.heap.size, i, none⟩ (.int .u8 ((smallB x).toNat : Int))) w.heap.size (smallTo (bl s) (i + 1))) := by
          have := HR.out.set i (smallB x)
          rw [smallTo_set HX.out] at this
          exact Lib.hid this
        rw [smallB_hit hup.1 hup.2] at HS
        clear hup
        go_wp2
        rw [show (x.toNat : Int) - 65 + 97 = ((x.toNat + 32 : Nat) : Int) by omega]
        exact ⟨⟨i + 1, rfl, by omega, HS, Lib.hid (HB.out.setCell (Nat.le_refl _) _)⟩, by simp [RowKit.intOf]; omega⟩
      · have hm := smallTo_same HX.out (smallB_miss hup)
        rw [hm] at HR
        have hor : ¬ ((65 : Int) ≤ x.toNat) ∨ ¬ ((x.toNat : Int) ≤ 90) := by omega
        clear hup hm
        rcases hor with h1 | h1
        · go_wp2
          exact ⟨⟨i + 1, rfl, by omega, HR, HB⟩, by simp [RowKit.intOf]; omega⟩
        · by_cases h0 : (65 : Int) ≤ x.toNat
          · go_wp2
            exact ⟨⟨i + 1, rfl, by omega, HR, HB⟩, by simp [RowKit.intOf]; omega⟩
          · go_wp2
            exact ⟨⟨i + 1, rfl, by omega, HR, HB⟩, by simp [RowKit.intOf]; omega⟩
    · obtain rfl : i = s.size := by omega
      have ht := HR.out.text cap
      rw [smallTo_len, hlen] at ht
      rw [show s.size = (bl s).length from hlen.symm, smallTo_all] at ht
      rw [hlen] at ht
      go_wp2
      go_ret
      exact ⟨rfl, HB.out⟩

/-- Are all bytes up to a place such as may be? -/
def okB (more : List UInt8) (b : UInt8) : Bool := isL b || isD b || more.contains b
theorem wordL_no {more l : List UInt8} {i : Nat} {b : UInt8} (h : l[i]? = some b) (hb : okB more b = false) : wordL more l = false := by
  unfold wordL
  rw [List.all_eq_false]
  exact ⟨b, List.mem_of_getElem? h, by change ¬ okB more b = true; simp [hb]⟩
theorem wordL_yes {more l : List UInt8} (h : ∀ j b, j < l.length → l[j]? = some b → okB more b = true) : wordL more l = true := by
  unfold wordL
  rw [List.all_eq_true]
  intro b hb
  obtain ⟨j, hj⟩ := List.mem_iff_getElem?.1 hb
  exact h j b (List.getElem?_eq_some_iff.1 hj).1 hj

set_option maxRecDepth 100000 in
set_option maxHeartbeats 2000000 in
theorem isWord_any (s more : ByteArray) (hsz : s.size ≤ 1099511627776) (w : World) :
    Calls Tryz.prog 166 #[.string s, .string more] w fun e w' => e = .returned (.bool (wordL (bl more) (bl s))) ∧ w = w' := by
  have hlen := bl_length s
  go_enter Tryz.func166, Tryz.ntmps166
  go_wp2
  go_loop [9] (fun v => ∃ i : Nat, v = .int .i64 (i : Nat) ∧ i ≤ s.size ∧ Hid (∀ j b, j < i → (bl s)[j]? = some b → okB (bl more) b = true)) (fun v => s.size - (RowKit.intOf v).toNat)
  case atStart => exact ⟨0, rfl, Nat.zero_le _, Lib.hid fun j b h => by omega⟩
  case round =>
    obtain ⟨i, rfl, his, HA⟩ := hrel
    by_cases hi : i < s.size
    · have hI : (i : Int) < s.size := by omega
      obtain ⟨x, hx⟩ : ∃ x : UInt8, s[i]'hi = x := ⟨_, rfl⟩
      have hxl : (bl s)[i]? = some x := by rw [← hx]; exact Lib.data_getElem? s i hi
      have HX := Lib.hid hxl
      clear hxl
      have HL := Lib.hid (tisLetter_any x.toNat x.toNat_lt)
      have HD := Lib.hid (tisDigit_any x.toNat x.toNat_lt)
      have HI : Hid (∀ W, Calls Tryz.prog 82 #[.string more, .int .u8 x.toNat] W fun e w'' => e = .returned (.int .i64 (Lib.indexByte more.data.toList x)) ∧ W = w'') :=
        Lib.hid fun W => (Tryz.strings_IndexByte more (x.toNat : Int) W).mono fun e w1 ⟨h1, h2⟩ => ⟨by rw [h1, show ((x.toNat : Int)).toNat.toUInt8 = x by simp], h2.symm⟩
      have hcon := Lib.contains_iff_indexByte more.data.toList x
      have hok : okB (bl more) x = (isLet x.toNat || isNum x.toNat || decide (0 ≤ Lib.indexByte more.data.toList x)) := by rw [← hcon]; rfl
      obtain ⟨z1, hz1⟩ : ∃ z, isLet x.toNat = z := ⟨_, rfl⟩
      obtain ⟨z2, hz2⟩ : ∃ z, isNum x.toNat = z := ⟨_, rfl⟩
      obtain ⟨z3, hz3⟩ : ∃ z, Lib.indexByte more.data.toList x = z := ⟨_, rfl⟩
      rw [hz1] at HL hok
      rw [hz2] at HD hok
      rw [hz3] at HI hok
      have HO := Lib.hid hok
      clear hz1 hz2 hz3 hcon hok
      go_big_wp2_with (first
        | (go_at_call 111; refine (HL.out _).mono ?_; rintro e w1 ⟨rfl, rfl⟩)
        | (go_at_call 190; refine (HD.out _).mono ?_; rintro e w1 ⟨rfl, rfl⟩)
        | (go_at_call 82; refine (HI.out _).mono ?_; rintro e w1 ⟨rfl, rfl⟩))
      all_goals first
        | (refine ⟨⟨i + 1, rfl, by omega, Lib.hid fun j b hj hb => ?_⟩, by simp [RowKit.intOf]; omega⟩
           by_cases e : j = i
           · subst e; rw [HX.out] at hb; cases hb; rw [HO.out]; simp_all
           · exact HA.out j b (by omega) hb)
        | (go_ret
           exact ⟨by rw [wordL_no HX.out (by rw [HO.out]; simp_all)]; rfl, rfl⟩)
    · obtain rfl : i = s.size := by omega
      go_wp2
      go_ret
      exact ⟨by rw [wordL_yes (fun j b hj hb => HA.out j b (by rw [← hlen]; exact hj) hb)]; rfl, rfl⟩
end Go.Proofs.YtkfmfldkllkcbaaGreatDoor
namespace Go.TokenKit
open Go Go.Lib
theorem any_none {cs : List UInt8} : ∀ {l : List UInt8}, indexAny l cs = -1 → before cs l = l ∧ behind cs l = []
  | [], _ => ⟨rfl, rfl⟩
  | b :: r, h => by
    simp only [indexAny] at h
    split at h
    · cases h
    · rename_i hb
      have hb : cs.contains b = false := by simpa using hb
      have h2 : indexAny r cs = -1 := by
        have hg := indexAny_ge cs r
        split at h
        · rename_i e; simpa using e
        · omega
      obtain ⟨i1, i2⟩ := any_none h2
      unfold before at i1
      unfold behind at i2
      exact ⟨by unfold before; simp only [List.takeWhile, hb, Bool.not_false]; rw [i1], by unfold behind; simp only [List.dropWhile, hb, Bool.not_false]; exact i2⟩
theorem any_some {cs : List UInt8} : ∀ {l : List UInt8} {p : Nat}, indexAny l cs = (p : Int) → p < l.length ∧ before cs l = l.take p ∧ behind cs l = l.drop p
  | [], p, h => by simp only [indexAny] at h; omega
  | b :: r, p, h => by
    simp only [indexAny] at h
    split at h
    · rename_i hb
      obtain rfl : p = 0 := by omega
      exact ⟨by simp, by simp only [before, List.takeWhile, hb, Bool.not_true]; rfl, by simp only [behind, List.dropWhile, hb, Bool.not_true]; rfl⟩
    · rename_i hb
      have hb : cs.contains b = false := by simpa using hb
      have hg := indexAny_ge cs r
      split at h
      · omega
      · rename_i hne
        have hne : indexAny r cs ≠ -1 := by simpa using hne
        obtain ⟨q, rfl⟩ : ∃ q, p = q + 1 := ⟨p - 1, by omega⟩
        obtain ⟨i1, i2, i3⟩ := any_some (cs := cs) (l := r) (p := q) (by omega)
        unfold before at i2
        unfold behind at i3
        exact ⟨by simp; omega, by unfold before; simp only [List.takeWhile, hb, Bool.not_false, List.take_succ_cons]; rw [i2], by unfold behind; simp only [List.dropWhile, hb, Bool.not_false, List.drop_succ_cons]; exact i3⟩
end Go.TokenKit
namespace Go.Proofs.YtkfmfldkllkcbaaGreatDoor
open Go.RowKit Go.RunKit Go.CharrefKit Go.Lib Go.TokenKit

abbrev TRd : TypeId := 111
/-- The reader's block: what it has not read yet. -/
def RB (w : World) (b : Nat) (cur : ByteArray) : Prop := w.heap[b]? = some (.cells #[.string cur] TRd (0, 0))
theorem RB.cell {w : World} {b : Nat} {cur : ByteArray} (h : RB w b cur) : w.cell? ⟨b, 0, none⟩ = some (.string cur) := by
  unfold RB at h; simp [World.cell?, h]
theorem RB.frozen {w : World} {b : Nat} {cur : ByteArray} (h : RB w b cur) : w.frozen? ⟨b, 0, none⟩ = false := frozen_of_row w b 0 _ _ h
theorem RB.lt {w : World} {b : Nat} {cur : ByteArray} (h : RB w b cur) : b < w.heap.size := (Array.getElem?_eq_some_iff.1 h).1
theorem RB.on {w w' : World} {b : Nat} {cur : ByteArray} (h : RB w b cur) (hb : Below w.heap.size w w') : RB w' b cur := (hb.block b h.lt).trans h
/-- All is as it was but for the reader and new blocks. -/
structure Moved (w : World) (b : Nat) (cur : ByteArray) (w' : World) : Prop where
  grown : w.grownBy w' (some b)
  rest : RB w' b cur
theorem grown_refl (w : World) (row : Option Nat) : w.grownBy w row := ⟨rfl, rfl, rfl, Nat.le_refl _, fun _ _ _ => rfl⟩
theorem Moved.refl {w : World} {b : Nat} {cur : ByteArray} (h : RB w b cur) : Moved w b cur w := ⟨grown_refl _ _, h⟩
theorem grown_below {w w' : World} (h : Below w.heap.size w w') (row : Option Nat) : w.grownBy w' row := ⟨h.os, h.tape, h.output, h.size, fun k hk _ => h.block k hk⟩
theorem grown_trans {a b c : World} {row : Option Nat} (h : a.grownBy b row) (k : b.grownBy c row) : a.grownBy c row :=
  ⟨k.os.trans h.os, k.tape.trans h.tape, k.output.trans h.output, Nat.le_trans h.size k.size, fun i hi hn => (k.block i (Nat.lt_of_lt_of_le hi h.size) hn).trans (h.block i hi hn)⟩
theorem Moved.trans {w w1 w2 : World} {b : Nat} {c1 c2 : ByteArray} (h : Moved w b c1 w1) (k : Moved w1 b c2 w2) : Moved w b c2 w2 := ⟨grown_trans h.grown k.grown, k.rest⟩
theorem Moved.on {w w1 w2 : World} {b : Nat} {c : ByteArray} (h : Moved w b c w1) (k : Below w1.heap.size w1 w2) : Moved w b c w2 := ⟨grown_trans h.grown (grown_below k _), h.rest.on k⟩
theorem Moved.from_ {w w1 w2 : World} {b : Nat} {c : ByteArray} (h : Below w.heap.size w w1) (k : Moved w1 b c w2) : Moved w b c w2 := ⟨grown_trans (grown_below h _) k.grown, k.rest⟩
theorem Moved.set {w : World} {b : Nat} {cur : ByteArray} (h : RB w b cur) (c : ByteArray) : Moved w b c (w.setCell ⟨b, 0, none⟩ (.string c)) := by
  refine ⟨⟨rfl, rfl, rfl, by simp [World.setCell], fun k _ hk => Below.heap_setCell _ _ _ _ (fun e => hk (by rw [e]))⟩, ?_⟩
  have := heap_setCell_same w b 0 _ _ (.string c) h
  simpa [RB] using this
theorem Moved.below {w0 w w' : World} {b : Nat} {c : ByteArray} (h : Moved w b c w') (hb : Below w0.heap.size w0 w) (hB : w0.heap.size ≤ b) : Below w0.heap.size w0 w' :=
  hb.grown h.grown hb.size (fun k hk => by cases hk; exact hB)
/-- The library's own variable of which only this is known: it holds a number. -/
structure Maxed (w : World) (b : Nat) : Prop where
  ex : ∃ m, w.cell? ⟨2, 0, none⟩ = some (.int .i64 m)
  lt : 2 < b
theorem Maxed.grown {w w' : World} {b : Nat} (h : Maxed w b) (hg : w.grownBy w' (some b)) : Maxed w' b := by
  obtain ⟨m, hm⟩ := h.ex
  exact ⟨⟨m, hg.cell hm (by have := h.lt; simp; omega)⟩, h.lt⟩
theorem Maxed.below {w w' : World} {b : Nat} (h : Maxed w b) (hb : Below w.heap.size w w') : Maxed w' b := h.grown (grown_below hb _)
theorem eq_mk {x : ByteArray} {l : List UInt8} (h : bl x = l) : x = ⟨l.toArray⟩ := by subst h; rfl

set_option maxRecDepth 100000 in
set_option maxHeartbeats 400000 in
theorem take_any (b : Nat) (cur : ByteArray) (n : Nat) (hn : n ≤ cur.size) (w : World) (h : RB w b cur) :
    Calls Tryz.prog 142 #[.pointer (some ⟨b, 0, none⟩), .int .i64 n] w fun e w' => e = .returned (.string (cur.extract 0 n)) ∧ Moved w b (cur.extract n cur.size) w' := by
  have hI : (n : Int) ≤ cur.size := by omega
  have hc := h.cell
  have hf := h.frozen
  have HM := Lib.hid (Moved.set h (cur.extract n cur.size))
  clear h
  go_enter Tryz.func142, Tryz.ntmps142
  go_big_wp2
  go_ret
  exact ⟨rfl, HM.out⟩
set_option maxRecDepth 100000 in
set_option maxHeartbeats 400000 in
theorem leave_any (b : Nat) (cur : ByteArray) (w : World) (h : RB w b cur) :
    Calls Tryz.prog 167 #[.pointer (some ⟨b, 0, none⟩)] w fun e w' => e = .returned (.tuple #[]) ∧ Moved w b ⟨(skipL (bl cur)).toArray⟩ w' := by
  have hc := h.cell
  have HT := Lib.hid (fun w => trimLeft_any cur ⟨#[9, 10, 12, 32]⟩ w (by decide) (ascii_of_all (by decide)))
  have HR := Lib.hid h
  clear h
  go_enter Tryz.func167, Tryz.ntmps167
  go_big_wp2_with (go_at_call 158; refine (HT.out _).mono ?_; rintro e w1 ⟨rfl, hb⟩; have hf := (HR.out.on hb).frozen; have hc1 := (HR.out.on hb).cell)
  go_end0
  exact ⟨rfl, (Moved.set (HR.out.on hb) _).from_ hb⟩
set_option maxRecDepth 100000 in
set_option maxHeartbeats 400000 in
theorem took_any (b : Nat) (cur sign : ByteArray) (w : World) (h : RB w b cur) :
    Calls Tryz.prog 168 #[.pointer (some ⟨b, 0, none⟩), .string sign] w fun e w' => e = .returned (.bool (Lib.hasPrefix (bl cur) (bl sign))) ∧ Moved w b ⟨(Lib.trimPrefix (bl cur) (bl sign)).toArray⟩ w' := by
  have hc := h.cell
  have hf := h.frozen
  have HM := Lib.hid (Moved.set h ⟨(Lib.trimPrefix (bl cur) (bl sign)).toArray⟩)
  have HT := Lib.hid (fun w => Tryz.strings_CutPrefix cur sign w)
  clear h
  go_enter Tryz.func168, Tryz.ntmps168
  go_big_wp2_with (go_at_call 191; refine (HT.out _).mono ?_; rintro e w1 ⟨rfl, rfl⟩)
  go_ret
  exact ⟨rfl, HM.out⟩
set_option maxRecDepth 100000 in
set_option maxHeartbeats 400000 in
theorem quoted_any (b : Nat) (cur q : ByteArray) (hsz : cur.size ≤ 4294967280) (w : World) (h : RB w b cur) (hm : Maxed w b) :
    Calls Tryz.prog 213 #[.pointer (some ⟨b, 0, none⟩), .string q] w fun e w' => e = .returned (.tuple #[.string ⟨(Lib.cut (bl cur) (bl q)).1.toArray⟩, .bool (Lib.cut (bl cur) (bl q)).2.2]) ∧ Moved w b ⟨(Lib.cut (bl cur) (bl q)).2.1.toArray⟩ w' := by
  obtain ⟨m, hmm⟩ := hm.ex
  have hc := h.cell
  have HR := Lib.hid h
  have HT := Lib.hid (Tryz.strings_Cut cur q m w (by omega) hmm)
  clear h hm
  go_enter Tryz.func213, Tryz.ntmps213
  go_big_wp2_with (go_at_call 145; refine HT.out.mono ?_; rintro e w1 ⟨rfl, n, rfl⟩; have hb := below_drewN (Below.refl w.heap.size w) n; have hf := (HR.out.on hb).frozen; have hc1 := (HR.out.on hb).cell)
  go_ret2
  exact ⟨rfl, (Moved.set (HR.out.on hb) _).from_ hb⟩
set_option maxRecDepth 100000 in
set_option maxHeartbeats 400000 in
theorem takeUpTo_any (b : Nat) (cur stops : ByteArray) (h2 : 2 ≤ stops.size) (hcs : stops.size < 4294967281) (hch : AllAscii stops) (hsz : cur.size ≤ 4294967280) (w : World) (h : RB w b cur) :
    Calls Tryz.prog 165 #[.pointer (some ⟨b, 0, none⟩), .string stops] w fun e w' => e = .returned (.string ⟨(before (bl stops) (bl cur)).toArray⟩) ∧ Moved w b ⟨(behind (bl stops) (bl cur)).toArray⟩ w' := by
  have hc := h.cell
  have HR := Lib.hid h
  have HT := Lib.hid (indexAny_any cur stops w h2 (by omega) hcs hch)
  clear h
  have hge := indexAny_ge (bl stops) (bl cur)
  by_cases hneg : Lib.indexAny (bl cur) (bl stops) = -1
  · obtain ⟨e1, e2⟩ := any_none hneg
    rw [hneg] at HT
    rw [e1, e2]
    have HK := Lib.hid (take_any b cur cur.size (Nat.le_refl _))
    clear e1 e2 hneg hge
    go_enter Tryz.func165, Tryz.ntmps165
    go_big_wp2_with (first
      | (go_at_call 189; refine HT.out.mono ?_; rintro e w1 ⟨rfl, hb⟩; have HR1 := Lib.hid (HR.out.on hb); have hc1 := HR1.out.cell)
      | (go_at_call 142; refine (HK.out _ HR1.out).mono ?_; rintro e w2 ⟨rfl, hm⟩))
    go_ret
    refine ⟨?_, ?_⟩
    · rfl
    · have := hm.from_ hb
      rwa [show cur.extract cur.size cur.size = ⟨([] : List UInt8).toArray⟩ from eq_mk (by rw [bl_drop, List.drop_of_length_le (by rw [bl_length]; exact Nat.le_refl _)])] at this
  · obtain ⟨p, hp⟩ : ∃ p : Nat, Lib.indexAny (bl cur) (bl stops) = (p : Int) := ⟨(Lib.indexAny (bl cur) (bl stops)).toNat, by omega⟩
    obtain ⟨e0, e1, e2⟩ := any_some hp
    rw [bl_length] at e0
    rw [hp] at HT
    rw [e1, e2]
    have HK := Lib.hid (take_any b cur p (Nat.le_of_lt e0))
    clear e1 e2 hneg hge hp
    go_enter Tryz.func165, Tryz.ntmps165
    go_big_wp2_with (first
      | (go_at_call 189; refine HT.out.mono ?_; rintro e w1 ⟨rfl, hb⟩; have HR1 := Lib.hid (HR.out.on hb); have hc1 := HR1.out.cell)
      | (go_at_call 142; refine (HK.out _ HR1.out).mono ?_; rintro e w2 ⟨rfl, hm⟩))
    go_ret
    refine ⟨?_, ?_⟩
    · rw [show cur.extract 0 p = ⟨((bl cur).take p).toArray⟩ from eq_mk (bl_take _ _)]; rfl
    · have := hm.from_ hb
      rwa [show cur.extract p cur.size = ⟨((bl cur).drop p).toArray⟩ from eq_mk (bl_drop _ _)] at this
end Go.Proofs.YtkfmfldkllkcbaaGreatDoor
namespace Go.TokenKit
open Go Go.Lib Go.CharrefKit
theorem index_byte (c : UInt8) : ∀ l : List UInt8, index l [c] = indexByte l c
  | [] => rfl
  | b :: l => by
    unfold index indexByte
    rw [index_byte c l]
    by_cases h : b = c
    · subst h; simp [List.isPrefixOf]
    · have h' : (c == b) = false := by simpa using fun e : c = b => h e.symm
      have h2 : (b == c) = false := by simpa using h
      simp [List.isPrefixOf, h', h2]
theorem cut_one (l : List UInt8) (q : UInt8) : cut l [q] = if l.contains q then (before [q] l, (behind [q] l).drop 1, true) else (l, [], false) := by
  have hix : index l [q] = indexAny l [q] := by rw [index_byte, indexAny_one]
  have hcon : l.contains q = decide (0 ≤ indexAny l [q]) := by rw [contains_iff_indexByte, indexAny_one]
  have hge := indexAny_ge [q] l
  unfold cut
  rw [hix, hcon]
  by_cases h : indexAny l [q] = -1
  · rw [h]; rfl
  · obtain ⟨p, hp⟩ : ∃ p : Nat, indexAny l [q] = (p : Int) := ⟨(indexAny l [q]).toNat, by omega⟩
    obtain ⟨_, e1, e2⟩ := any_some hp
    have h0 : (0 : Int) ≤ (p : Int) := by omega
    rw [hp, if_pos h0, decide_eq_true h0, if_pos rfl, e1, e2]
    simp
theorem containsAny_eq (l cs : List UInt8) : containsAny l cs = l.any (cs.contains ·) := by
  induction l with
  | nil => rfl
  | cons b r ih =>
    have hg := indexAny_ge cs r
    have e : indexAny (b :: r) cs = if cs.contains b then 0 else if indexAny r cs == -1 then -1 else indexAny r cs + 1 := rfl
    rw [Bool.eq_iff_iff, List.any_cons, Bool.or_eq_true, ← ih]
    unfold containsAny
    rw [decide_eq_true_eq, decide_eq_true_eq, e]
    by_cases hb : cs.contains b = true
    · rw [if_pos hb]; exact ⟨fun _ => .inl hb, fun _ => by omega⟩
    · rw [if_neg hb]
      by_cases hx : indexAny r cs = -1
      · rw [hx]; exact ⟨fun h => by simp at h, fun h => by rcases h with h | h; exact absurd h hb; omega⟩
      · rw [if_neg (by simpa using hx)]
        exact ⟨fun h => .inr (by omega), fun h => by rcases h with h | h; exact absurd h hb; omega⟩
theorem hasPrefix_one (l : List UInt8) (q : UInt8) : hasPrefix l [q] = decide (l.head? = some q) := by
  unfold hasPrefix
  cases l with
  | nil => rfl
  | cons b r =>
    rw [List.head?_cons, Bool.eq_iff_iff, decide_eq_true_eq, Option.some.injEq]
    show ((q == b) && List.isPrefixOf [] r) = true ↔ b = q
    rw [show List.isPrefixOf [] r = true from rfl, Bool.and_true, beq_iff_eq]
    exact eq_comm
theorem trimPrefix_one (l : List UInt8) (q : UInt8) : trimPrefix l [q] = if l.head? = some q then l.drop 1 else l := by
  unfold trimPrefix
  rw [hasPrefix_one]
  simp
/-- What a value's reader tells, against the document's. -/
def ToldV (o : Option (Bytes × Bytes)) (v : ByteArray) (ok : Bool) (c : ByteArray) : Prop := match o with
  | none => ok = false
  | some (x, r) => ok = true ∧ v = ⟨x.toArray⟩ ∧ c = ⟨r.toArray⟩
end Go.TokenKit
namespace Go.Proofs.YtkfmfldkllkcbaaGreatDoor
open Go.RowKit Go.RunKit Go.CharrefKit Go.Lib Go.TokenKit

theorem quote_one (b : Nat) (cur : ByteArray) (q : UInt8) (hsz : cur.size ≤ 4294967280) (w : World) (h : RB w b cur) (hm : Maxed w b) :
    Calls Tryz.prog 213 #[.pointer (some ⟨b, 0, none⟩), .string ⟨#[q]⟩] w fun e w' => ∃ v ok c, e = .returned (.tuple #[.string v, .bool ok]) ∧ Moved w b c w' ∧ ToldV (quotedL q (bl cur)) v ok c := by
  refine (quoted_any b cur ⟨#[q]⟩ hsz w h hm).mono ?_
  rintro e w' ⟨rfl, hw⟩
  refine ⟨_, _, _, rfl, hw, ?_⟩
  rw [show bl (⟨#[q]⟩ : ByteArray) = [q] from rfl, cut_one]
  unfold quotedL ToldV
  split <;> simp_all

set_option maxRecDepth 100000 in
set_option maxHeartbeats 1000000 in
theorem value_plain (b : Nat) (cur : ByteArray) (hsz : cur.size ≤ 4294967280) (w : World) (h : RB w b cur)
    (h34 : (bl cur).head? ≠ some 34) (h39 : (bl cur).head? ≠ some 39) :
    Calls Tryz.prog 192 #[.pointer (some ⟨b, 0, none⟩)] w fun e w' =>
      e = .returned (.tuple #[.string ⟨(before plainStops (bl cur)).toArray⟩, .bool (!(before plainStops (bl cur)).isEmpty && !(before plainStops (bl cur)).any badB)]) ∧ Moved w b ⟨(behind plainStops (bl cur)).toArray⟩ w' := by
  have HR := Lib.hid h
  have H34 := Lib.hid (fun w h => took_any b cur ⟨#[34]⟩ w h)
  have H39 := Lib.hid (fun w h => took_any b cur ⟨#[39]⟩ w h)
  rw [show bl (⟨#[34]⟩ : ByteArray) = [34] from rfl, hasPrefix_one, trimPrefix_one, if_neg h34, decide_eq_false h34] at H34
  rw [show bl (⟨#[39]⟩ : ByteArray) = [39] from rfl, hasPrefix_one, trimPrefix_one, if_neg h39, decide_eq_false h39] at H39
  have hU := takeUpTo_any b cur ⟨#[9, 10, 12, 32, 62]⟩ (by decide) (by decide) (ascii_of_all (by decide)) hsz
  rw [show bl (⟨#[9, 10, 12, 32, 62]⟩ : ByteArray) = plainStops from rfl] at hU
  obtain ⟨v, hv⟩ : ∃ v : ByteArray, (⟨(before plainStops (bl cur)).toArray⟩ : ByteArray) = v := ⟨_, rfl⟩
  have hvl : before plainStops (bl cur) = bl v := by subst hv; exact (bl_of _).symm
  have hvs : v.size ≤ cur.size := by
    have h1 := bl_length v
    have h2 := bl_length cur
    have h3 := before_len plainStops (bl cur)
    rw [hvl] at h3; omega
  rw [hv] at hU
  rw [hvl]
  have HU := Lib.hid hU
  have hC := fun w => containsAny_any v ⟨#[34, 39, 60, 61, 96]⟩ w (by decide) (by omega) (by decide) (ascii_of_all (by decide))
  rw [show bl (⟨#[34, 39, 60, 61, 96]⟩ : ByteArray) = [34, 39, 60, 61, 96] from rfl, containsAny_eq, show (bl v).any ([34, 39, 60, 61, 96].contains ·) = (bl v).any badB from rfl] at hC
  have HC := Lib.hid hC
  have HV := Lib.hid hv
  clear h h34 h39 hU hC hv hvl
  go_enter Tryz.func192, Tryz.ntmps192
  go_big_wp2_with (first
    | (go_at_call_of 168 (Value.string ⟨#[34]⟩); refine (H34.out _ HR.out).mono ?_; rintro e w1 ⟨rfl, hm1⟩)
    | (go_at_call_of 168 (Value.string ⟨#[39]⟩); refine (H39.out _ hm1.rest).mono ?_; rintro e w2 ⟨rfl, hm2⟩)
    | (go_at_call 165; refine (HU.out _ hm2.rest).mono ?_; rintro e w3 ⟨rfl, hm3⟩)
    | (go_at_call 214; refine (HC.out _).mono ?_; rintro e w4 ⟨rfl, hb4⟩))
  · rename_i he
    rw [Lib.toList_data] at he
    have hE : bl v = [] := he
    go_ret2
    rw [hE]
    exact ⟨by rw [show v = ⟨([] : List UInt8).toArray⟩ from eq_mk hE]; rfl, (hm1.trans hm2).trans hm3⟩
  · go_ret2
    exact ⟨by rw [show (bl v).isEmpty = v.toList.isEmpty by rw [Lib.toList_data]; rfl]; rfl, ((hm1.trans hm2).trans hm3).on hb4⟩
set_option maxRecDepth 100000 in
set_option maxHeartbeats 1000000 in
theorem value_any (b : Nat) (cur : ByteArray) (hsz : cur.size ≤ 4294967280) (w : World) (h : RB w b cur) (hm : Maxed w b) :
    Calls Tryz.prog 192 #[.pointer (some ⟨b, 0, none⟩)] w fun e w' => ∃ v ok c, e = .returned (.tuple #[.string v, .bool ok]) ∧ Moved w b c w' ∧ ToldV (valueL (bl cur)) v ok c := by
  have HM := Lib.hid hm
  have HR := Lib.hid h
  have H34 := Lib.hid (fun w h => took_any b cur ⟨#[34]⟩ w h)
  have H39 := Lib.hid (fun w h => took_any b cur ⟨#[39]⟩ w h)
  rw [show bl (⟨#[34]⟩ : ByteArray) = [34] from rfl, hasPrefix_one, trimPrefix_one] at H34
  rw [show bl (⟨#[39]⟩ : ByteArray) = [39] from rfl, hasPrefix_one, trimPrefix_one] at H39
  clear h hm
  cases hl : bl cur with
  | nil =>
    refine (value_plain b cur hsz w HR.out (by rw [hl]; simp) (by rw [hl]; simp)).mono ?_
    rintro e w' ⟨rfl, hw⟩
    exact ⟨_, _, _, rfl, hw, by rw [hl]; exact rfl⟩
  | cons x t =>
    rw [hl] at H34 H39
    rw [valueL]
    have hts : (⟨t.toArray⟩ : ByteArray).size ≤ 4294967280 := by
      have h1 := bl_length cur
      have h2 := bl_length ⟨t.toArray⟩
      rw [hl] at h1; rw [bl_of] at h2
      simp at h1; omega
    by_cases h34 : x = 34
    · subst h34
      rw [if_pos rfl]
      simp only [List.head?_cons, decide_true, List.drop_succ_cons, List.drop_zero, if_true] at H34
      have hq := quote_one b ⟨t.toArray⟩ 34 hts
      rw [bl_of] at hq
      have HQ := Lib.hid hq
      clear hq H39
      go_enter Tryz.func192, Tryz.ntmps192
      go_big_wp2_with (first
        | (go_at_call 168; refine (H34.out _ HR.out).mono ?_; rintro e w1 ⟨rfl, hm1⟩)
        | (go_at_call 213; refine (HQ.out _ hm1.rest (HM.out.grown hm1.grown)).mono ?_; rintro e w2 ⟨v, ok, c, rfl, hm2, hres⟩))
      go_ret2
      exact ⟨v, ok, c, rfl, hm1.trans hm2, hres⟩
    · rw [if_neg h34]
      have hn34 : decide ((x :: t).head? = some 34) = false := by simp [h34]
      have hi34 : (if (x :: t).head? = some 34 then (x :: t).drop 1 else x :: t) = bl cur := by rw [hl]; simp [h34]
      rw [hn34, hi34] at H34
      by_cases h39 : x = 39
      · subst h39
        rw [if_pos rfl]
        simp only [List.head?_cons, decide_true, List.drop_succ_cons, List.drop_zero, if_true] at H39
        have hq := quote_one b ⟨t.toArray⟩ 39 hts
        rw [bl_of] at hq
        have HQ := Lib.hid hq
        clear hq hl hn34 hi34 h34
        go_enter Tryz.func192, Tryz.ntmps192
        go_big_wp2_with (first
          | (go_at_call_of 168 (Value.string ⟨#[34]⟩); refine (H34.out _ HR.out).mono ?_; rintro e w1 ⟨rfl, hm1⟩)
          | (go_at_call_of 168 (Value.string ⟨#[39]⟩); refine (H39.out _ hm1.rest).mono ?_; rintro e w2 ⟨rfl, hm2⟩)
          | (go_at_call 213; refine (HQ.out _ hm2.rest (HM.out.grown (hm1.trans hm2).grown)).mono ?_; rintro e w3 ⟨v, ok, c, rfl, hm3, hres⟩))
        go_ret2
        exact ⟨v, ok, c, rfl, (hm1.trans hm2).trans hm3, hres⟩
      · rw [if_neg h39]
        refine (value_plain b cur hsz w HR.out (by rw [hl]; simp [h34]) (by rw [hl]; simp [h39])).mono ?_
        rintro e w' ⟨rfl, hw⟩
        refine ⟨_, _, _, rfl, hw, ?_⟩
        rw [hl]
        unfold ToldV
        cases h1 : (before plainStops (x :: t)).isEmpty with
        | true => simp
        | false =>
          cases h2 : (before plainStops (x :: t)).any badB with
          | true => simp
          | false => simp
end Go.Proofs.YtkfmfldkllkcbaaGreatDoor
namespace Go.TokenKit
open Go Go.Lib Go.CharrefKit
theorem quoted_size {q : UInt8} {l x r : Bytes} (h : quotedL q l = some (x, r)) : x.length ≤ l.length := by
  unfold quotedL at h
  split at h
  · simp only [Option.some.injEq, Prod.mk.injEq] at h
    rw [← h.1]
    have := before_len [q] l
    omega
  · cases h
theorem valueL_size {l x r : Bytes} (h : valueL l = some (x, r)) : x.length ≤ l.length := by
  cases l with
  | nil => cases h
  | cons b t =>
    rw [valueL] at h
    split at h
    · have := quoted_size h; simp only [List.length_cons]; omega
    · split at h
      · have := quoted_size h; simp only [List.length_cons]; omega
      · split at h
        · cases h
        · simp only [Option.some.injEq, Prod.mk.injEq] at h
          rw [← h.1]
          have := before_len plainStops (b :: t)
          omega
theorem attrL_bad {l n : Bytes} (hn : n = smallL (before nameStops l)) (h : n = [] ∨ wordL [45, 95] n = false) : attrL l = none := by
  unfold attrL
  simp only [← hn]
  rw [if_pos (by rcases h with h | h <;> simp [h])]
theorem attrL_bare {l n r : Bytes} (hn : n = smallL (before nameStops l)) (hr : r = skipL (behind nameStops l)) (h1 : n ≠ []) (h2 : wordL [45, 95] n = true) (h3 : hasPrefix r [61] = false) : attrL l = some ((n, []), r) := by
  unfold attrL
  simp only [← hn, ← hr]
  rw [if_neg (by simp [h1, h2])]
  cases r with
  | nil => rfl
  | cons b t =>
    rw [hasPrefix_one] at h3
    have : b ≠ 61 := by simpa using h3
    simp only [this, if_false]
theorem attrL_value {l n r : Bytes} (hn : n = smallL (before nameStops l)) (hr : r = skipL (behind nameStops l)) (h1 : n ≠ []) (h2 : wordL [45, 95] n = true) (h3 : hasPrefix r [61] = true) :
    attrL l = match valueL (skipL (trimPrefix r [61])) with
      | none => none
      | some (v, r'') => some ((n, decodeL true v), r'') := by
  unfold attrL
  simp only [← hn, ← hr]
  rw [if_neg (by simp [h1, h2])]
  rw [hasPrefix_one] at h3
  rw [trimPrefix_one]
  cases r with
  | nil => simp at h3
  | cons b t =>
    have : b = 61 := by simpa using h3
    subst this
    simp only [List.head?_cons, if_true, List.drop_succ_cons, List.drop_zero]
    rfl
/-- What the reader of an attribute tells, against the document's. -/
def ToldA (o : Option (At × Bytes)) (n v : ByteArray) (e : Int) (c : ByteArray) : Prop := match o with
  | none => e = 41
  | some ((x, y), r) => e = 0 ∧ n = ⟨x.toArray⟩ ∧ v = ⟨y.toArray⟩ ∧ c = ⟨r.toArray⟩
end Go.TokenKit
namespace Go.Proofs.YtkfmfldkllkcbaaGreatDoor
open Go.RowKit Go.RunKit Go.CharrefKit Go.Lib Go.TokenKit

abbrev TAt : TypeId := 40
theorem results_row_tmp {P : Program} {fn : Func} {p u : Tmp} {ty : TypeId} (h : fn.results = #[.cell p ty, .tmp u]) (tmps : Array Value) (w : World) (g : Nat) (t : TypeId) (cs : Array Value) (fr : Nat × Nat) (d : TypeDesc)
    (hp : tmps.getD p undef = .pointer (some ⟨g, 0, none⟩)) (hg : w.heap[g]? = some (.cells cs t fr))
    (hu : P.underlying ty = some d) (hd : (match d with | .struct _ | .array _ _ => true | _ => false) = true) (hi : (P.info? ty).map (·.size) = some cs.size) :
    (results fn tmps).run P w = .ok (.tuple #[.agg cs, tmps.getD u undef]) w := by
  rw [results_cell_tmp h, hp]
  simp [asAddr, run_loadVar_row w g t ty cs fr d hg hu hd hi, Result.andThen]

theorem size_le {x : ByteArray} {l : List UInt8} (h : bl x = l) {n : Nat} (hl : l.length ≤ n) : x.size ≤ n := by rw [← bl_length, h]; exact hl
theorem small_len (l : List UInt8) : (smallL l).length = l.length := by simp [smallL]
theorem trimPrefix_len (l p : List UInt8) : (trimPrefix l p).length ≤ l.length := by
  unfold trimPrefix; split <;> simp
theorem below_of_old {w W : World} {b : Nat} {c : ByteArray} {g : Nat} {o : Obj} (h : Moved w b c W) (hg : w.heap[g]? = some o) (hne : g ≠ b) : W.heap[g]? = some o := by
  rw [h.grown.block g (Array.getElem?_eq_some_iff.1 hg).1 (by simpa using hne)]; exact hg

theorem toldV_size {l : List UInt8} {v c : ByteArray} {ok : Bool} (h : ToldV (valueL l) v ok c) (hok : ok = true) : v.size ≤ l.length := by
  cases hv : valueL l with
  | none => rw [hv] at h; exact absurd (hok.symm.trans h) (by decide)
  | some x =>
    obtain ⟨x, r⟩ := x
    rw [hv] at h
    have hx : x.length ≤ l.length := valueL_size hv
    rw [h.2.1, ← bl_length, bl_of]; exact hx
theorem Moved.newset {w W : World} {b g i : Nat} {c : ByteArray} {v : Value} (h : Moved w b c W) (hg : w.heap.size ≤ g) (hne : g ≠ b) : Moved w b c (W.setCell ⟨g, i, none⟩ v) :=
  ⟨⟨h.grown.os, h.grown.tape, h.grown.output, by simpa [World.setCell] using h.grown.size, fun k hk hn => (heap_setCell_other W ⟨g, i, none⟩ k v (by show k ≠ g; omega)).trans (h.grown.block k hk hn)⟩,
    (heap_setCell_other W ⟨g, i, none⟩ b v (by show b ≠ g; omega)).trans h.rest⟩
theorem set2 {W : World} {g : Nat} {a c x y : Value} {T : TypeId} (h : W.heap[g]? = some (.cells #[a, c] T (0, 0))) :
    ((W.setCell ⟨g, 0, none⟩ x).setCell ⟨g, 1, none⟩ y).heap[g]? = some (.cells #[x, y] T (0, 0)) := by
  have := heap_setCell_same _ g 1 _ _ y (heap_setCell_same W g 0 _ _ x h)
  simpa using this
theorem dec_room {v c4 cur : ByteArray} {ok : Bool} (h : ok = true → v.size ≤ (bl c4).length) (hk : (!ok) = false) (h4 : c4.size ≤ cur.size) (hs : cur.size ≤ 4294967280) : v.size ≤ 1099511627776 := by
  have := h (by simpa using hk)
  rw [bl_length] at this
  omega
theorem local2 {W : World} {g : Nat} {a c : Value} {T : TypeId} (h : W.heap[g]? = some (.cells #[a, c] T (0, 0))) :
    W.cell? ⟨g, 0, none⟩ = some a ∧ W.cell? ⟨g, 1, none⟩ = some c ∧ W.frozen? ⟨g, 0, none⟩ = false ∧ W.frozen? ⟨g, 1, none⟩ = false :=
  ⟨by simp [World.cell?, h], by simp [World.cell?, h], frozen_of_row W g 0 _ _ h, frozen_of_row W g 1 _ _ h⟩
set_option maxRecDepth 100000 in
set_option maxHeartbeats 2000000 in
theorem attribute_any (b : Nat) (cur : ByteArray) (hsz : cur.size ≤ 4294967280) (w : World) (h : RB w b cur) (hm : Maxed w b) :
    Calls Tryz.prog 169 #[.pointer (some ⟨b, 0, none⟩)] w fun e w' => ∃ n v er c, e = .returned (.tuple #[.agg #[.string n, .string v], .int .i64 er]) ∧ Moved w b c w' ∧ ToldA (attrL (bl cur)) n v er c := by
  have hbl := bl_length cur
  have hlt := h.lt
  obtain ⟨nm0, hnm0, e0⟩ : ∃ x : ByteArray, x = ⟨(before nameStops (bl cur)).toArray⟩ ∧ bl x = before nameStops (bl cur) := ⟨_, rfl, bl_of _⟩
  obtain ⟨c1, hc1, f1⟩ : ∃ x : ByteArray, x = ⟨(behind nameStops (bl cur)).toArray⟩ ∧ bl x = behind nameStops (bl cur) := ⟨_, rfl, bl_of _⟩
  obtain ⟨nm, hnm, e1⟩ : ∃ x : ByteArray, x = ⟨(smallL (bl nm0)).toArray⟩ ∧ bl x = smallL (bl nm0) := ⟨_, rfl, bl_of _⟩
  obtain ⟨c2, hc2, f2⟩ : ∃ x : ByteArray, x = ⟨(skipL (bl c1)).toArray⟩ ∧ bl x = skipL (bl c1) := ⟨_, rfl, bl_of _⟩
  obtain ⟨c3, hc3, f3⟩ : ∃ x : ByteArray, x = ⟨(Lib.trimPrefix (bl c2) [61]).toArray⟩ ∧ bl x = Lib.trimPrefix (bl c2) [61] := ⟨_, rfl, bl_of _⟩
  obtain ⟨c4, hc4, f4⟩ : ∃ x : ByteArray, x = ⟨(skipL (bl c3)).toArray⟩ ∧ bl x = skipL (bl c3) := ⟨_, rfl, bl_of _⟩
  have l0 := before_len nameStops (bl cur)
  have l2 := skip_len (bl c1)
  rw [← f2] at l2
  have l3 := trimPrefix_len (bl c2) [61]
  rw [← f3] at l3
  have l4 := skip_len (bl c3)
  rw [← f4] at l4
  rw [← f1] at l0
  have sn0 : nm0.size ≤ cur.size := by rw [← bl_length, e0]; omega
  have sn : nm.size ≤ cur.size := by rw [← bl_length, e1, small_len, bl_length]; exact sn0
  have s4 : c4.size ≤ cur.size := by rw [← bl_length]; omega
  have HU : Hid (∀ w, RB w b cur → _) := Lib.hid fun w h => takeUpTo_any b cur ⟨#[9, 10, 12, 32, 61, 47, 62]⟩ (by decide) (by decide) (ascii_of_all (by decide)) hsz w h
  rw [show bl (⟨#[9, 10, 12, 32, 61, 47, 62]⟩ : ByteArray) = nameStops from rfl, ← hnm0, ← hc1] at HU
  have HS := Lib.hid fun w => small_any nm0 (by omega) w
  rw [← hnm] at HS
  obtain ⟨z, HZ⟩ : ∃ z, Hid (wordL [45, 95] (bl nm) = z) := ⟨_, Lib.hid rfl⟩
  have HW := Lib.hid fun w => isWord_any nm ⟨#[45, 95]⟩ (by omega) w
  rw [show wordL (bl (⟨#[45, 95]⟩ : ByteArray)) (bl nm) = z from HZ.out] at HW
  have HL1 := Lib.hid fun w h => leave_any b c1 w h
  rw [← hc2] at HL1
  obtain ⟨p, HP⟩ : ∃ p, Hid (Lib.hasPrefix (bl c2) [61] = p) := ⟨_, Lib.hid rfl⟩
  have HT := Lib.hid fun w h => took_any b c2 ⟨#[61]⟩ w h
  rw [show bl (⟨#[61]⟩ : ByteArray) = [61] from rfl, HP.out, ← hc3] at HT
  have HL2 := Lib.hid fun w h => leave_any b c3 w h
  rw [← hc4] at HL2
  have HV := Lib.hid fun w h hm => value_any b c4 (by omega) w h hm
  have HE := Lib.hid (And.intro e0 (And.intro e1 (And.intro f1 (And.intro f2 (And.intro f3 (And.intro f4 (And.intro hc2 hc3)))))))
  have hne : w.heap.size ≠ b := by omega
  have H0 : Hid (Moved w b cur (w.alloc (.cells #[.string ⟨#[]⟩, .string ⟨#[]⟩] TAt))) := Lib.hid ((Moved.refl h).on ((Below.refl _ _).alloc (Nat.le_refl _) _))
  have G0 : Hid ((w.alloc (.cells #[.string ⟨#[]⟩, .string ⟨#[]⟩] TAt)).heap[w.heap.size]? = some (.cells #[.string ⟨#[]⟩, .string ⟨#[]⟩] TAt (0, 0))) := Lib.hid (heap_alloc_new w _)
  have hcell := H0.out.rest.cell
  have HM0 := Lib.hid (hm.below ((Below.refl w.heap.size w).alloc (Nat.le_refl _) (.cells #[.string ⟨#[]⟩, .string ⟨#[]⟩] TAt)))
  clear hnm0 e0 hc1 f1 hnm e1 hc2 f2 hc3 f3 hc4 f4 l0 l2 l3 l4 hbl h hm
  go_enter Tryz.func169, Tryz.ntmps169
  go_big_wp2_with (first
    | (go_at_call 165; refine (HU.out _ H0.out.rest).mono ?_; rintro e w1 ⟨rfl, hm1⟩)
    | (go_at_call 116; refine (HS.out _).mono ?_; rintro e w2 ⟨rfl, hb2⟩; have hg2 := (hm1.on hb2); obtain ⟨hx0, hx1, hz0, hz1⟩ := local2 (below_of_old hg2 G0.out hne))
    | (go_at_call 166; refine (HW.out _).mono ?_; rintro e w3 ⟨rfl, rfl⟩)
    | (go_at_call 167; refine (HL1.out _ hg2.rest).mono ?_; rintro e w4 ⟨rfl, hm4⟩; have hg4 := hg2.trans hm4; clear HL1)
    | (go_at_call 168; refine (HT.out _ hg4.rest).mono ?_; rintro e w5 ⟨rfl, hm5⟩; have hg5 := hg4.trans hm5; clear hx0 hx1 hz0 hz1; obtain ⟨hx0, hx1, hz0, hz1⟩ := local2 (below_of_old hg5 G0.out hne))
    | (go_at_call 167; refine (HL2.out _ hg5.rest).mono ?_; rintro e w6 ⟨rfl, hm6⟩; have hg6 := hg5.trans hm6)
    | (go_at_call 192; refine (HV.out _ hg6.rest (HM0.out.grown hg6.grown)).mono ?_; rintro e w7 ⟨v, ok, c, rfl, hm7, hv⟩; have hvs := toldV_size hv; have hg7 := hg6.trans hm7; clear hx0 hx1 hz0 hz1; obtain ⟨hx0, hx1, hz0, hz1⟩ := local2 (below_of_old hg7 G0.out hne))
    | (go_at_call 141; refine (decode_any true v (dec_room hvs (by assumption) s4 hsz) _).mono ?_; rintro e w8 ⟨rfl, hb8⟩; have hg8 := hg7.on hb8; clear hx0 hx1 hz0 hz1; obtain ⟨hx0, hx1, hz0, hz1⟩ := local2 (below_of_old hg8 G0.out hne)))
  all_goals
    obtain ⟨e0, e1, f1, f2, f3, f4, hc2, hc3⟩ := HE.out
    have hn : bl nm = smallL (before nameStops (bl cur)) := by rw [e1, e0]
    have hr : bl c2 = skipL (behind nameStops (bl cur)) := by rw [f2, f1]
    have hW0 : Below w.heap.size w (w.alloc (.cells #[.string ⟨#[]⟩, .string ⟨#[]⟩] TAt)) := (Below.refl _ _).alloc (Nat.le_refl _) _
  · rename_i hE
    rw [Lib.toList_data] at hE
    refine bodyPost_ret (results_row_tmp rfl _ _ w.heap.size TAt _ _ _ rfl (set2 (below_of_old hg2 G0.out hne)) Tryz.underlying40 rfl (by kernel_rfl)) rfl ?_
    refine ⟨_, _, _, c1, rfl, ((hg2.from_ hW0).newset (Nat.le_refl _) hne).newset (Nat.le_refl _) hne, ?_⟩
    rw [attrL_bad hn (.inl hE)]; rfl
  · rename_i hE hO
    rw [Lib.toList_data] at hE
    refine bodyPost_ret (results_row_tmp rfl _ _ w.heap.size TAt _ _ _ rfl (set2 (below_of_old hg2 G0.out hne)) Tryz.underlying40 rfl (by kernel_rfl)) rfl ?_
    refine ⟨_, _, _, c1, rfl, ((hg2.from_ hW0).newset (Nat.le_refl _) hne).newset (Nat.le_refl _) hne, ?_⟩
    have hz : z = false := by
      rcases hO with hO | hO
      · rw [Lib.toList_data] at hO; exact absurd (by simpa using hO) hE
      · simpa using hO
    rw [attrL_bad hn (.inr (HZ.out.trans hz))]; rfl
  · have hE : ¬ nm.toList = [] := by assumption
    have hO : nm.toList.isEmpty = false ∧ (!z) = false := by assumption
    have hp : (!p) = true := by assumption
    rw [Lib.toList_data] at hE
    have hz : z = true := by simpa using hO.2
    have hp : p = false := by simpa using hp
    refine bodyPost_ret (results_row_tmp rfl _ _ w.heap.size TAt _ _ _ rfl (set2 (below_of_old hg5 G0.out hne)) Tryz.underlying40 rfl (by kernel_rfl)) rfl ?_
    refine ⟨_, _, _, c3, rfl, ((hg5.from_ hW0).newset (Nat.le_refl _) hne).newset (Nat.le_refl _) hne, ?_⟩
    rw [attrL_bare hn hr hE (HZ.out.trans hz) (HP.out.trans hp)]
    refine ⟨rfl, rfl, rfl, ?_⟩
    rw [hc3]
    unfold Lib.trimPrefix
    rw [HP.out, hp]; rfl
  · have hE : ¬ nm.toList = [] := by assumption
    have hO : nm.toList.isEmpty = false ∧ (!z) = false := by assumption
    have hp : (!p) = false := by assumption
    have hok : (!ok) = true := by assumption
    rw [Lib.toList_data] at hE
    have hz : z = true := by simpa using hO.2
    have hp : p = true := by simpa using hp
    have hok : ok = false := by simpa using hok
    refine bodyPost_ret (results_row_tmp rfl _ _ w.heap.size TAt _ _ _ rfl (set2 (below_of_old hg7 G0.out hne)) Tryz.underlying40 rfl (by kernel_rfl)) rfl ?_
    refine ⟨_, _, _, c, rfl, ((hg7.from_ hW0).newset (Nat.le_refl _) hne).newset (Nat.le_refl _) hne, ?_⟩
    rw [attrL_value hn hr hE (HZ.out.trans hz) (HP.out.trans hp), ← f3, ← f4]
    cases hvl : valueL (bl c4) with
    | none => rfl
    | some x =>
      rw [hvl] at hv
      exact absurd (hok.symm.trans hv.1) (by decide)
  · have hE : ¬ nm.toList = [] := by assumption
    have hO : nm.toList.isEmpty = false ∧ (!z) = false := by assumption
    have hp : (!p) = false := by assumption
    have hok : (!ok) = false := by assumption
    rw [Lib.toList_data] at hE
    have hz : z = true := by simpa using hO.2
    have hp : p = true := by simpa using hp
    have hok : ok = true := by simpa using hok
    refine bodyPost_ret (results_row_tmp rfl _ _ w.heap.size TAt _ _ _ rfl (set2 (below_of_old hg8 G0.out hne)) Tryz.underlying40 rfl (by kernel_rfl)) rfl ?_
    refine ⟨_, _, _, c, rfl, ((hg8.from_ hW0).newset (Nat.le_refl _) hne).newset (Nat.le_refl _) hne, ?_⟩
    rw [attrL_value hn hr hE (HZ.out.trans hz) (HP.out.trans hp), ← f3, ← f4]
    cases hvl : valueL (bl c4) with
    | none =>
      rw [hvl] at hv
      exact absurd (hok.symm.trans hv) (by decide)
    | some x =>
      obtain ⟨x, r⟩ := x
      rw [hvl] at hv
      obtain ⟨_, hv2, hv3⟩ := hv
      exact ⟨rfl, rfl, by rw [hv2, bl_of], hv3⟩
end Go.Proofs.YtkfmfldkllkcbaaGreatDoor
namespace Go.Proofs.YtkfmfldkllkcbaaGreatDoor
open Go.RowKit Go.RunKit Go.CharrefKit Go.Lib Go.TokenKit Go.Shelf

def attrCells (l : List At) : List Value := l.flatMap fun a => [.string ⟨a.1.toArray⟩, .string ⟨a.2.toArray⟩]
theorem attrCells_len (l : List At) : (attrCells l).length = l.length * 2 := by
  induction l with
  | nil => rfl
  | cons a r ih => rw [attrCells, List.flatMap_cons, List.length_append]; show 2 + (attrCells r).length = _; rw [ih, List.length_cons]; omega
theorem attrCells_cons (a : At) (r : List At) : attrCells (a :: r) = .string ⟨a.1.toArray⟩ :: .string ⟨a.2.toArray⟩ :: attrCells r := rfl
theorem attrCells_snoc (l : List At) (a : At) : attrCells (l ++ [a]) = attrCells l ++ [.string ⟨a.1.toArray⟩, .string ⟨a.2.toArray⟩] := by simp [attrCells]
theorem attrCells_at : ∀ {l : List At} {k : Nat} {a : At}, l[k]? = some a → (attrCells l)[k * 2]? = some (.string ⟨a.1.toArray⟩) ∧ (attrCells l)[k * 2 + 1]? = some (.string ⟨a.2.toArray⟩)
  | [], k, a, h => by simp at h
  | x :: r, 0, a, h => by
    simp only [List.getElem?_cons_zero, Option.some.injEq] at h
    subst h
    exact ⟨rfl, rfl⟩
  | x :: r, k + 1, a, h => by
    have := attrCells_at (l := r) (k := k) (a := a) (by simpa using h)
    rw [attrCells_cons, show (k + 1) * 2 = k * 2 + 1 + 1 by omega]
    simpa using this
/-- Attributes in memory. -/
def AtRow (w : World) (base : Nat) (v : Value) (l : List At) : Prop := w.ownsRow base TAt 2 v l.length (attrCells l)
/-- What is read of them. -/
structure AtReads (w : World) (ao : Option Addr) (l : List At) : Prop where
  at_ : ∀ k a, l[k]? = some a → ∃ g, ao = some ⟨g, 0, none⟩ ∧ w.cell? ⟨g, k * 2, none⟩ = some (.string ⟨a.1.toArray⟩) ∧ w.cell? ⟨g, k * 2 + 1, none⟩ = some (.string ⟨a.2.toArray⟩)
theorem AtRow.reads {w : World} {base : Nat} {v : Value} {l : List At} (h : AtRow w base v l) : ∃ ao cap, v = .slice ao l.length cap ∧ AtReads w ao l := by
  rcases h.2 with ⟨rfl, hn⟩ | ⟨g, cap, cur, rfl, _⟩
  · refine ⟨none, 0, by rw [hn], ⟨fun k a ha => ?_⟩⟩
    have := (List.getElem?_eq_some_iff.1 ha).1
    omega
  · refine ⟨_, cap, rfl, ⟨fun k a ha => ⟨g, rfl, ?_⟩⟩⟩
    have hk := (List.getElem?_eq_some_iff.1 ha).1
    obtain ⟨h1, h2⟩ := attrCells_at ha
    exact ⟨by rw [World.ownsRow.cellAt h (k * 2) (by omega)]; exact h1, by rw [World.ownsRow.cellAt h (k * 2 + 1) (by omega)]; exact h2⟩
theorem AtReads.on {w w' : World} {ao : Option Addr} {l : List At} (h : AtReads w ao l) (hb : Below w.heap.size w w') : AtReads w' ao l := ⟨fun k a ha => by
  obtain ⟨g, e, h1, h2⟩ := h.at_ k a ha
  exact ⟨g, e, by rw [hb.cell (World.block_lt_of_cell? _ _ h1)]; exact h1, by rw [hb.cell (World.block_lt_of_cell? _ _ h2)]; exact h2⟩⟩

set_option maxRecDepth 100000 in
set_option maxHeartbeats 400000 in
theorem asksName (p : Nat) (x y n : ByteArray) (w : World) (h : w.cell? ⟨p, 0, none⟩ = some (.string n)) :
    Calls Tryz.prog 193 #[.agg #[.string x, .string y], .pointer (some ⟨p, 0, none⟩)] w fun e w' => e = .returned (.bool (bl x == bl n)) ∧ Below w.heap.size w w' := by
  have hlt : p < w.heap.size := World.block_lt_of_cell? _ _ h
  have hcell : (w.alloc (.cells #[.string x, .string y] TAt)).cell? ⟨p, 0, none⟩ = some (.string n) := by
    rw [((Below.refl w.heap.size w).alloc (Nat.le_refl _) (.cells #[.string x, .string y] TAt)).cell hlt]; exact h
  go_enter Tryz.func193, Tryz.ntmps193
  go_big_wp2
  go_ret
  exact ⟨by rw [show (bl x == bl n) = (x.toList == n.toList) by rw [Lib.toList_data, Lib.toList_data]; rfl]; rfl, (Below.refl _ _).alloc (Nat.le_refl _) _⟩

/-- None of the first k has this name. -/
def NoName (n : ByteArray) (l : List At) (k : Nat) : Prop := ∀ j a, j < k → l[j]? = some a → (a.1 == bl n) = false
theorem noName_all {n : ByteArray} {l : List At} (h : NoName n l l.length) : l.any (fun a => a.1 == bl n) = false := by
  rw [List.any_eq_false]
  intro a ha
  obtain ⟨j, hj⟩ := List.mem_iff_getElem?.1 ha
  rw [h j a (List.getElem?_eq_some_iff.1 hj).1 hj]; decide
theorem noName_hit {n : ByteArray} {l : List At} {k : Nat} {a : At} (h : l[k]? = some a) (e : (a.1 == bl n) = true) : l.any (fun a => a.1 == bl n) = true :=
  List.any_eq_true.2 ⟨a, List.mem_of_getElem? h, e⟩

set_option maxRecDepth 100000 in
set_option maxHeartbeats 1000000 in
theorem indexName (p : Nat) (ao : Option Addr) (cap : Nat) (l : List At) (n : ByteArray) (w : World) (hl : l.length ≤ 4294967296) (h : w.cell? ⟨p, 0, none⟩ = some (.string n)) (hr : AtReads w ao l) :
    Calls Tryz.prog 157 #[.slice ao l.length cap, .func (.func 193) #[] #[.pointer (some ⟨p, 0, none⟩)]] w fun e w' =>
      ∃ i : Int, e = .returned (.int .i64 i) ∧ Below w.heap.size w w' ∧ decide (0 ≤ i) = l.any (fun a => a.1 == bl n) := by
  have HR := Lib.hid hr
  have HP := Lib.hid h
  have hlt : p < w.heap.size := World.block_lt_of_cell? _ _ h
  have eg := enters_of Tryz.func193 (by kernel_rfl) rfl
  clear h hr
  go_enter Tryz.func157, Tryz.ntmps157
  go_wp2
  go_loopw [8] (fun v wr => ∃ k : Nat, v = .int .i64 (k : Nat) ∧ k ≤ l.length ∧ Hid (Below w.heap.size w wr) ∧ Hid (NoName n l k)) (fun v _ => l.length - (RowKit.intOf v).toNat)
  case atStart => exact ⟨0, rfl, Nat.zero_le _, Lib.hid (Below.refl _ _), Lib.hid fun j a h => by omega⟩
  case round =>
    obtain ⟨k, rfl, hk, HB, HN⟩ := hrel
    by_cases hkl : k < l.length
    · have hkI : (k : Int) < l.length := by omega
      obtain ⟨a, ha⟩ : ∃ a, l[k]? = some a := ⟨l[k], by simp [hkl]⟩
      obtain ⟨g, rfl, h1, h2⟩ := HR.out.at_ k a ha
      have hg := World.block_lt_of_cell? _ _ h1
      have c1 : wr.cell? ⟨g, k * 2, none⟩ = some (.string ⟨a.1.toArray⟩) := by rw [HB.out.cell hg]; exact h1
      have c2 : wr.cell? ⟨g, k * 2 + 1, none⟩ = some (.string ⟨a.2.toArray⟩) := by rw [HB.out.cell (World.block_lt_of_cell? _ _ h2)]; exact h2
      have cp : wr.cell? ⟨p, 0, none⟩ = some (.string n) := by rw [HB.out.cell hlt]; exact HP.out
      have hq := asksName p ⟨a.1.toArray⟩ ⟨a.2.toArray⟩ n wr cp
      rw [bl_of] at hq
      have HA := Lib.hid ha
      cases hz : a.1 == bl n with
      | true =>
        rw [hz] at hq
        have HQ := Lib.hid hq
        have HZ := Lib.hid hz
        clear hq hz ha h1 h2 cp
        go_wp2_with (go_at_call 193; refine HQ.out.mono ?_; rintro e w1 ⟨rfl, hb1⟩)
        go_ret
        exact ⟨_, rfl, HB.out.trans (hb1.mono HB.out.size), by rw [noName_hit HA.out HZ.out]; simp⟩
      | false =>
        rw [hz] at hq
        have HQ := Lib.hid hq
        have HZ := Lib.hid hz
        clear hq hz ha h1 h2 cp
        go_wp2_with (go_at_call 193; refine HQ.out.mono ?_; rintro e w1 ⟨rfl, hb1⟩)
        refine ⟨⟨k + 1, rfl, by omega, Lib.hid (HB.out.trans (hb1.mono HB.out.size)), Lib.hid fun j b hj hb => ?_⟩, by simp [RowKit.intOf]; omega⟩
        by_cases e : j = k
        · subst e; rw [HA.out] at hb; cases hb; exact HZ.out
        · exact HN.out j b (by omega) hb
    · obtain rfl : k = l.length := by omega
      go_wp2
      go_ret
      exact ⟨_, rfl, HB.out, by rw [noName_all HN.out]; rfl⟩

set_option maxRecDepth 100000 in
set_option maxHeartbeats 400000 in
theorem containsName (p : Nat) (ao : Option Addr) (cap : Nat) (l : List At) (n : ByteArray) (w : World) (hl : l.length ≤ 4294967296) (h : w.cell? ⟨p, 0, none⟩ = some (.string n)) (hr : AtReads w ao l) :
    Calls Tryz.prog 128 #[.slice ao l.length cap, .func (.func 193) #[] #[.pointer (some ⟨p, 0, none⟩)]] w fun e w' =>
      e = .returned (.bool (l.any (fun a => a.1 == bl n))) ∧ Below w.heap.size w w' := by
  have HI := Lib.hid (indexName p ao cap l n w hl h hr)
  clear h hr
  go_enter Tryz.func128, Tryz.ntmps128
  go_wp2_with (go_at_call 157; refine HI.out.mono ?_; rintro e w1 ⟨i, rfl, hb1, hi⟩)
  go_ret
  exact ⟨by rw [← hi]; rfl, hb1⟩

/-- P4.1: what is wrong with one attribute more. -/
def joinE (l : List At) (n : Bytes) : Int := if l.any (fun a => a.1 == n) then 41 else if 16 ≤ l.length then 3 else 0

set_option maxRecDepth 100000 in
set_option maxHeartbeats 1000000 in
theorem mayJoin_any (ao : Option Addr) (cap : Nat) (l : List At) (n v : ByteArray) (w : World) (hl : l.length ≤ 4294967296) (hr : AtReads w ao l) :
    Calls Tryz.prog 170 #[.slice ao l.length cap, .agg #[.string n, .string v]] w fun e w' => e = .returned (.int .i64 (joinE l (bl n))) ∧ Below w.heap.size w w' := by
  have hb0 : Below w.heap.size w (w.alloc (.cells #[.string n, .string v] TAt)) := (Below.refl _ _).alloc (Nat.le_refl _) _
  have hgn : (w.alloc (.cells #[.string n, .string v] TAt)).heap[w.heap.size]? = some (.cells #[.string n, .string v] TAt) := heap_alloc_new w _
  have hi := containsName w.heap.size ao cap l n (w.alloc (.cells #[.string n, .string v] TAt)) hl (by simp only [World.cell?, hgn]; rfl) (hr.on hb0)
  have HB := Lib.hid hb0
  obtain ⟨z, hz⟩ : ∃ z, l.any (fun a => a.1 == bl n) = z := ⟨_, rfl⟩
  rw [hz] at hi
  have HI := Lib.hid hi
  unfold joinE
  rw [hz]
  clear hr hb0 hi hz hgn
  go_enter Tryz.func170, Tryz.ntmps170
  go_big_wp2_with (go_at_call 128; refine HI.out.mono ?_; rintro e w1 ⟨rfl, hb1⟩)
  all_goals (go_ret; exact ⟨rfl, HB.out.trans (hb1.mono HB.out.size)⟩)
end Go.Proofs.YtkfmfldkllkcbaaGreatDoor
namespace Go.TokenKit
open Go Go.Lib Go.CharrefKit
end Go.TokenKit
namespace Go.Proofs.YtkfmfldkllkcbaaGreatDoor
open Go.RowKit Go.RunKit Go.CharrefKit Go.Lib Go.TokenKit

abbrev TTk : TypeId := 25
def tokVal (k : Nat) (nm : ByteArray) (av : Value) (sf : Bool) (data : ByteArray) : Array Value := #[.int .u8 (k : Nat), .string nm, av, .bool sf, .string data]
def tokZero : Array Value := #[.int .u8 0, .string ⟨#[]⟩, .slice none 0 0, .bool false, .string ⟨#[]⟩]
theorem atRow_ne {w : World} {base k : Nat} {v : Value} {l : List At} {cs : Array Value} {T : TypeId} {fr : Nat × Nat} (h : AtRow w base v l) (hk : w.heap[k]? = some (.cells cs T fr)) (hT : T ≠ TAt) : v.ownBlock ≠ some k := by
  intro e
  rcases h.2 with ⟨rfl, _⟩ | ⟨g, cap, cur, rfl, _, hg, _⟩
  · simp [Value.ownBlock] at e
  · simp only [Value.ownBlock, Option.some.injEq] at e
    subst e
    rw [hk] at hg
    simp only [Option.some.injEq, Obj.cells.injEq] at hg
    exact hT hg.2.1
theorem AtRow.kept {w w' : World} {base k : Nat} {v : Value} {l : List At} {cs : Array Value} {T : TypeId} {fr : Nat × Nat} (h : AtRow w base v l) (hk : w.heap[k]? = some (.cells cs T fr)) (hT : T ≠ TAt) (hg : w.grownBy w' (some k)) : AtRow w' base v l :=
  World.ownsRow.kept h hg (.inr (atRow_ne h hk hT))
theorem AtRow.on {w w' : World} {base : Nat} {v : Value} {l : List At} (h : AtRow w base v l) (hb : Below w.heap.size w w') : AtRow w' base v l :=
  World.ownsRow.kept h (grown_below hb none) (by cases v.ownBlock <;> simp)
/-- What is held at the loop's head. -/
structure TagAt (w : World) (b g : Nat) (kd : Nat) (nm cur : ByteArray) (av : Value) (sf : Bool) (l : List At) (wr : World) : Prop where
  moved : Moved w b cur wr
  tok : wr.heap[g]? = some (.cells (tokVal kd nm av sf ⟨#[]⟩) TTk (0, 0))
  res : wr.heap[w.heap.size]? = some (.cells tokZero TTk (0, 0))
  row : AtRow wr w.heap.size av l
  ne : g ≠ b ∧ w.heap.size < g ∧ b < w.heap.size
theorem TagAt.on {w : World} {b g kd : Nat} {nm cur cur' : ByteArray} {av : Value} {sf : Bool} {l : List At} {wr wr' : World} (h : TagAt w b g kd nm cur av sf l wr) (m : Moved wr b cur' wr') : TagAt w b g kd nm cur' av sf l wr' :=
  ⟨h.moved.trans m, below_of_old m h.tok h.ne.1, below_of_old m h.res (by have := h.ne; omega), h.row.kept h.moved.rest (by decide) m.grown, h.ne⟩
theorem TagAt.below {w : World} {b g kd : Nat} {nm cur : ByteArray} {av : Value} {sf : Bool} {l : List At} {wr wr' : World} (h : TagAt w b g kd nm cur av sf l wr) (m : Below wr.heap.size wr wr') : TagAt w b g kd nm cur av sf l wr' :=
  h.on ((Moved.refl h.moved.rest).on m)
/-- The five cells of a token in memory. -/
theorem local5 {W : World} {g : Nat} {a0 a1 a2 a3 a4 : Value} {T : TypeId} (h : W.heap[g]? = some (.cells #[a0, a1, a2, a3, a4] T (0, 0))) :
    (W.cell? ⟨g, 0, none⟩ = some a0 ∧ W.cell? ⟨g, 1, none⟩ = some a1 ∧ W.cell? ⟨g, 2, none⟩ = some a2 ∧ W.cell? ⟨g, 3, none⟩ = some a3 ∧ W.cell? ⟨g, 4, none⟩ = some a4) ∧
    (W.frozen? ⟨g, 0, none⟩ = false ∧ W.frozen? ⟨g, 1, none⟩ = false ∧ W.frozen? ⟨g, 2, none⟩ = false ∧ W.frozen? ⟨g, 3, none⟩ = false ∧ W.frozen? ⟨g, 4, none⟩ = false) :=
  ⟨⟨by simp [World.cell?, h], by simp [World.cell?, h], by simp [World.cell?, h], by simp [World.cell?, h], by simp [World.cell?, h]⟩, frozen_of_row W g 0 _ _ h, frozen_of_row W g 1 _ _ h, frozen_of_row W g 2 _ _ h, frozen_of_row W g 3 _ _ h, frozen_of_row W g 4 _ _ h⟩

theorem tagStart {w w2 : World} {b : Nat} {c : ByteArray} (kd : Nat) (nm : ByteArray) (hlt : b < w.heap.size) (hm : Moved (w.alloc (.cells tokZero TTk)) b c w2) :
    TagAt w b w2.heap.size kd nm c (.slice none 0 0) false [] (w2.alloc (.cells (tokVal kd nm (.slice none 0 0) false ⟨#[]⟩) TTk)) := by
  have h1 : w.heap.size < w2.heap.size := by
    have := hm.grown.size
    simp at this; omega
  have hb2 : Below w2.heap.size w2 (w2.alloc (.cells (tokVal kd nm (.slice none 0 0) false ⟨#[]⟩) TTk)) := (Below.refl _ _).alloc (Nat.le_refl _) _
  refine ⟨(hm.from_ ((Below.refl _ _).alloc (Nat.le_refl _) _)).on hb2, heap_alloc_new w2 _, ?_, World.ownsRow_nil _ _ _ _, by omega, h1, hlt⟩
  rw [hb2.block _ h1]
  exact below_of_old hm (heap_alloc_new w _) (by omega)
theorem tagFrom {w W W' : World} {b g kd : Nat} {nm cur : ByteArray} {av : Value} {sf : Bool} {l : List At} (h : TagAt w b g kd nm cur av sf l W) (e : W = W') : TagAt w b g kd nm cur av sf l W' := e ▸ h
theorem Moved.newrow {w W : World} {b g : Nat} {c : ByteArray} (h : Moved w b c W) (hg : w.heap.size ≤ g) (hne : g ≠ b) (v0 v1 v2 v3 v4 : Value) :
    Moved w b c (((((W.setCell ⟨g, 0, none⟩ v0).setCell ⟨g, 1, none⟩ v1).setCell ⟨g, 2, none⟩ v2).setCell ⟨g, 3, none⟩ v3).setCell ⟨g, 4, none⟩ v4) :=
  ((((h.newset hg hne).newset hg hne).newset hg hne).newset hg hne).newset hg hne
theorem set5 {W : World} {g : Nat} {a0 a1 a2 a3 a4 v0 v1 v2 v3 v4 : Value} {T : TypeId} (h : W.heap[g]? = some (.cells #[a0, a1, a2, a3, a4] T (0, 0))) :
    (((((W.setCell ⟨g, 0, none⟩ v0).setCell ⟨g, 1, none⟩ v1).setCell ⟨g, 2, none⟩ v2).setCell ⟨g, 3, none⟩ v3).setCell ⟨g, 4, none⟩ v4).heap[g]? = some (.cells #[v0, v1, v2, v3, v4] T (0, 0)) := by
  have := heap_setCell_same _ g 4 _ _ v4 (heap_setCell_same _ g 3 _ _ v3 (heap_setCell_same _ g 2 _ _ v2 (heap_setCell_same _ g 1 _ _ v1 (heap_setCell_same W g 0 _ _ v0 h))))
  simpa using this
theorem grown_set (w : World) (g i : Nat) (v : Value) : w.grownBy (w.setCell ⟨g, i, none⟩ v) (some g) :=
  ⟨rfl, rfl, rfl, by simp [World.setCell], fun k _ hk => heap_setCell_other w ⟨g, i, none⟩ k v (fun e => hk (by rw [show k = g from e]))⟩
theorem AtRow.newrow {W : World} {base g : Nat} {av : Value} {l : List At} {cs : Array Value} {T : TypeId} (h : AtRow W base av l) (hk : W.heap[g]? = some (.cells cs T (0, 0))) (hT : T ≠ TAt) (v0 v1 v2 v3 v4 : Value) :
    AtRow (((((W.setCell ⟨g, 0, none⟩ v0).setCell ⟨g, 1, none⟩ v1).setCell ⟨g, 2, none⟩ v2).setCell ⟨g, 3, none⟩ v3).setCell ⟨g, 4, none⟩ v4) base av l :=
  h.kept hk hT (grown_trans (grown_trans (grown_trans (grown_trans (grown_set _ _ _ _) (grown_set _ _ _ _)) (grown_set _ _ _ _)) (grown_set _ _ _ _)) (grown_set _ _ _ _))
/-- How much the reader has not read yet. -/
def restAt (b : Nat) (w : World) : Nat := match w.heap[b]? with
  | some (.cells cs _ _) => (match cs[0]? with | some (Value.string s) => s.size | _ => 0)
  | _ => 0
theorem RB.restAt {w : World} {b : Nat} {cur : ByteArray} (h : RB w b cur) : restAt b w = cur.size := by
  unfold RB at h
  unfold Go.Proofs.YtkfmfldkllkcbaaGreatDoor.restAt
  rw [h]; rfl
theorem trimPrefix_no {l p : List UInt8} (h : Lib.hasPrefix l p = false) : Lib.trimPrefix l p = l := by unfold Lib.trimPrefix; rw [h]; rfl
/-- What the reader of a tag tells, against the document's. -/
def ToldT (o : Except Nat (Tok × Bytes)) (base : Nat) (cs : Array Value) (e : Int) (c : ByteArray) (w : World) : Prop := match o with
  | .error x => e = (x : Nat) ∧ cs = tokZero
  | .ok (t, r) => e = 0 ∧ c = ⟨r.toArray⟩ ∧ ∃ av, AtRow w base av t.attrs ∧ cs = tokVal t.kind ⟨t.name.toArray⟩ av t.self ⟨t.data.toArray⟩

theorem AtRow.at_ {w : World} {base n cap : Nat} {ao : Option Addr} {l : List At} (h : AtRow w base (.slice ao n cap) l) : AtReads w ao l := by
  obtain ⟨ao', cap', e, hr⟩ := h.reads
  cases e
  exact hr
theorem Tryz.infoAttr : (Tryz.prog.info? 40).map (fun i => (i.zero, i.size, i.bytes)) = some (some (.agg #[.string ⟨#[]⟩, .string ⟨#[]⟩]), 2, 32) := by kernel_rfl
theorem Moved.grew {w W0 W : World} {b : Nat} {c : ByteArray} {row : Option Nat} (h : Moved w b c W0) (hg : W0.grownBy W row) (hrow : ∀ k, row = some k → w.heap.size ≤ k) (hb : row ≠ some b) : Moved w b c W :=
  ⟨⟨hg.os.trans h.grown.os, hg.tape.trans h.grown.tape, hg.output.trans h.grown.output, Nat.le_trans h.grown.size hg.size, fun k hk hn =>
      (hg.block k (Nat.lt_of_lt_of_le hk h.grown.size) (fun e => by have := hrow k e.symm; omega)).trans (h.grown.block k hk hn)⟩,
    (hg.block b h.rest.lt (fun e => hb e.symm)).trans h.rest⟩
theorem TagAt.grew {w W0 W : World} {b g kd : Nat} {nm cur : ByteArray} {av av' : Value} {sf : Bool} {l l' : List At} (h : TagAt w b g kd nm cur av sf l W0) (hg : W0.grownBy W av.ownBlock) (hown : AtRow W w.heap.size av' l') :
    W.heap[g]? = some (.cells (tokVal kd nm av sf ⟨#[]⟩) TTk (0, 0)) ∧ TagAt w b g kd nm cur av' sf l' (W.setCell ⟨g, 2, none⟩ av') := by
  have ht : W.heap[g]? = some (.cells (tokVal kd nm av sf ⟨#[]⟩) TTk (0, 0)) := (hg.block g (Array.getElem?_eq_some_iff.1 h.tok).1 (fun e => atRow_ne h.row h.tok (by decide) e.symm)).trans h.tok
  have hr : W.heap[w.heap.size]? = some (.cells tokZero TTk (0, 0)) := (hg.block _ (Array.getElem?_eq_some_iff.1 h.res).1 (fun e => atRow_ne h.row h.res (by decide) e.symm)).trans h.res
  have hm := h.moved.grew hg (fun k hk => (World.ownsRow.lt h.row k hk).1) (atRow_ne h.row h.moved.rest (by decide))
  have hne := h.ne
  refine ⟨ht, hm.newset (by omega) hne.1, ?_, ?_, hown.kept ht (by decide) (grown_set _ _ _ _), hne⟩
  · have := heap_setCell_same W g 2 _ _ av' ht
    simpa [tokVal] using this
  · rw [heap_setCell_other _ _ _ _ (by show w.heap.size ≠ g; omega)]; exact hr
theorem news_alloc (w : World) (cs : List Value) (T : TypeId) : ∀ j u, cs[j]? = some u → (w.alloc (.cells cs.toArray T)).cell? ((⟨w.heap.size, 0, none⟩ : Addr).add j) = some u := by
  intro j u hu
  rw [add_at]
  have h := heap_alloc_new w (.cells cs.toArray T)
  simp only [World.cell?, h]
  simpa using hu
theorem sliceOf {w : World} {base : Nat} {e : TypeId} {size : Nat} {v : Value} {n : Nat} {xs : List Value} (h : w.ownsRow base e size v n xs) : ∃ a cap, v = .slice a n cap := by
  rcases h.2 with ⟨rfl, rfl⟩ | ⟨g, cap, cur, rfl, _⟩
  · exact ⟨_, _, rfl⟩
  · exact ⟨_, _, rfl⟩
/-- The last word, at an error. -/
theorem tellErr {kd : Nat} {cur nm0 nm c1 cur' c : ByteArray} {z : Bool} {l : List At} {x : Nat} {base : Nat} {W : World} (he : bl nm0 = before tagStops (bl cur) ∧ bl nm = smallL (bl nm0) ∧ bl c1 = behind tagStops (bl cur)) (hz : wordL [] (bl nm) = z) (hz2 : (!z) = false)
    (ha : attrsL l (bl cur') = attrsL [] (bl c1)) (hs : attrsL l (bl cur') = .error x) : ToldT (tagL kd (bl cur)) base tokZero (x : Nat) c W := by
  have hz : wordL [] (smallL (before tagStops (bl cur))) = true := by rw [← he.1, ← he.2.1, hz]; simpa using hz2
  have e : tagL kd (bl cur) = .error x := by
    unfold tagL
    rw [if_pos hz, ← he.2.2, ← ha, hs]
  rw [e]
  exact ⟨rfl, rfl⟩
/-- The last word, at an end. -/
theorem tellOk {kd : Nat} {cur nm0 nm c1 cur' : ByteArray} {z : Bool} {l : List At} {sf : Bool} {r : Bytes} {base : Nat} {av : Value} {W : World} (he : bl nm0 = before tagStops (bl cur) ∧ bl nm = smallL (bl nm0) ∧ bl c1 = behind tagStops (bl cur)) (hz : wordL [] (bl nm) = z) (hz2 : (!z) = false)
    (ha : attrsL l (bl cur') = attrsL [] (bl c1)) (hs : attrsL l (bl cur') = .ok (l, sf, r)) (hrow : AtRow W base av l) : ToldT (tagL kd (bl cur)) base (tokVal kd nm av sf ⟨#[]⟩) 0 ⟨r.toArray⟩ W := by
  have hz : wordL [] (smallL (before tagStops (bl cur))) = true := by rw [← he.1, ← he.2.1, hz]; simpa using hz2
  have e : tagL kd (bl cur) = .ok (⟨kd, smallL (before tagStops (bl cur)), l, sf, []⟩, r) := by
    unfold tagL
    rw [if_pos hz, ← he.2.2, ← ha, hs]
  rw [e]
  refine ⟨rfl, rfl, av, hrow, ?_⟩
  rw [show nm = ⟨(bl nm).toArray⟩ from rfl, he.2.1, he.1]
set_option maxRecDepth 100000 in
set_option maxHeartbeats 1000000 in
theorem tag_any (b kd : Nat) (cur : ByteArray) (hsz : cur.size ≤ 4294967280) (w : World) (h : RB w b cur) (hm : Maxed w b) :
    Calls Tryz.prog 143 #[.pointer (some ⟨b, 0, none⟩), .int .u8 (kd : Nat)] w fun e w' => ∃ cs er c, e = .returned (.tuple #[.agg cs, .int .i64 er]) ∧ Moved w b c w' ∧ ToldT (tagL kd (bl cur)) w.heap.size cs er c w' := by
  have hlt := h.lt
  have hbl := bl_length cur
  obtain ⟨nm0, hnm0, e0⟩ : ∃ x : ByteArray, x = ⟨(before tagStops (bl cur)).toArray⟩ ∧ bl x = before tagStops (bl cur) := ⟨_, rfl, bl_of _⟩
  obtain ⟨c1, hc1, f1⟩ : ∃ x : ByteArray, x = ⟨(behind tagStops (bl cur)).toArray⟩ ∧ bl x = behind tagStops (bl cur) := ⟨_, rfl, bl_of _⟩
  obtain ⟨nm, hnm, e1⟩ : ∃ x : ByteArray, x = ⟨(smallL (bl nm0)).toArray⟩ ∧ bl x = smallL (bl nm0) := ⟨_, rfl, bl_of _⟩
  have l0 := before_len tagStops (bl cur)
  have sn0 : nm0.size ≤ cur.size := by rw [← bl_length, e0]; omega
  have sn : nm.size ≤ cur.size := by rw [← bl_length, e1, small_len, bl_length]; exact sn0
  have s1 : c1.size ≤ cur.size := by rw [← bl_length, f1]; omega
  have HU : Hid (∀ w, RB w b cur → _) := Lib.hid fun w h => takeUpTo_any b cur ⟨#[9, 10, 12, 32, 47, 62]⟩ (by decide) (by decide) (ascii_of_all (by decide)) hsz w h
  rw [show bl (⟨#[9, 10, 12, 32, 47, 62]⟩ : ByteArray) = tagStops from rfl, ← hnm0, ← hc1] at HU
  have HS := Lib.hid fun w => small_any nm0 (by omega) w
  rw [← hnm] at HS
  obtain ⟨z, HZ⟩ : ∃ z, Hid (wordL [] (bl nm) = z) := ⟨_, Lib.hid rfl⟩
  have HW := Lib.hid fun w => isWord_any nm ⟨#[]⟩ (by omega) w
  rw [show wordL (bl (⟨#[]⟩ : ByteArray)) (bl nm) = z from HZ.out] at HW
  have HE := Lib.hid (And.intro e0 (And.intro e1 f1))
  have H0 : Hid (Moved w b cur (w.alloc (.cells tokZero TTk))) := Lib.hid ((Moved.refl h).on ((Below.refl _ _).alloc (Nat.le_refl _) _))
  have G0 : Hid ((w.alloc (.cells tokZero TTk)).heap[w.heap.size]? = some (.cells tokZero TTk (0, 0))) := Lib.hid (heap_alloc_new w _)
  have HM0 := Lib.hid (hm.below ((Below.refl w.heap.size w).alloc (Nat.le_refl _) (.cells tokZero TTk)))
  have HM := Lib.hid hm
  unfold tokZero at H0 G0 HM0
  clear hnm0 e0 hc1 f1 hnm e1 l0 hbl h hm
  go_enter Tryz.func143, Tryz.ntmps143
  go_big_wp2
  go_step3
  go_big_wp2_with (first
    | (go_at_call 165; refine (HU.out _ H0.out.rest).mono ?_; rintro e w1 ⟨rfl, hm1⟩)
    | (go_at_call 116; refine (HS.out _).mono ?_; rintro e w2 ⟨rfl, hb2⟩; have hm2 := hm1.on hb2)
    | (go_at_call 166; refine (HW.out _).mono ?_; rintro e w3 ⟨rfl, hw3⟩; have HG := Lib.hid (tagFrom (tagStart kd nm hlt hm2) hw3); clear hw3; obtain ⟨⟨ry0, ry1, ry2, ry3, ry4⟩, rz0, rz1, rz2, rz3, rz4⟩ := local5 HG.out.res))
  · rw [Exit.noGoto_ret]
    refine bodyPost_ret (results_row_tmp rfl _ _ w.heap.size TTk _ _ _ rfl (set5 HG.out.res) Tryz.underlying25 rfl (by kernel_rfl)) rfl ?_
    refine ⟨_, _, c1, rfl, HG.out.moved.newrow (Nat.le_refl _) (by omega) _ _ _ _ _, ?_⟩
    have hz : z = false := by
      have hz : (!z) = true := by assumption
      simpa using hz
    unfold tagL
    rw [← HE.out.1, ← HE.out.2.1, HZ.out, hz]
    exact ⟨rfl, rfl⟩
  · have hz : (!z) = false := by assumption
    rw [hz]
    have hz' : z = true := by simpa using hz
    subst hz'
    clear hz
    go_step3
    clear ry0 ry1 ry2 ry3 ry4 rz0 rz1 rz2 rz3 rz4
    go_big_wp2
    go_loopw [8] (fun _ wr => ∃ (cur' : ByteArray) (av : Value) (l : List At), Hid (TagAt w b w2.heap.size kd nm cur' av false l wr) ∧ l.length ≤ 16 ∧ cur'.size ≤ cur.size ∧ Hid (attrsL l (bl cur') = attrsL [] (bl c1))) (fun _ wr => restAt b wr)
    case atStart => exact ⟨c1, .slice none 0 0, [], HG, by simp, s1, Lib.hid rfl⟩
    case round =>
      clear HG
      obtain ⟨cur', av, l, HG, hl16, hcs, HA⟩ := hrel
      obtain ⟨ao, cap, hav, hrd⟩ := HG.out.row.reads
      subst hav
      clear hrd
      have hgn : ¬ (w2.heap.size = w.heap.size) := by have := HG.out.ne; omega
      have hgn' : ¬ (w.heap.size = w2.heap.size) := by omega
      obtain ⟨c2, hc2, f2⟩ : ∃ x : ByteArray, x = ⟨(skipL (bl cur')).toArray⟩ ∧ bl x = skipL (bl cur') := ⟨_, rfl, bl_of _⟩
      have hsk := skip_len (bl cur')
      rw [← f2, bl_length, bl_length] at hsk
      have HL := Lib.hid fun w h => leave_any b cur' w h
      rw [← hc2] at HL
      have hT1 := fun w h => took_any b c2 ⟨#[62]⟩ w h
      have hT2 := fun w h => took_any b c2 ⟨#[47, 62]⟩ w h
      rw [show bl (⟨#[62]⟩ : ByteArray) = [62] from rfl] at hT1
      rw [show bl (⟨#[47, 62]⟩ : ByteArray) = [47, 62] from rfl] at hT2
      have hst := attrsL_step l (bl cur')
      rw [← f2] at hst
      have hres : RB wr b cur' := HG.out.moved.rest
      have hra := hres.restAt
      have HW0 := Lib.hid hres
      clear hres hc2 f2
      cases hb : bl c2 with
      | nil =>
        have h1 : Lib.hasPrefix (bl c2) [62] = false := by rw [hb]; rfl
        have h2 : Lib.hasPrefix (bl c2) [47, 62] = false := by rw [hb]; rfl
        rw [hb] at hst
        rw [h1, trimPrefix_no h1, show (⟨(bl c2).toArray⟩ : ByteArray) = c2 from rfl] at hT1
        rw [h2, trimPrefix_no h2, show (⟨(bl c2).toArray⟩ : ByteArray) = c2 from rfl] at hT2
        have HT1 := Lib.hid hT1
        have HT2 := Lib.hid hT2
        have hE : c2.toList = [] := by rw [Lib.toList_data]; exact hb
        have HF := Lib.hid (And.intro hst hb)
        clear hT1 hT2 hst hb h1 h2
        go_big_wp2_with (first
          | (go_at_call 167; refine (HL.out _ HW0.out).mono ?_; rintro e w4 ⟨rfl, hm4⟩; have HG4 := Lib.hid (HG.out.on hm4))
          | (go_at_call_of 168 (Value.string ⟨#[62]⟩); refine (HT1.out _ HG4.out.moved.rest).mono ?_; rintro e w5 ⟨rfl, hm5⟩; have HG5 := Lib.hid (HG4.out.on hm5))
          | (go_at_call_of 168 (Value.string ⟨#[47, 62]⟩); refine (HT2.out _ HG5.out.moved.rest).mono ?_; rintro e w6 ⟨rfl, hm6⟩; have HG6 := Lib.hid (HG5.out.on hm6); have hcc := HG6.out.moved.rest.cell; obtain ⟨⟨x0, x1, x2, x3, x4⟩, y0, y1, y2, y3, y4⟩ := local5 HG6.out.tok; obtain ⟨⟨r0, r1, r2, r3, r4⟩, s0, s1, s2, s3, s4⟩ := local5 HG6.out.res))
        rw [Exit.noGoto_ret]
        refine bodyPost_ret (results_row_tmp rfl _ _ w.heap.size TTk _ _ _ rfl (set5 HG6.out.res) Tryz.underlying25 rfl (by kernel_rfl)) rfl ?_
        refine ⟨_, _, _, rfl, HG6.out.moved.newrow (Nat.le_refl _) (by omega) _ _ _ _ _, ?_⟩
        exact tellErr HE.out HZ.out rfl HA.out HF.out.1
      | cons x t =>
        have hpos : 0 < c2.size := by rw [← bl_length, hb]; simp
        have hx0 : c2[0]'hpos = x := by
          have := Lib.data_getElem? c2 0 hpos
          change (bl c2)[0]? = _ at this
          rw [hb] at this
          simpa using this.symm
        have hne0 : ¬ c2.toList = [] := by rw [Lib.toList_data]; intro h; rw [show c2.data.toList = bl c2 from rfl, hb] at h; cases h
        have hne1 : c2.toList.isEmpty = false := by simpa using hne0
        rw [hb] at hst
        simp only at hst
        by_cases e62 : x = 62
        · subst e62
          have h1 : Lib.hasPrefix (bl c2) [62] = true := by rw [hb, hasPrefix_one]; rfl
          have h1t : Lib.trimPrefix (bl c2) [62] = t := by rw [hb, trimPrefix_one]; rfl
          rw [h1, h1t] at hT1
          rw [if_pos rfl] at hst
          have HT1 := Lib.hid hT1
          have HF := Lib.hid hst
          clear hT1 hT2 hst hb h1 h1t hx0 hne0 hne1 hpos
          go_big_wp2_with (first
            | (go_at_call 167; refine (HL.out _ HW0.out).mono ?_; rintro e w4 ⟨rfl, hm4⟩; have HG4 := Lib.hid (HG.out.on hm4))
            | (go_at_call_of 168 (Value.string ⟨#[62]⟩); refine (HT1.out _ HG4.out.moved.rest).mono ?_; rintro e w5 ⟨rfl, hm5⟩; have HG5 := Lib.hid (HG4.out.on hm5); obtain ⟨⟨x0, x1, x2, x3, x4⟩, y0, y1, y2, y3, y4⟩ := local5 HG5.out.tok; obtain ⟨⟨r0, r1, r2, r3, r4⟩, s0, s1, s2, s3, s4⟩ := local5 HG5.out.res))
          rw [Exit.noGoto_ret]
          refine bodyPost_ret (results_row_tmp rfl _ _ w.heap.size TTk _ _ _ rfl (set5 HG5.out.res) Tryz.underlying25 rfl (by kernel_rfl)) rfl ?_
          refine ⟨_, _, _, rfl, HG5.out.moved.newrow (Nat.le_refl _) (by omega) _ _ _ _ _, ?_⟩
          exact tellOk HE.out HZ.out rfl HA.out HF.out (HG5.out.row.newrow HG5.out.res (by decide) _ _ _ _ _)
        · have h1 : Lib.hasPrefix (bl c2) [62] = false := by rw [hb, hasPrefix_one]; simp [e62]
          rw [h1, trimPrefix_no h1, show (⟨(bl c2).toArray⟩ : ByteArray) = c2 from rfl] at hT1
          rw [if_neg e62] at hst
          have HT1 := Lib.hid hT1
          clear hT1 h1
          by_cases e47 : x = 47
          · subst e47
            rw [if_pos rfl] at hst
            have hslash : ∀ u, t = 62 :: u ∨ t.head? ≠ some 62 → True := fun _ _ => trivial
            clear hslash
            by_cases ht : t.head? = some 62
            · obtain ⟨u, rfl⟩ : ∃ u, t = 62 :: u := by
                cases t with
                | nil => simp at ht
                | cons c u => simp at ht; exact ⟨u, by rw [ht]⟩
              have h2 : Lib.hasPrefix (bl c2) [47, 62] = true := by rw [hb]; rfl
              have h2t : Lib.trimPrefix (bl c2) [47, 62] = u := by unfold Lib.trimPrefix; rw [h2, hb]; rfl
              rw [h2, h2t] at hT2
              have hst2 : attrsL l (bl cur') = .ok (l, true, u) := by rw [hst]; rfl
              have HT2 := Lib.hid hT2
              have HF := Lib.hid hst2
              clear hT2 hst hst2 hb h2 h2t hx0 hne0 hne1 hpos ht
              go_big_wp2_with (first
                | (go_at_call 167; refine (HL.out _ HW0.out).mono ?_; rintro e w4 ⟨rfl, hm4⟩; have HG4 := Lib.hid (HG.out.on hm4))
                | (go_at_call_of 168 (Value.string ⟨#[62]⟩); refine (HT1.out _ HG4.out.moved.rest).mono ?_; rintro e w5 ⟨rfl, hm5⟩; have HG5 := Lib.hid (HG4.out.on hm5))
                | (go_at_call_of 168 (Value.string ⟨#[47, 62]⟩); refine (HT2.out _ HG5.out.moved.rest).mono ?_; rintro e w6 ⟨rfl, hm6⟩; have HG6 := Lib.hid (HG5.out.on hm6); have hcc := HG6.out.moved.rest.cell; obtain ⟨⟨x0, x1, x2, x3, x4⟩, y0, y1, y2, y3, y4⟩ := local5 HG6.out.tok; obtain ⟨⟨r0, r1, r2, r3, r4⟩, s0, s1, s2, s3, s4⟩ := local5 HG6.out.res))
              rw [Exit.noGoto_ret]
              have hres7 : (w6.setCell ⟨w2.heap.size, 3, none⟩ (.bool true)).heap[w.heap.size]? = some (.cells tokZero TTk (0, 0)) := by
                rw [heap_setCell_other _ _ _ _ (by exact hgn')]; exact HG6.out.res
              refine bodyPost_ret (results_row_tmp rfl _ _ w.heap.size TTk _ _ _ rfl (set5 hres7) Tryz.underlying25 rfl (by kernel_rfl)) rfl ?_
              refine ⟨_, _, _, rfl, (HG6.out.moved.newset (by have := HG6.out.ne; omega) HG6.out.ne.1).newrow (Nat.le_refl _) (by omega) _ _ _ _ _, ?_⟩
              exact tellOk HE.out HZ.out rfl HA.out HF.out ((HG6.out.row.kept HG6.out.tok (by decide) (grown_set _ _ _ _)).newrow hres7 (by decide) _ _ _ _ _)
            · have h2 : Lib.hasPrefix (bl c2) [47, 62] = false := by
                rw [hb]
                cases t with
                | nil => rfl
                | cons c u =>
                  show ((47 : UInt8) == 47 && ((62 : UInt8) == c && List.isPrefixOf [] u)) = false
                  have : (62 : UInt8) ≠ c := fun e => ht (by simp [e])
                  simp [this]
              rw [h2, trimPrefix_no h2, show (⟨(bl c2).toArray⟩ : ByteArray) = c2 from rfl] at hT2
              have hst2 : attrsL l (bl cur') = .error 40 := by
                rw [hst]
                cases t with
                | nil => rfl
                | cons c u =>
                  have : c ≠ 62 := fun e => ht (by simp [e])
                  simp only [this, if_false]
              have HT2 := Lib.hid hT2
              have HF := Lib.hid hst2
              clear hT2 hst hst2 hb h2 ht
              go_big_wp2_with (first
                | (go_at_call 167; refine (HL.out _ HW0.out).mono ?_; rintro e w4 ⟨rfl, hm4⟩; have HG4 := Lib.hid (HG.out.on hm4))
                | (go_at_call_of 168 (Value.string ⟨#[62]⟩); refine (HT1.out _ HG4.out.moved.rest).mono ?_; rintro e w5 ⟨rfl, hm5⟩; have HG5 := Lib.hid (HG4.out.on hm5))
                | (go_at_call_of 168 (Value.string ⟨#[47, 62]⟩); refine (HT2.out _ HG5.out.moved.rest).mono ?_; rintro e w6 ⟨rfl, hm6⟩; have HG6 := Lib.hid (HG5.out.on hm6); have hcc := HG6.out.moved.rest.cell; obtain ⟨⟨x0, x1, x2, x3, x4⟩, y0, y1, y2, y3, y4⟩ := local5 HG6.out.tok; obtain ⟨⟨r0, r1, r2, r3, r4⟩, s0, s1, s2, s3, s4⟩ := local5 HG6.out.res))
              rw [Exit.noGoto_ret]
              refine bodyPost_ret (results_row_tmp rfl _ _ w.heap.size TTk _ _ _ rfl (set5 HG6.out.res) Tryz.underlying25 rfl (by kernel_rfl)) rfl ?_
              refine ⟨_, _, _, rfl, HG6.out.moved.newrow (Nat.le_refl _) (by omega) _ _ _ _ _, ?_⟩
              exact tellErr HE.out HZ.out rfl HA.out HF.out
          · rw [if_neg e47] at hst
            have h2 : Lib.hasPrefix (bl c2) [47, 62] = false := by
              rw [hb]
              show ((47 : UInt8) == x && List.isPrefixOf [62] t) = false
              have : (47 : UInt8) ≠ x := fun e => e47 e.symm
              simp [this]
            rw [h2, trimPrefix_no h2, show (⟨(bl c2).toArray⟩ : ByteArray) = c2 from rfl] at hT2
            have HT2 := Lib.hid hT2
            rw [← hb] at hst
            have hn47 : ((x.toNat : Int) == 47) = false := by
              rw [beq_eq_false_iff_ne]; intro e; apply e47; apply UInt8.toNat_inj.1; show x.toNat = 47; omega
            have hq := fun W h hm => attribute_any b c2 (by omega) W h hm
            cases ha : attrL (bl c2) with
            | none =>
              rw [ha] at hq hst
              have HQ := Lib.hid hq
              have HF := Lib.hid hst
              clear hT2 hst hb h2 ha hq
              go_big_wp2_with (first
                | (go_at_call 167; refine (HL.out _ HW0.out).mono ?_; rintro e w4 ⟨rfl, hm4⟩; have HG4 := Lib.hid (HG.out.on hm4))
                | (go_at_call_of 168 (Value.string ⟨#[62]⟩); refine (HT1.out _ HG4.out.moved.rest).mono ?_; rintro e w5 ⟨rfl, hm5⟩; have HG5 := Lib.hid (HG4.out.on hm5))
                | (go_at_call_of 168 (Value.string ⟨#[47, 62]⟩); refine (HT2.out _ HG5.out.moved.rest).mono ?_; rintro e w6 ⟨rfl, hm6⟩; have HG6 := Lib.hid (HG5.out.on hm6); have hcc := HG6.out.moved.rest.cell)
                | (go_at_call 169; refine (HQ.out _ HG6.out.moved.rest (HM.out.grown HG6.out.moved.grown)).mono ?_; rintro e w7 ⟨n, v, er, c, rfl, hm7, hA⟩; have HG7 := Lib.hid (HG6.out.on hm7); have her : er = 41 := hA; subst her; have HG8 := Lib.hid (HG7.out.below ((Below.refl _ _).alloc (Nat.le_refl _) (.cells #[.string n, .string v] 40))); obtain ⟨⟨x0, x1, x2, x3, x4⟩, y0, y1, y2, y3, y4⟩ := local5 HG8.out.tok; obtain ⟨⟨r0, r1, r2, r3, r4⟩, s0, s1, s2, s3, s4⟩ := local5 HG8.out.res))
              rw [Exit.noGoto_ret]
              refine bodyPost_ret (results_row_tmp rfl _ _ w.heap.size TTk _ _ _ rfl (set5 HG8.out.res) Tryz.underlying25 rfl (by kernel_rfl)) rfl ?_
              refine ⟨_, _, _, rfl, HG8.out.moved.newrow (Nat.le_refl _) (by omega) _ _ _ _ _, ?_⟩
              exact tellErr HE.out HZ.out rfl HA.out HF.out
            | some ar =>
              obtain ⟨⟨an, av⟩, r⟩ := ar
              have hr := attr_len ha
              rw [bl_length] at hr
              rw [ha] at hq hst
              simp only at hst
              have HQ := Lib.hid hq
              clear hT2 hb h2 ha hq
              by_cases hany : l.any (fun a => a.1 == an) = true
              · have hje : joinE l an = 41 := by unfold joinE; rw [if_pos hany]
                rw [if_pos hany] at hst
                clear hany
                have hj : ∀ W, AtReads W ao l → Calls Tryz.prog 170 #[.slice ao l.length cap, .agg #[.string ⟨an.toArray⟩, .string ⟨av.toArray⟩]] W fun e w' => e = .returned (.int .i64 41) ∧ Below W.heap.size W w' := fun W h => by
                  have := mayJoin_any ao cap l ⟨an.toArray⟩ ⟨av.toArray⟩ W (by omega) h
                  rwa [bl_of, hje] at this
                have HJ := Lib.hid hj
                have HF := Lib.hid hst
                clear hst hj hje
                go_big_wp2_with (first
                  | (go_at_call 167; refine (HL.out _ HW0.out).mono ?_; rintro e w4 ⟨rfl, hm4⟩; have HG4 := Lib.hid (HG.out.on hm4))
                  | (go_at_call_of 168 (Value.string ⟨#[62]⟩); refine (HT1.out _ HG4.out.moved.rest).mono ?_; rintro e w5 ⟨rfl, hm5⟩; have HG5 := Lib.hid (HG4.out.on hm5))
                  | (go_at_call_of 168 (Value.string ⟨#[47, 62]⟩); refine (HT2.out _ HG5.out.moved.rest).mono ?_; rintro e w6 ⟨rfl, hm6⟩; have HG6 := Lib.hid (HG5.out.on hm6); have hcc := HG6.out.moved.rest.cell)
                  | (go_at_call 169; refine (HQ.out _ HG6.out.moved.rest (HM.out.grown HG6.out.moved.grown)).mono ?_; rintro e w7 ⟨n, v, er, c, rfl, hm7, hA⟩; have HG7 := Lib.hid (HG6.out.on hm7); obtain ⟨her, hn, hv, hc⟩ := hA; subst her; subst hn; subst hv; subst hc; have HG8 := Lib.hid (HG7.out.below ((Below.refl _ _).alloc (Nat.le_refl _) (.cells #[.string ⟨an.toArray⟩, .string ⟨av.toArray⟩] 40))); have HA8 := Lib.hid (heap_alloc_new w7 (.cells #[.string ⟨an.toArray⟩, .string ⟨av.toArray⟩] 40)); obtain ⟨⟨x0, x1, x2, x3, x4⟩, y0, y1, y2, y3, y4⟩ := local5 HG8.out.tok)
                  | (go_at_call 170; refine (HJ.out _ HG8.out.row.at_).mono ?_; rintro e w9 ⟨rfl, hb9⟩; clear x0 x1 x2 x3 x4 y0 y1 y2 y3 y4; have HG9 := Lib.hid (HG8.out.below hb9); obtain ⟨⟨x0, x1, x2, x3, x4⟩, y0, y1, y2, y3, y4⟩ := local5 HG9.out.tok; obtain ⟨⟨r0, r1, r2, r3, r4⟩, s0, s1, s2, s3, s4⟩ := local5 HG9.out.res))
                rw [Exit.noGoto_ret]
                refine bodyPost_ret (results_row_tmp rfl _ _ w.heap.size TTk _ _ _ rfl (set5 HG9.out.res) Tryz.underlying25 rfl (by kernel_rfl)) rfl ?_
                refine ⟨_, _, _, rfl, HG9.out.moved.newrow (Nat.le_refl _) (by omega) _ _ _ _ _, ?_⟩
                exact tellErr HE.out HZ.out rfl HA.out HF.out
              · by_cases h16 : 16 ≤ l.length
                · have hje : joinE l an = 3 := by unfold joinE; rw [if_neg hany, if_pos h16]
                  rw [if_neg hany, if_pos h16] at hst
                  clear hany h16
                  have hj : ∀ W, AtReads W ao l → Calls Tryz.prog 170 #[.slice ao l.length cap, .agg #[.string ⟨an.toArray⟩, .string ⟨av.toArray⟩]] W fun e w' => e = .returned (.int .i64 3) ∧ Below W.heap.size W w' := fun W h => by
                    have := mayJoin_any ao cap l ⟨an.toArray⟩ ⟨av.toArray⟩ W (by omega) h
                    rwa [bl_of, hje] at this
                  have HJ := Lib.hid hj
                  have HF := Lib.hid hst
                  clear hst hj hje
                  go_big_wp2_with (first
                    | (go_at_call 167; refine (HL.out _ HW0.out).mono ?_; rintro e w4 ⟨rfl, hm4⟩; have HG4 := Lib.hid (HG.out.on hm4))
                    | (go_at_call_of 168 (Value.string ⟨#[62]⟩); refine (HT1.out _ HG4.out.moved.rest).mono ?_; rintro e w5 ⟨rfl, hm5⟩; have HG5 := Lib.hid (HG4.out.on hm5))
                    | (go_at_call_of 168 (Value.string ⟨#[47, 62]⟩); refine (HT2.out _ HG5.out.moved.rest).mono ?_; rintro e w6 ⟨rfl, hm6⟩; have HG6 := Lib.hid (HG5.out.on hm6); have hcc := HG6.out.moved.rest.cell)
                    | (go_at_call 169; refine (HQ.out _ HG6.out.moved.rest (HM.out.grown HG6.out.moved.grown)).mono ?_; rintro e w7 ⟨n, v, er, c, rfl, hm7, hA⟩; have HG7 := Lib.hid (HG6.out.on hm7); obtain ⟨her, hn, hv, hc⟩ := hA; subst her; subst hn; subst hv; subst hc; have HG8 := Lib.hid (HG7.out.below ((Below.refl _ _).alloc (Nat.le_refl _) (.cells #[.string ⟨an.toArray⟩, .string ⟨av.toArray⟩] 40))); have HA8 := Lib.hid (heap_alloc_new w7 (.cells #[.string ⟨an.toArray⟩, .string ⟨av.toArray⟩] 40)); obtain ⟨⟨x0, x1, x2, x3, x4⟩, y0, y1, y2, y3, y4⟩ := local5 HG8.out.tok)
                    | (go_at_call 170; refine (HJ.out _ HG8.out.row.at_).mono ?_; rintro e w9 ⟨rfl, hb9⟩; clear x0 x1 x2 x3 x4 y0 y1 y2 y3 y4; have HG9 := Lib.hid (HG8.out.below hb9); obtain ⟨⟨x0, x1, x2, x3, x4⟩, y0, y1, y2, y3, y4⟩ := local5 HG9.out.tok; obtain ⟨⟨r0, r1, r2, r3, r4⟩, s0, s1, s2, s3, s4⟩ := local5 HG9.out.res))
                  rw [Exit.noGoto_ret]
                  refine bodyPost_ret (results_row_tmp rfl _ _ w.heap.size TTk _ _ _ rfl (set5 HG9.out.res) Tryz.underlying25 rfl (by kernel_rfl)) rfl ?_
                  refine ⟨_, _, _, rfl, HG9.out.moved.newrow (Nat.le_refl _) (by omega) _ _ _ _ _, ?_⟩
                  exact tellErr HE.out HZ.out rfl HA.out HF.out
                · have hje : joinE l an = 0 := by unfold joinE; rw [if_neg hany, if_neg h16]
                  rw [if_neg hany, if_neg h16] at hst
                  clear hany
                  have hj : ∀ W, AtReads W ao l → Calls Tryz.prog 170 #[.slice ao l.length cap, .agg #[.string ⟨an.toArray⟩, .string ⟨av.toArray⟩]] W fun e w' => e = .returned (.int .i64 0) ∧ Below W.heap.size W w' := fun W h => by
                    have := mayJoin_any ao cap l ⟨an.toArray⟩ ⟨av.toArray⟩ W (by omega) h
                    rwa [bl_of, hje] at this
                  have HJ := Lib.hid hj
                  have HF := Lib.hid hst
                  obtain ⟨i0, hi0, hz0, hz1, hz2⟩ := info_parts Tryz.infoAttr
                  clear hst hj hje
                  go_big_wp2_with (first
                    | (go_at_call 167; refine (HL.out _ HW0.out).mono ?_; rintro e w4 ⟨rfl, hm4⟩; have HG4 := Lib.hid (HG.out.on hm4))
                    | (go_at_call_of 168 (Value.string ⟨#[62]⟩); refine (HT1.out _ HG4.out.moved.rest).mono ?_; rintro e w5 ⟨rfl, hm5⟩; have HG5 := Lib.hid (HG4.out.on hm5))
                    | (go_at_call_of 168 (Value.string ⟨#[47, 62]⟩); refine (HT2.out _ HG5.out.moved.rest).mono ?_; rintro e w6 ⟨rfl, hm6⟩; have HG6 := Lib.hid (HG5.out.on hm6); have hcc := HG6.out.moved.rest.cell)
                    | (go_at_call 169; refine (HQ.out _ HG6.out.moved.rest (HM.out.grown HG6.out.moved.grown)).mono ?_; rintro e w7 ⟨n, v, er, c, rfl, hm7, hA⟩; have HG7 := Lib.hid (HG6.out.on hm7); obtain ⟨her, hn, hv, hc⟩ := hA; subst her; subst hn; subst hv; subst hc; have HG8 := Lib.hid (HG7.out.below ((Below.refl _ _).alloc (Nat.le_refl _) (.cells #[.string ⟨an.toArray⟩, .string ⟨av.toArray⟩] 40))); have HA8 := Lib.hid (heap_alloc_new w7 (.cells #[.string ⟨an.toArray⟩, .string ⟨av.toArray⟩] 40)); obtain ⟨⟨x0, x1, x2, x3, x4⟩, y0, y1, y2, y3, y4⟩ := local5 HG8.out.tok)
                    | (go_at_call 170; refine (HJ.out _ HG8.out.row.at_).mono ?_; rintro e w9 ⟨rfl, hb9⟩; clear x0 x1 x2 x3 x4 y0 y1 y2 y3 y4; have HG9 := Lib.hid (HG8.out.below hb9); have HA9 := (hb9.block _ (by simp)).trans HA8.out; obtain ⟨p0, p1, _, _⟩ := local2 HA9; obtain ⟨⟨x0, x1, x2, x3, x4⟩, y0, y1, y2, y3, y4⟩ := local5 HG9.out.tok; have HG10 := Lib.hid (HG9.out.below ((Below.refl _ _).alloc (Nat.le_refl _) (.cells #[.string ⟨an.toArray⟩, .string ⟨av.toArray⟩] 40))))
                    | (at_builtin; refine wpList_append_own_at _ rfl _ _ 23 rfl w.heap.size 40 i0 _ 2 32 Tryz.underlying23 hi0 hz0 hz1 hz2 rfl (by decide) _ l.length (attrCells l) rfl HG10.out.row ⟨w9.heap.size, 0, none⟩ 1 1 [.string ⟨an.toArray⟩, .string ⟨av.toArray⟩] rfl ?c1 ?c2 ?c3 ?c4 ?c5 ?c6 ?_))
                  case c1 => rfl
                  case c2 => exact news_alloc w9 [.string ⟨an.toArray⟩, .string ⟨av.toArray⟩] 40
                  case c3 => intro u hu; simp only [List.mem_cons, List.not_mem_nil, or_false] at hu; rcases hu with rfl | rfl <;> rfl
                  case c4 => unfold maxLen; omega
                  case c5 => omega
                  case c6 => exact HG10.out.moved.grown.size
                  intro v' W hown' hgrow _ _
                  rw [← attrCells_snoc l (an, av)] at hown'
                  have hrow' : AtRow W w.heap.size v' (l ++ [(an, av)]) := by
                    unfold AtRow
                    rw [List.length_append]
                    exact hown'
                  obtain ⟨a1, cap1, hv'⟩ := sliceOf hown'
                  subst hv'
                  obtain ⟨hW, hTag⟩ := HG10.out.grew hgrow hrow'
                  have HN := Lib.hid hTag
                  obtain ⟨⟨x0, x1, x2, x3, x4⟩, y0, y1, y2, y3, y4⟩ := local5 hW
                  clear hTag hW hrow' hown' hgrow
                  go_big_wp2
                  exact ⟨⟨_, _, _, HN, by simp; omega, by rw [← bl_length, bl_of]; omega, Lib.hid (HF.out.symm.trans HA.out)⟩, by
                    rw [HN.out.moved.rest.restAt, hra, ← bl_length, bl_of]; omega⟩
end Go.Proofs.YtkfmfldkllkcbaaGreatDoor
namespace Go.TokenKit
open Go Go.Lib Go.CharrefKit
theorem wordsN_eq : ∀ (l : Bytes) (n : Nat), n ≤ l.length → (∀ j, j < n → markL (l.drop j) = false) → (n = l.length ∨ markL (l.drop n) = true) → wordsN l = n
  | [], n, h, _, _ => by simp at h; subst h; rfl
  | b :: r, 0, _, _, h => by
    rcases h with h | h
    · simp at h
    · unfold wordsN
      rw [List.drop_zero] at h
      rw [h]; rfl
  | b :: r, n + 1, h, ha, he => by
    have h0 : markL (b :: r) = false := ha 0 (by omega)
    unfold wordsN
    rw [h0]
    have := wordsN_eq r n (by simpa using h) (fun j hj => by simpa using ha (j + 1) (by omega)) (by simpa using he)
    simp [this]
end Go.TokenKit
namespace Go.Proofs.YtkfmfldkllkcbaaGreatDoor
open Go.RowKit Go.RunKit Go.CharrefKit Go.Lib Go.TokenKit

/-- What a reader tells, against the document's: part by part. -/
def ToldK (o : Except Nat (Tok × Bytes)) (base : Nat) (k : Nat) (n : ByteArray) (ao : Option Addr) (m cap : Nat) (sf : Bool) (d : ByteArray) (e : Int) (c : ByteArray) (W : World) : Prop := match o with
  | .error x => e = (x : Nat) ∧ k = 0 ∧ n = ⟨#[]⟩ ∧ ao = none ∧ m = 0 ∧ cap = 0 ∧ sf = false ∧ d = ⟨#[]⟩
  | .ok (t, r) => e = 0 ∧ c = ⟨r.toArray⟩ ∧ k = t.kind ∧ n = ⟨t.name.toArray⟩ ∧ AtRow W base (.slice ao m cap) t.attrs ∧ sf = t.self ∧ d = ⟨t.data.toArray⟩
def tkAgg (k : Nat) (n : ByteArray) (ao : Option Addr) (m cap : Nat) (sf : Bool) (d : ByteArray) : Array Value := #[.int .u8 (k : Nat), .string n, .slice ao m cap, .bool sf, .string d]
theorem AtRow.mono {w : World} {base base' : Nat} {v : Value} {l : List At} (h : AtRow w base' v l) (hb : base ≤ base') : AtRow w base v l := by
  refine ⟨h.1, ?_⟩
  rcases h.2 with hn | ⟨g, cap, cur, e, hg, rest⟩
  · exact .inl hn
  · exact .inr ⟨g, cap, cur, e, Nat.le_trans hb hg, rest⟩
theorem told_mono {o : Except Nat (Tok × Bytes)} {base base' k : Nat} {n : ByteArray} {ao : Option Addr} {m cap : Nat} {sf : Bool} {d : ByteArray} {e : Int} {c : ByteArray} {W : World} (h : ToldK o base' k n ao m cap sf d e c W) (hb : base ≤ base') : ToldK o base k n ao m cap sf d e c W := by
  cases o with
  | error x => exact h
  | ok x =>
    obtain ⟨t, r⟩ := x
    obtain ⟨t1, t2, t3, t4, t5, t6, t7⟩ := h
    exact ⟨t1, t2, t3, t4, t5.mono hb, t6, t7⟩
/-- What a reader of a token owes. -/
def ReadsAs (f : FuncId) (o : Except Nat (Tok × Bytes)) (b : Nat) (w : World) : Prop :=
  Calls Tryz.prog f #[.pointer (some ⟨b, 0, none⟩)] w fun e w' => ∃ k n ao m cap sf d er c, e = .returned (.tuple #[.agg #[.int .u8 ((k : Nat) : Int), .string n, .slice ao m cap, .bool sf, .string d], .int .i64 er]) ∧ Moved w b c w' ∧ ToldK o w.heap.size k n ao m cap sf d er c w'

theorem tag_told (b kd : Nat) (cur : ByteArray) (hsz : cur.size ≤ 4294967280) (w : World) (h : RB w b cur) (hm : Maxed w b) :
    Calls Tryz.prog 143 #[.pointer (some ⟨b, 0, none⟩), .int .u8 (kd : Nat)] w fun e w' => ∃ k n ao m cap sf d er c, e = .returned (.tuple #[.agg #[.int .u8 ((k : Nat) : Int), .string n, .slice ao m cap, .bool sf, .string d], .int .i64 er]) ∧ Moved w b c w' ∧ ToldK (tagL kd (bl cur)) w.heap.size k n ao m cap sf d er c w' := by
  refine (tag_any b kd cur hsz w h hm).mono ?_
  rintro e w' ⟨cs, er, c, rfl, hmv, ht⟩
  cases ho : tagL kd (bl cur) with
  | error x =>
    rw [ho] at ht
    obtain ⟨h1, h2⟩ := ht
    subst h2
    exact ⟨0, ⟨#[]⟩, none, 0, 0, false, ⟨#[]⟩, er, c, rfl, hmv, h1, rfl, rfl, rfl, rfl, rfl, rfl, rfl⟩
  | ok x =>
    obtain ⟨t, r⟩ := x
    rw [ho] at ht
    obtain ⟨h1, h2, av, h3, h4⟩ := ht
    obtain ⟨ao, cap, rfl, _⟩ := h3.reads
    subst h4
    exact ⟨t.kind, _, ao, _, cap, t.self, _, er, c, rfl, hmv, h1, h2, rfl, rfl, h3, rfl, rfl⟩
/-- A result's block, and what is read meanwhile. -/
structure OwnAt (w : World) (b : Nat) (cur : ByteArray) (wr : World) : Prop where
  moved : Moved w b cur wr
  res : wr.heap[w.heap.size]? = some (.cells tokZero TTk (0, 0))
  lt : b < w.heap.size
theorem OwnAt.start {w : World} {b : Nat} {cur : ByteArray} (h : RB w b cur) : OwnAt w b cur (w.alloc (.cells #[.int .u8 0, .string ⟨#[]⟩, .slice none 0 0, .bool false, .string ⟨#[]⟩] TTk)) :=
  ⟨(Moved.refl h).on ((Below.refl _ _).alloc (Nat.le_refl _) _), heap_alloc_new w _, h.lt⟩
theorem OwnAt.on {w wr wr' : World} {b : Nat} {cur cur' : ByteArray} (h : OwnAt w b cur wr) (m : Moved wr b cur' wr') : OwnAt w b cur' wr' :=
  ⟨h.moved.trans m, below_of_old m h.res (by have := h.lt; omega), h.lt⟩
theorem OwnAt.below {w wr wr' : World} {b : Nat} {cur : ByteArray} (h : OwnAt w b cur wr) (m : Below wr.heap.size wr wr') : OwnAt w b cur wr' := h.on ((Moved.refl h.moved.rest).on m)
theorem OwnAt.lt2 {w wr : World} {b : Nat} {cur : ByteArray} (h : OwnAt w b cur wr) : w.heap.size ≤ wr.heap.size := h.moved.grown.size
/-- The end of a reader: what stands in its result's block. -/
theorem own_end {f : Func} (hres : f.results = #[.cell 2 TTk, .tmp 3]) {w W : World} {b : Nat} {cur c : ByteArray} (h : OwnAt w b cur W) {o : Except Nat (Tok × Bytes)} {tmps : Array Value} {k : Nat} {n : ByteArray} {ao : Option Addr} {m cap : Nat} {sf : Bool} {d : ByteArray} {er : Int}
    (h2 : tmps.getD 2 undef = .pointer (some ⟨w.heap.size, 0, none⟩)) (h3 : tmps.getD 3 undef = .int .i64 er) (hc : o.isOk = true → c = cur) (ht : ToldK o w.heap.size k n ao m cap sf d er c W) :
    bodyPost Tryz.prog f (fun e w' => ∃ k n ao m cap sf d er c, e = .returned (.tuple #[.agg #[.int .u8 ((k : Nat) : Int), .string n, .slice ao m cap, .bool sf, .string d], .int .i64 er]) ∧ Moved w b c w' ∧ ToldK o w.heap.size k n ao m cap sf d er c w') .ret ⟨tmps, []⟩
      (((((W.setCell ⟨w.heap.size, 0, none⟩ (.int .u8 ((k : Nat) : Int))).setCell ⟨w.heap.size, 1, none⟩ (.string n)).setCell ⟨w.heap.size, 2, none⟩ (.slice ao m cap)).setCell ⟨w.heap.size, 3, none⟩ (.bool sf)).setCell ⟨w.heap.size, 4, none⟩ (.string d)) := by
  have hlt := h.lt
  refine bodyPost_ret (results_row_tmp hres _ _ w.heap.size TTk _ _ _ h2 (set5 h.res) Tryz.underlying25 rfl (by kernel_rfl)) rfl ?_
  refine ⟨k, n, ao, m, cap, sf, d, er, cur, by rw [h3], h.moved.newrow (Nat.le_refl _) (by omega) _ _ _ _ _, ?_⟩
  cases o with
  | error x => exact ht
  | ok x =>
    obtain ⟨t, r⟩ := x
    obtain ⟨t1, t2, t3, t4, t5, t6, t7⟩ := ht
    exact ⟨t1, by rw [← hc rfl]; exact t2, t3, t4, t5.newrow h.res (by decide) _ _ _ _ _, t6, t7⟩

theorem own_err {f : Func} (hres : f.results = #[.cell 2 TTk, .tmp 3]) {w W : World} {b : Nat} {cur : ByteArray} (h : OwnAt w b cur W) {o : Except Nat (Tok × Bytes)} {tmps : Array Value} {x : Nat} {er : Int}
    (h2 : tmps.getD 2 undef = .pointer (some ⟨w.heap.size, 0, none⟩)) (h3 : tmps.getD 3 undef = .int .i64 er) (he : er = (x : Nat)) (ho : o = .error x) :
    bodyPost Tryz.prog f (fun e w' => ∃ k n ao m cap sf d er c, e = .returned (.tuple #[.agg #[.int .u8 ((k : Nat) : Int), .string n, .slice ao m cap, .bool sf, .string d], .int .i64 er]) ∧ Moved w b c w' ∧ ToldK o w.heap.size k n ao m cap sf d er c w') .ret ⟨tmps, []⟩
      (((((W.setCell ⟨w.heap.size, 0, none⟩ (.int .u8 0)).setCell ⟨w.heap.size, 1, none⟩ (.string ⟨#[]⟩)).setCell ⟨w.heap.size, 2, none⟩ (.slice none 0 0)).setCell ⟨w.heap.size, 3, none⟩ (.bool false)).setCell ⟨w.heap.size, 4, none⟩ (.string ⟨#[]⟩)) := by
  have hlt := h.lt
  refine bodyPost_ret (results_row_tmp hres _ _ w.heap.size TTk _ _ _ h2 (set5 h.res) Tryz.underlying25 rfl (by kernel_rfl)) rfl ?_
  refine ⟨0, _, _, _, _, _, _, er, cur, by rw [h3]; rfl, h.moved.newrow (Nat.le_refl _) (by omega) _ _ _ _ _, ?_⟩
  subst ho
  exact ⟨he, rfl, rfl, rfl, rfl, rfl, rfl, rfl⟩
set_option maxRecDepth 100000 in
set_option maxHeartbeats 400000 in
theorem unknown_any (b : Nat) (cur : ByteArray) (w : World) (h : RB w b cur) : ReadsAs 118 (.error 43) b w := by
  have HO := Lib.hid (OwnAt.start h)
  clear h
  unfold ReadsAs
  go_enter Tryz.func118, Tryz.ntmps118
  obtain ⟨⟨r0, r1, r2, r3, r4⟩, s0, s1, s2, s3, s4⟩ := local5 HO.out.res
  go_big_wp2
  refine bodyPost_ret (results_row_tmp rfl _ _ w.heap.size TTk _ _ _ rfl HO.out.res Tryz.underlying25 rfl (by kernel_rfl)) rfl ?_
  exact ⟨0, _, _, _, _, _, _, 43, cur, rfl, HO.out.moved, rfl, rfl, rfl, rfl, rfl, rfl, rfl, rfl⟩
set_option maxRecDepth 100000 in
set_option maxHeartbeats 400000 in
theorem start_any (b : Nat) (cur : ByteArray) (hsz : cur.size ≤ 4294967280) (h1 : 1 ≤ cur.size) (w : World) (h : RB w b cur) (hm : Maxed w b) : ReadsAs 112 (tagL 1 ((bl cur).drop 1)) b w := by
  have HO := Lib.hid (OwnAt.start h)
  have HM := Lib.hid hm
  have HT := Lib.hid fun w h => take_any b cur 1 h1 w h
  have hs1 : (cur.extract 1 cur.size).size ≤ 4294967280 := by simp; omega
  have HG := Lib.hid fun w h hm => tag_told b 1 (cur.extract 1 cur.size) hs1 w h hm
  rw [bl_drop] at HG
  obtain ⟨c1, hc1⟩ : ∃ c, cur.extract 1 cur.size = c := ⟨_, rfl⟩
  rw [hc1] at HG HT
  clear h hm hc1 hs1
  unfold ReadsAs
  go_enter Tryz.func112, Tryz.ntmps112
  go_big_wp2_with (first
    | (go_at_call 142; refine (HT.out _ HO.out.moved.rest).mono ?_; rintro e w1 ⟨rfl, hm1⟩; have HO1 := Lib.hid (HO.out.on hm1))
    | (go_at_call 143; refine (HG.out _ HO1.out.moved.rest (HM.out.grown HO1.out.moved.grown)).mono ?_; rintro e w2 ⟨k, n, ao, m, cap, sf, d, er, c, rfl, hm2, hK⟩; have HO2 := Lib.hid (HO1.out.on hm2); obtain ⟨⟨r0, r1, r2, r3, r4⟩, s0, s1, s2, s3, s4⟩ := local5 HO2.out.res))
  refine own_end rfl HO2.out rfl rfl (fun _ => rfl) (told_mono hK HO1.out.lt2)
end Go.Proofs.YtkfmfldkllkcbaaGreatDoor
namespace Go.Proofs.YtkfmfldkllkcbaaGreatDoor
open Go.RowKit Go.RunKit Go.CharrefKit Go.Lib Go.TokenKit

set_option maxRecDepth 100000 in
set_option maxHeartbeats 400000 in
theorem clone_any (s : ByteArray) (w : World) (h : s.size ≤ 281474976710656) : Calls Tryz.prog 135 #[.string s] w fun e w' => e = .returned (.string s) ∧ Below w.heap.size w w' := by
  have HC := Lib.hid (Tryz.stringslite_Clone s w h)
  clear h
  go_enter Tryz.func135, Tryz.ntmps135
  go_wp2_with (go_at_call 162; refine HC.out.mono ?_; rintro e w1 ⟨rfl, hb⟩)
  go_ret
  exact ⟨rfl, hb⟩

set_option maxRecDepth 100000 in
set_option maxHeartbeats 1000000 in
theorem words_any (b : Nat) (cur : ByteArray) (hsz : cur.size ≤ 4294967280) (w : World) (h : RB w b cur) : ReadsAs 110 (.ok (⟨3, [], [], false, decodeL false ((bl cur).take (wordsN (bl cur)))⟩, (bl cur).drop (wordsN (bl cur)))) b w := by
  have HO := Lib.hid (OwnAt.start h)
  have hlen := bl_length cur
  have hcell := HO.out.moved.rest.cell
  clear h
  unfold ReadsAs
  go_enter Tryz.func110, Tryz.ntmps110
  go_big_wp2
  go_loop [4] (fun v => ∃ n : Nat, v = .int .i64 (n : Nat) ∧ n ≤ cur.size ∧ Hid (∀ j, j < n → markL ((bl cur).drop j) = false)) (fun v => cur.size - (RowKit.intOf v).toNat)
  case atStart => exact ⟨0, rfl, Nat.zero_le _, Lib.hid fun j h => by omega⟩
  case round =>
    obtain ⟨n, rfl, hn, HA⟩ := hrel
    have hfin : (n = (bl cur).length ∨ markL ((bl cur).drop n) = true) → wordsN (bl cur) = n := fun h => wordsN_eq (bl cur) n (by omega) HA.out h
    have hK := fun w h => take_any b cur n hn w h
    rw [show cur.extract 0 n = ⟨((bl cur).take n).toArray⟩ from eq_mk (bl_take _ _), show cur.extract n cur.size = ⟨((bl cur).drop n).toArray⟩ from eq_mk (bl_drop _ _)] at hK
    have hD := fun w => decode_any false ⟨((bl cur).take n).toArray⟩ (by rw [← bl_length, bl_of]; simp; omega) w
    rw [bl_of] at hD
    have HF := Lib.hid hfin
    have HK := Lib.hid hK
    have HD := Lib.hid hD
    clear hfin hK hD
    by_cases hlt : n < cur.size
    · have hI : (n : Int) < cur.size := by omega
      have hI2 : (n : Int) ≤ cur.size := by omega
      have hM := fun w => isMark_any (cur.extract n cur.size) w
      rw [bl_drop] at hM
      cases hmk : markL ((bl cur).drop n) with
      | false =>
        rw [hmk] at hM
        have HM := Lib.hid hM
        have HN : Hid (∀ j, j < n + 1 → markL ((bl cur).drop j) = false) := Lib.hid fun j hj => by
          by_cases e : j = n
          · subst e; exact hmk
          · exact HA.out j (by omega)
        clear hM hmk
        go_big_wp2_with (go_at_call 109; refine (HM.out _).mono ?_; rintro e w1 ⟨rfl, rfl⟩)
        exact ⟨⟨n + 1, rfl, by omega, HN⟩, by simp [RowKit.intOf]; omega⟩
      | true =>
        rw [hmk] at hM
        have HM := Lib.hid hM
        have HWN := Lib.hid (HF.out (.inr hmk))
        clear hM hmk
        go_big_wp2_with (first
          | (go_at_call 109; refine (HM.out _).mono ?_; rintro e w1 ⟨rfl, rfl⟩)
          | (go_at_call 142; refine (HK.out _ HO.out.moved.rest).mono ?_; rintro e w2 ⟨rfl, hm2⟩; have HO2 := Lib.hid (HO.out.on hm2))
          | (go_at_call 141; refine (HD.out _).mono ?_; rintro e w3 ⟨rfl, hb3⟩; have HO3 := Lib.hid (HO2.out.below hb3); obtain ⟨⟨r0, r1, r2, r3, r4⟩, s0, s1, s2, s3, s4⟩ := local5 HO3.out.res))
        refine own_end rfl HO3.out rfl rfl (fun _ => rfl) (k := 3) (n := ⟨#[]⟩) (ao := none) (m := 0) (cap := 0) (sf := false) ?_
        rw [HWN.out]
        exact ⟨rfl, rfl, rfl, rfl, World.ownsRow_nil _ _ _ _, rfl, rfl⟩
    · obtain rfl : n = cur.size := by omega
      have HWN := Lib.hid (HF.out (.inl hlen.symm))
      go_big_wp2_with (first
          | (go_at_call 142; refine (HK.out _ HO.out.moved.rest).mono ?_; rintro e w2 ⟨rfl, hm2⟩; have HO2 := Lib.hid (HO.out.on hm2))
          | (go_at_call 141; refine (HD.out _).mono ?_; rintro e w3 ⟨rfl, hb3⟩; have HO3 := Lib.hid (HO2.out.below hb3); obtain ⟨⟨r0, r1, r2, r3, r4⟩, s0, s1, s2, s3, s4⟩ := local5 HO3.out.res))
      refine own_end rfl HO3.out rfl rfl (fun _ => rfl) (k := 3) (n := ⟨#[]⟩) (ao := none) (m := 0) (cap := 0) (sf := false) ?_
      rw [HWN.out]
      exact ⟨rfl, rfl, rfl, rfl, World.ownsRow_nil _ _ _ _, rfl, rfl⟩

set_option maxRecDepth 100000 in
set_option maxHeartbeats 1000000 in
theorem mayBe_any (d : ByteArray) (hsz : d.size ≤ 4294967280) (b : Nat) (w : World) (hm : Maxed w b) : Calls Tryz.prog 146 #[.string d] w fun e w' => e = .returned (.bool (mayL (bl d))) ∧ w' = w := by
  obtain ⟨m, hmm⟩ := hm.ex
  have H1 := Lib.hid fun w => Tryz.strings_HasPrefix d ⟨#[62]⟩ w
  have H2 := Lib.hid fun w => Tryz.strings_HasPrefix d ⟨#[45, 62]⟩ w
  have H3 := Lib.hid (Tryz.strings_Contains d ⟨#[45, 45, 33, 62]⟩ m w (by omega) hmm)
  have H4 := Lib.hid (Tryz.strings_Contains d ⟨#[60, 33, 45, 45]⟩ m w (by omega) hmm)
  have H5 := Lib.hid fun w => Tryz.strings_HasSuffix d ⟨#[60, 33, 45]⟩ w (by omega)
  unfold mayL
  obtain ⟨z1, e1⟩ : ∃ z, Lib.hasPrefix (bl d) [62] = z := ⟨_, rfl⟩
  obtain ⟨z2, e2⟩ : ∃ z, Lib.hasPrefix (bl d) [45, 62] = z := ⟨_, rfl⟩
  obtain ⟨z3, e3⟩ : ∃ z, Lib.contains (bl d) [45, 45, 33, 62] = z := ⟨_, rfl⟩
  obtain ⟨z4, e4⟩ : ∃ z, Lib.contains (bl d) [60, 33, 45, 45] = z := ⟨_, rfl⟩
  obtain ⟨z5, e5⟩ : ∃ z, Lib.hasSuffix (bl d) [60, 33, 45] = z := ⟨_, rfl⟩
  rw [show Lib.hasPrefix d.data.toList (⟨#[62]⟩ : ByteArray).data.toList = z1 from e1] at H1
  rw [show Lib.hasPrefix d.data.toList (⟨#[45, 62]⟩ : ByteArray).data.toList = z2 from e2] at H2
  rw [show Lib.contains d.data.toList (⟨#[45, 45, 33, 62]⟩ : ByteArray).data.toList = z3 from e3] at H3
  rw [show Lib.contains d.data.toList (⟨#[60, 33, 45, 45]⟩ : ByteArray).data.toList = z4 from e4] at H4
  rw [show Lib.hasSuffix d.data.toList (⟨#[60, 33, 45]⟩ : ByteArray).data.toList = z5 from e5] at H5
  rw [e1, e2, e3, e4, e5]
  clear e1 e2 e3 e4 e5 hm hmm
  go_enter Tryz.func146, Tryz.ntmps146
  go_big_wp2_with (first
    | (go_at_call_of 114 (Value.string ⟨#[62]⟩); refine (H1.out _).mono ?_; rintro e w1 ⟨rfl, hw⟩; rw [hw]; clear hw)
    | (go_at_call_of 114 (Value.string ⟨#[45, 62]⟩); refine (H2.out _).mono ?_; rintro e w1 ⟨rfl, hw⟩; rw [hw]; clear hw)
    | (go_at_call_of 172 (Value.string ⟨#[45, 45, 33, 62]⟩); refine H3.out.mono ?_; rintro e w1 ⟨rfl, hw⟩; rw [hw]; clear hw)
    | (go_at_call_of 172 (Value.string ⟨#[60, 33, 45, 45]⟩); refine H4.out.mono ?_; rintro e w1 ⟨rfl, hw⟩; rw [hw]; clear hw)
    | (go_at_call 173; refine (H5.out _).mono ?_; rintro e w1 ⟨rfl, hw⟩; rw [hw]; clear hw))
  all_goals (go_ret; refine ⟨ret1_eq (congrArg Value.bool ?_), rfl⟩; simp_all)

set_option maxRecDepth 100000 in
set_option maxHeartbeats 1000000 in
theorem comment_any (b : Nat) (cur : ByteArray) (hsz : cur.size ≤ 4294967280) (h4 : 4 ≤ cur.size) (w : World) (h : RB w b cur) (hm : Maxed w b) : ReadsAs 115 (commentL ((bl cur).drop 4)) b w := by
  have HO := Lib.hid (OwnAt.start h)
  have hcell := HO.out.moved.rest.cell
  have hfz := HO.out.moved.rest.frozen
  have h4I : (4 : Int) ≤ cur.size := by omega
  have HMx := Lib.hid (hm.grown HO.out.moved.grown)
  obtain ⟨m, hmm⟩ := HMx.out.ex
  have hts : (cur.extract 4 cur.size).size ≤ 4294967280 := by simp; omega
  have hcut := Tryz.strings_Cut (cur.extract 4 cur.size) ⟨#[45, 45, 62]⟩ m _ (by omega) hmm
  rw [show Lib.cut (cur.extract 4 cur.size).data.toList (⟨#[45, 45, 62]⟩ : ByteArray).data.toList = Lib.cut ((bl cur).drop 4) [45, 45, 62] from congrArg (Lib.cut · [45, 45, 62]) (bl_drop cur 4)] at hcut
  unfold commentL
  have hcl : (Lib.cut ((bl cur).drop 4) [45, 45, 62]).1.length ≤ (bl cur).length := by
    unfold Lib.cut
    split
    · simp; omega
    · simp
  obtain ⟨⟨d, r, z⟩, hd⟩ : ∃ x, Lib.cut ((bl cur).drop 4) [45, 45, 62] = x := ⟨_, rfl⟩
  rw [hd] at hcut hcl
  rw [hd]
  simp only at hcut hcl
  have hds : (⟨d.toArray⟩ : ByteArray).size ≤ 4294967280 := by rw [← bl_length, bl_of]; rw [bl_length] at hcl; omega
  have HB := Lib.hid fun w hm => mayBe_any ⟨d.toArray⟩ hds b w hm
  rw [bl_of] at HB
  obtain ⟨y, hy⟩ : ∃ y, mayL d = y := ⟨_, rfl⟩
  rw [hy] at HB
  rw [hy]
  have HC := Lib.hid fun w => clone_any ⟨d.toArray⟩ w (by omega)
  have HCut := Lib.hid hcut
  obtain ⟨o, ho⟩ : ∃ o, (if (z && y) = true then Except.ok (⟨4, [], [], false, d⟩, r) else Except.error 43 : Except Nat (Tok × Bytes)) = o := ⟨_, rfl⟩
  rw [ho]
  have HOo := Lib.hid ho
  clear h hm hmm hcut hcl hd hds hy hts ho
  unfold ReadsAs
  go_enter Tryz.func115, Tryz.ntmps115
  go_big_wp2_with (first
    | (go_at_call 145; refine HCut.out.mono ?_; rintro e w1 ⟨rfl, n, rfl⟩; have HO1 := Lib.hid (HO.out.below (below_drewN (Below.refl _ _) n)); have hf1 := HO1.out.moved.rest.frozen; have hc1 := HO1.out.moved.rest.cell; obtain ⟨⟨r0, r1, r2, r3, r4⟩, s0, s1, s2, s3, s4⟩ := local5 HO1.out.res)
    | (go_at_call 146; refine (HB.out _ (HMx.out.below (below_drewN (Below.refl _ _) n))).mono ?_; rintro e w2 ⟨rfl, hw⟩; rw [hw]; clear hw)
    | (go_at_call 135; refine (HC.out _).mono ?_; rintro e w3 ⟨rfl, hb3⟩; have HO3 := Lib.hid ((HO1.out.on (Moved.set HO1.out.moved.rest ⟨r.toArray⟩)).below hb3); obtain ⟨⟨t0, t1, t2, t3, t4⟩, u0, u1, u2, u3, u4⟩ := local5 HO3.out.res))
  · have hy : y = false := by
      have : (!y) = true := by assumption
      simpa using this
    have hz : z = true := by assumption
    exact own_err rfl HO1.out rfl rfl rfl (by rw [← HOo.out, hz, hy]; rfl)
  · have hy : y = true := by
      have : (!y) = false := by assumption
      simpa using this
    have hz : z = true := by assumption
    refine own_end rfl HO3.out rfl rfl (fun _ => rfl) (k := 4) (n := ⟨#[]⟩) (ao := none) (m := 0) (cap := 0) (sf := false) ?_
    rw [← HOo.out, hz, hy]
    exact ⟨rfl, rfl, rfl, rfl, World.ownsRow_nil _ _ _ _, rfl, rfl⟩
  · have hz : z = false := by
      have : ¬ z = true := by assumption
      simpa using this
    exact own_err rfl HO1.out rfl rfl rfl (by rw [← HOo.out, hz]; rfl)
end Go.Proofs.YtkfmfldkllkcbaaGreatDoor
namespace Go.TokenKit
open Go Go.Lib Go.CharrefKit
theorem attrsF_err : ∀ (f : Nat) (l : List At) (s : Bytes) (x : Nat), attrsF f l s = .error x → x = 40 ∨ x = 41 ∨ x = 3
  | 0, _, _, _, h => by simp only [attrsF, Except.error.injEq] at h; exact .inl h.symm
  | f + 1, l, s, x, h => by
    unfold attrsF at h
    split at h
    · simp only [Except.error.injEq] at h; exact .inl h.symm
    · split at h
      · cases h
      · split at h
        · split at h
          · simp only [Except.error.injEq] at h; exact .inl h.symm
          · split at h
            · cases h
            · simp only [Except.error.injEq] at h; exact .inl h.symm
        · split at h
          · simp only [Except.error.injEq] at h; exact .inr (.inl h.symm)
          · split at h
            · simp only [Except.error.injEq] at h; exact .inr (.inl h.symm)
            · split at h
              · simp only [Except.error.injEq] at h; exact .inr (.inr h.symm)
              · exact attrsF_err f _ _ x h
theorem tagL_err {k : Nat} {s : Bytes} {x : Nat} (h : tagL k s = .error x) : x = 40 ∨ x = 41 ∨ x = 3 := by
  unfold tagL at h
  split at h
  · split at h
    · rename_i e he
      simp only [Except.error.injEq] at h
      subst h
      exact attrsF_err _ _ _ _ he
    · cases h
  · simp only [Except.error.injEq] at h; exact .inl h.symm
end Go.TokenKit
namespace Go.Proofs.YtkfmfldkllkcbaaGreatDoor
open Go.RowKit Go.RunKit Go.CharrefKit Go.Lib Go.TokenKit

theorem trimS_len (l cs : List UInt8) : (Lib.trimS l cs).length ≤ l.length := by
  unfold Lib.trimS Lib.trimLeftS Lib.trimRightS
  refine Nat.le_trans (List.dropWhile_sublist _).length_le ?_
  rw [List.length_reverse]
  refine Nat.le_trans (List.dropWhile_sublist _).length_le ?_
  rw [List.length_reverse]; exact Nat.le_refl _
set_option maxRecDepth 100000 in
set_option maxHeartbeats 1000000 in
theorem doctype_any (b : Nat) (cur : ByteArray) (hsz : cur.size ≤ 4294967280) (h9 : 9 ≤ cur.size) (w : World) (h : RB w b cur) (hm : Maxed w b) : ReadsAs 117 (doctypeL ((bl cur).drop 9)) b w := by
  have HO := Lib.hid (OwnAt.start h)
  have hcell := HO.out.moved.rest.cell
  have h9I : (9 : Int) ≤ cur.size := by omega
  have HMx := Lib.hid (hm.grown HO.out.moved.grown)
  obtain ⟨m, hmm⟩ := HMx.out.ex
  have hts : (cur.extract 9 cur.size).size ≤ 4294967280 := by simp; omega
  have hcut := Tryz.strings_Cut (cur.extract 9 cur.size) ⟨#[62]⟩ m _ (by omega) hmm
  rw [show Lib.cut (cur.extract 9 cur.size).data.toList (⟨#[62]⟩ : ByteArray).data.toList = Lib.cut ((bl cur).drop 9) [62] from congrArg (Lib.cut · [62]) (bl_drop cur 9)] at hcut
  unfold doctypeL
  have hcl : (Lib.cut ((bl cur).drop 9) [62]).1.length ≤ (bl cur).length := by
    unfold Lib.cut
    split
    · simp; omega
    · simp
  obtain ⟨⟨d, r, z⟩, hd⟩ : ∃ x, Lib.cut ((bl cur).drop 9) [62] = x := ⟨_, rfl⟩
  rw [hd] at hcut hcl
  rw [hd]
  simp only at hcut hcl
  have htl := trimS_len d blanks
  have hds : (⟨d.toArray⟩ : ByteArray).size ≤ 4294967280 := by rw [← bl_length, bl_of]; rw [bl_length] at hcl; omega
  have hT := fun w => trim_any ⟨d.toArray⟩ ⟨#[9, 10, 12, 32]⟩ w (by omega) (by decide) (ascii_of_all (by decide))
  rw [bl_of, show bl (⟨#[9, 10, 12, 32]⟩ : ByteArray) = blanks from rfl] at hT
  obtain ⟨t, ht⟩ : ∃ t, Lib.trimS d blanks = t := ⟨_, rfl⟩
  rw [ht] at hT htl
  have HT := Lib.hid hT
  have HC := Lib.hid fun w => clone_any ⟨t.toArray⟩ w (by rw [← bl_length, bl_of]; rw [bl_length] at hcl; omega)
  have HCut := Lib.hid hcut
  obtain ⟨o, ho⟩ : ∃ o, (if z = true then Except.ok (⟨5, [], [], false, Lib.trimS d blanks⟩, r) else Except.error 43 : Except Nat (Tok × Bytes)) = o := ⟨_, rfl⟩
  rw [ho]
  rw [ht] at ho
  have HOo := Lib.hid ho
  clear h hm hmm hcut hcl hd hds hts ho hT htl ht
  unfold ReadsAs
  go_enter Tryz.func117, Tryz.ntmps117
  go_big_wp2_with (first
    | (go_at_call 145; refine HCut.out.mono ?_; rintro e w1 ⟨rfl, n, rfl⟩; have HO1 := Lib.hid (HO.out.below (below_drewN (Below.refl _ _) n)); have hf1 := HO1.out.moved.rest.frozen; have hc1 := HO1.out.moved.rest.cell; obtain ⟨⟨r0, r1, r2, r3, r4⟩, s0, s1, s2, s3, s4⟩ := local5 HO1.out.res)
    | (go_at_call 147; refine (HT.out _).mono ?_; rintro e w2 ⟨rfl, hb2⟩; have HO2 := Lib.hid ((HO1.out.on (Moved.set HO1.out.moved.rest ⟨r.toArray⟩)).below hb2))
    | (go_at_call 135; refine (HC.out _).mono ?_; rintro e w3 ⟨rfl, hb3⟩; have HO3 := Lib.hid (HO2.out.below hb3); obtain ⟨⟨t0, t1, t2, t3, t4⟩, u0, u1, u2, u3, u4⟩ := local5 HO3.out.res))
  · have hz : z = false := by
      have : (!z) = true := by assumption
      simpa using this
    exact own_err rfl HO1.out rfl rfl rfl (by rw [← HOo.out, hz]; rfl)
  · have hz : z = true := by
      have : (!z) = false := by assumption
      simpa using this
    refine own_end rfl HO3.out rfl rfl (fun _ => rfl) (k := 5) (n := ⟨#[]⟩) (ao := none) (m := 0) (cap := 0) (sf := false) ?_
    rw [← HOo.out, hz]
    exact ⟨rfl, rfl, rfl, rfl, World.ownsRow_nil _ _ _ _, rfl, rfl⟩

theorem told_len {t : Tok} {r : Bytes} {base k : Nat} {n : ByteArray} {ao : Option Addr} {m cap : Nat} {sf : Bool} {d : ByteArray} {e : Int} {c : ByteArray} {W : World} (h : ToldK (.ok (t, r)) base k n ao m cap sf d e c W) : m = t.attrs.length := by
  obtain ⟨ao', cap', e, _⟩ := h.2.2.2.2.1.reads
  cases e; rfl
theorem told_on {o : Except Nat (Tok × Bytes)} {base k : Nat} {n : ByteArray} {ao : Option Addr} {m cap : Nat} {sf : Bool} {d : ByteArray} {e : Int} {c : ByteArray} {W W' : World} (h : ToldK o base k n ao m cap sf d e c W) (hb : Below W.heap.size W W') : ToldK o base k n ao m cap sf d e c W' := by
  cases o with
  | error x => exact h
  | ok x =>
    obtain ⟨t, r⟩ := x
    obtain ⟨t1, t2, t3, t4, t5, t6, t7⟩ := h
    exact ⟨t1, t2, t3, t4, t5.on hb, t6, t7⟩
/-- What is wrong with an end tag is known when all of it is read. -/
theorem endL_cons (x : UInt8) (t : Bytes) : endL (x :: t) = if isL x then (match tagL 2 (x :: t) with
      | .error e => .error e
      | .ok (t, r') => if t.self || !t.attrs.isEmpty then .error 40 else .ok (t, r')) else .error 40 := rfl
set_option maxRecDepth 100000 in
set_option maxHeartbeats 2000000 in
theorem end_any (b : Nat) (cur : ByteArray) (hsz : cur.size ≤ 4294967280) (h2 : 2 ≤ cur.size) (w : World) (h : RB w b cur) (hm : Maxed w b) : ReadsAs 113 (endL ((bl cur).drop 2)) b w := by
  have HO := Lib.hid (OwnAt.start h)
  have HM := Lib.hid hm
  have HT := Lib.hid fun w h => take_any b cur 2 h2 w h
  have hs1 : (cur.extract 2 cur.size).size ≤ 4294967280 := by simp; omega
  have hG := fun w h hm => tag_told b 2 (cur.extract 2 cur.size) hs1 w h hm
  rw [bl_drop] at hG
  have hcb : bl (cur.extract 2 cur.size) = (bl cur).drop 2 := bl_drop _ _
  obtain ⟨c1, hc1⟩ : ∃ c, cur.extract 2 cur.size = c := ⟨_, rfl⟩
  rw [hc1] at hG HT hcb
  clear h hm hc1 hs1
  obtain ⟨o, hoo⟩ : ∃ o, endL ((bl cur).drop 2) = o := ⟨_, rfl⟩
  rw [hoo]
  unfold ReadsAs
  cases hb : (bl cur).drop 2 with
  | nil =>
    rw [hb] at hcb
    have hE : c1.toList = [] := by rw [Lib.toList_data]; exact hcb
    have hE1 : c1.toList.isEmpty = true := by simp [hE]
    rw [hb] at hoo
    have HOo := Lib.hid hoo
    clear hcb hb hG hoo
    go_enter Tryz.func113, Tryz.ntmps113
    go_big_wp2_with (first
      | (go_at_call 142; refine (HT.out _ HO.out.moved.rest).mono ?_; rintro e w1 ⟨rfl, hm1⟩; have HO1 := Lib.hid (HO.out.on hm1); have hc := HO1.out.moved.rest.cell; obtain ⟨⟨r0, r1, r2, r3, r4⟩, s0, s1, s2, s3, s4⟩ := local5 HO1.out.res))
    exact own_err (x := 40) (er := 40) rfl HO1.out rfl rfl rfl HOo.out.symm
  | cons x t =>
    rw [hb] at hcb hG
    have hpos : 0 < c1.size := by rw [← bl_length, hcb]; simp
    have hx0 : c1[0]'hpos = x := by
      have := Lib.data_getElem? c1 0 hpos
      change (bl c1)[0]? = _ at this
      rw [hcb] at this
      simpa using this.symm
    have hne0 : ¬ c1.toList = [] := by rw [Lib.toList_data]; intro h; rw [show c1.data.toList = bl c1 from rfl, hcb] at h; cases h
    have hne1 : c1.toList.isEmpty = false := by simpa using hne0
    have HL := Lib.hid (tisLetter_any x.toNat x.toNat_lt)
    rw [hb, endL_cons] at hoo
    cases hl : isL x with
    | false =>
      rw [show isLet x.toNat = false from hl] at HL
      rw [hl] at hoo
      have HOo := Lib.hid hoo
      clear hcb hb hG hl hoo
      go_enter Tryz.func113, Tryz.ntmps113
      go_big_wp2_with (first
        | (go_at_call 142; refine (HT.out _ HO.out.moved.rest).mono ?_; rintro e w1 ⟨rfl, hm1⟩; have HO1 := Lib.hid (HO.out.on hm1); have hc := HO1.out.moved.rest.cell; obtain ⟨⟨r0, r1, r2, r3, r4⟩, s0, s1, s2, s3, s4⟩ := local5 HO1.out.res)
        | (go_at_call 111; refine (HL.out _).mono ?_; rintro e w2 ⟨rfl, rfl⟩))
      exact own_err (x := 40) (er := 40) rfl HO1.out rfl rfl rfl HOo.out.symm
    | true =>
      rw [show isLet x.toNat = true from hl] at HL
      rw [hl] at hoo
      cases ho : tagL 2 (x :: t) with
      | error y =>
        rw [ho] at hG hoo
        have HOo := Lib.hid hoo
        have hy0 : ¬ y = 0 := by have := tagL_err ho; omega
        have hyI : ¬ (y : Int) = 0 := by omega
        have HG := Lib.hid hG
        clear hcb hb hG hl ho hoo
        go_enter Tryz.func113, Tryz.ntmps113
        go_big_wp2_with (first
          | (go_at_call 142; refine (HT.out _ HO.out.moved.rest).mono ?_; rintro e w1 ⟨rfl, hm1⟩; have HO1 := Lib.hid (HO.out.on hm1); have hc := HO1.out.moved.rest.cell)
          | (go_at_call 111; refine (HL.out _).mono ?_; rintro e w2 ⟨rfl, rfl⟩)
          | (go_at_call 143; refine (HG.out _ HO1.out.moved.rest (HM.out.grown HO1.out.moved.grown)).mono ?_; rintro e w3 ⟨k, n, ao, m, cap, sf, d, er, c, rfl, hm3, hK⟩; have HO3 := Lib.hid (HO1.out.on hm3); obtain ⟨hK1, hK2, hK3, hK4, hK5, hK6, hK7, hK8⟩ := hK; subst hK1; subst hK2; subst hK3; subst hK4; subst hK5; subst hK6; subst hK7; subst hK8; have HO4 := Lib.hid (HO3.out.below ((Below.refl _ _).alloc (Nat.le_refl _) (.cells #[.int .u8 0, .string ⟨#[]⟩, .slice none 0 0, .bool false, .string ⟨#[]⟩] 25))); obtain ⟨⟨r0, r1, r2, r3, r4⟩, s0, s1, s2, s3, s4⟩ := local5 HO4.out.res))
        exact own_err (x := y) (er := y) rfl HO4.out rfl rfl rfl HOo.out.symm
      | ok y =>
        obtain ⟨tk, r⟩ := y
        rw [ho] at hG hoo
        obtain ⟨tk1, tk2, tk3, tk4, tk5⟩ := tk
        simp only at hoo
        cases tk4 with
        | true =>
          have HOo := Lib.hid hoo
          have HG := Lib.hid hG
          clear hcb hb hG hl ho hoo
          go_enter Tryz.func113, Tryz.ntmps113
          go_big_wp2_with (first
            | (go_at_call 142; refine (HT.out _ HO.out.moved.rest).mono ?_; rintro e w1 ⟨rfl, hm1⟩; have HO1 := Lib.hid (HO.out.on hm1); have hc := HO1.out.moved.rest.cell)
            | (go_at_call 111; refine (HL.out _).mono ?_; rintro e w2 ⟨rfl, rfl⟩)
            | (go_at_call 143; refine (HG.out _ HO1.out.moved.rest (HM.out.grown HO1.out.moved.grown)).mono ?_; rintro e w3 ⟨k, n, ao, m, cap, sf, d, er, c, rfl, hm3, hK⟩; have HO3 := Lib.hid (HO1.out.on hm3); have hsf : sf = true := hK.2.2.2.2.2.1; have her : er = 0 := hK.1; have hml := told_len hK; subst hsf; subst her; clear hml; have HK := Lib.hid hK; clear hK; have HO4 := Lib.hid (HO3.out.below ((Below.refl _ _).alloc (Nat.le_refl _) (.cells #[.int .u8 ((k : Nat) : Int), .string n, .slice ao m cap, .bool true, .string d] 25))); obtain ⟨⟨r0, r1, r2, r3, r4⟩, s0, s1, s2, s3, s4⟩ := local5 HO4.out.res))
          exact own_err (x := 40) (er := 40) rfl HO4.out rfl rfl rfl (HOo.out.symm.trans (by rfl))
        | false =>
          cases tk3 with
          | nil =>
            have HOo := Lib.hid hoo
            have HG := Lib.hid hG
            clear hcb hb hG hl ho hoo
            go_enter Tryz.func113, Tryz.ntmps113
            go_big_wp2_with (first
              | (go_at_call 142; refine (HT.out _ HO.out.moved.rest).mono ?_; rintro e w1 ⟨rfl, hm1⟩; have HO1 := Lib.hid (HO.out.on hm1); have hc := HO1.out.moved.rest.cell)
              | (go_at_call 111; refine (HL.out _).mono ?_; rintro e w2 ⟨rfl, rfl⟩)
              | (go_at_call 143; refine (HG.out _ HO1.out.moved.rest (HM.out.grown HO1.out.moved.grown)).mono ?_; rintro e w3 ⟨k, n, ao, m, cap, sf, d, er, c, rfl, hm3, hK⟩; have HO3 := Lib.hid (HO1.out.on hm3); have hsf : sf = false := hK.2.2.2.2.2.1; have her : er = 0 := hK.1; have hml := told_len hK; subst hsf; subst her; have hm0 : m = 0 := hml; clear hml; subst hm0; have HK := Lib.hid hK; clear hK; have HO4 := Lib.hid (HO3.out.below ((Below.refl _ _).alloc (Nat.le_refl _) (.cells #[.int .u8 ((k : Nat) : Int), .string n, .slice ao 0 cap, .bool false, .string d] 25))); obtain ⟨⟨r0, r1, r2, r3, r4⟩, s0, s1, s2, s3, s4⟩ := local5 HO4.out.res))
            refine own_end rfl HO4.out rfl rfl (fun _ => rfl) ?_
            rw [← HOo.out]
            exact told_on (told_mono HK.out HO1.out.lt2) ((Below.refl _ _).alloc (Nat.le_refl _) _)
          | cons a0 l0 =>
            have HOo := Lib.hid hoo
            have HG := Lib.hid hG
            clear hcb hb hG hl ho hoo
            go_enter Tryz.func113, Tryz.ntmps113
            go_big_wp2_with (first
              | (go_at_call 142; refine (HT.out _ HO.out.moved.rest).mono ?_; rintro e w1 ⟨rfl, hm1⟩; have HO1 := Lib.hid (HO.out.on hm1); have hc := HO1.out.moved.rest.cell)
              | (go_at_call 111; refine (HL.out _).mono ?_; rintro e w2 ⟨rfl, rfl⟩)
              | (go_at_call 143; refine (HG.out _ HO1.out.moved.rest (HM.out.grown HO1.out.moved.grown)).mono ?_; rintro e w3 ⟨k, n, ao, m, cap, sf, d, er, c, rfl, hm3, hK⟩; have HO3 := Lib.hid (HO1.out.on hm3); have hsf : sf = false := hK.2.2.2.2.2.1; have her : er = 0 := hK.1; have hml := told_len hK; subst hsf; subst her; have hmI : (0 : Int) < (m : Int) := (by have hml : m = l0.length + 1 := hml; omega); clear hml; have HK := Lib.hid hK; clear hK; have HO4 := Lib.hid (HO3.out.below ((Below.refl _ _).alloc (Nat.le_refl _) (.cells #[.int .u8 ((k : Nat) : Int), .string n, .slice ao m cap, .bool false, .string d] 25))); obtain ⟨⟨r0, r1, r2, r3, r4⟩, s0, s1, s2, s3, s4⟩ := local5 HO4.out.res))
            exact own_err (x := 40) (er := 40) rfl HO4.out rfl rfl rfl (HOo.out.symm.trans (by rfl))
end Go.Proofs.YtkfmfldkllkcbaaGreatDoor
namespace Go.Proofs.YtkfmfldkllkcbaaGreatDoor
open Go.RowKit Go.RunKit Go.CharrefKit Go.Lib Go.TokenKit

/-- What is handed back reads the token that begins here. -/
structure NextIs (f : FuncId) (b : Nat) (cur : ByteArray) : Prop where
  reads : ∀ W, RB W b cur → Maxed W b → ReadsAs f (oneL (bl cur)) b W
  enters : ∀ args w, (callFunc f args).run Tryz.prog w = .ok (.enter f args) w
theorem getD_at {s : ByteArray} (h : 1 < s.size) : (bl s).getD 1 0 = s[1]'h := by
  have := Lib.data_getElem? s 1 h
  change (bl s)[1]? = _ at this
  rw [List.getD_eq_getElem?_getD, this]; rfl
set_option maxRecDepth 100000 in
set_option maxHeartbeats 1000000 in
theorem next_any (b : Nat) (cur : ByteArray) (hsz : cur.size ≤ 4294967280) (hpos : 0 < cur.size) (w : World) (h : RB w b cur) :
    Calls Tryz.prog 83 #[.pointer (some ⟨b, 0, none⟩)] w fun e w' => ∃ f, e = .returned (.func (.func f) #[.pointer (some ⟨b, 0, none⟩)] #[]) ∧ Below w.heap.size w w' ∧ NextIs f b cur := by
  have hcell := h.cell
  have hM := fun w => isMark_any cur w
  cases hmk : markL (bl cur) with
  | false =>
    rw [hmk] at hM
    have HM := Lib.hid hM
    have HN : Hid (NextIs 110 b cur) := Lib.hid ⟨fun W hW _ => by
      unfold oneL
      rw [hmk]
      exact words_any b cur hsz W hW, enters_of Tryz.func110 (by kernel_rfl) rfl⟩
    clear hM hmk h
    go_enter Tryz.func83, Tryz.ntmps83
    go_big_wp2_with (go_at_call 109; refine (HM.out _).mono ?_; rintro e w1 ⟨rfl, rfl⟩)
    go_ret
    exact ⟨_, rfl, Below.refl _ _, HN.out⟩
  | true =>
    have h1 : 1 < cur.size := by
      rcases Nat.lt_or_ge 1 cur.size with h | h
      · exact h
      · rw [mark_short cur (by omega)] at hmk; cases hmk
    have h1I : (1 : Int) < cur.size := by omega
    have hg := getD_at h1
    obtain ⟨y, hy⟩ : ∃ y, cur[1]'h1 = y := ⟨_, rfl⟩
    rw [hy] at hg
    rw [hmk] at hM
    have HM := Lib.hid hM
    have HL := Lib.hid (tisLetter_any y.toNat y.toNat_lt)
    have HR := Lib.hid h
    have e1 : oneL (bl cur) = if isL y then tagL 1 ((bl cur).drop 1) else if y = 47 then endL ((bl cur).drop 2) else if Lib.hasPrefix (bl cur) [60, 33, 45, 45] then commentL ((bl cur).drop 4) else if smallL ((bl cur).take 9) = doctypeB then doctypeL ((bl cur).drop 9) else .error 43 := by
      unfold oneL
      rw [hmk, hg]; rfl
    clear hM hmk h hg
    cases hl : isL y with
    | true =>
      rw [show isLet y.toNat = true from hl] at HL
      have HN : Hid (NextIs 112 b cur) := Lib.hid ⟨fun W hW hm => by
        rw [e1, hl, if_pos rfl]
        exact start_any b cur hsz (by omega) W hW hm, enters_of Tryz.func112 (by kernel_rfl) rfl⟩
      clear e1 hl
      go_enter Tryz.func83, Tryz.ntmps83
      go_big_wp2_with (first
        | (go_at_call 109; refine (HM.out _).mono ?_; rintro e w1 ⟨rfl, rfl⟩)
        | (go_at_call 111; refine (HL.out _).mono ?_; rintro e w2 ⟨rfl, rfl⟩))
      go_ret
      exact ⟨_, rfl, Below.refl _ _, HN.out⟩
    | false =>
      rw [show isLet y.toNat = false from hl] at HL
      rw [hl] at e1
      by_cases h47 : y = 47
      · have hi47 : ((y.toNat : Int) == 47) = true := by subst h47; rfl
        have HN : Hid (NextIs 113 b cur) := Lib.hid ⟨fun W hW hm => by
          rw [e1, if_neg (by decide), if_pos h47]
          exact end_any b cur hsz (by omega) W hW hm, enters_of Tryz.func113 (by kernel_rfl) rfl⟩
        clear e1 hl h47
        go_enter Tryz.func83, Tryz.ntmps83
        go_big_wp2_with (first
          | (go_at_call 109; refine (HM.out _).mono ?_; rintro e w1 ⟨rfl, rfl⟩)
          | (go_at_call 111; refine (HL.out _).mono ?_; rintro e w2 ⟨rfl, rfl⟩))
        go_ret
        exact ⟨_, rfl, Below.refl _ _, HN.out⟩
      · have hi47 : ((y.toNat : Int) == 47) = false := by
          rw [beq_eq_false_iff_ne]; intro e; apply h47; apply UInt8.toNat_inj.1; show y.toNat = 47; omega
        rw [if_neg (by decide), if_neg h47] at e1
        have hP := fun w => Tryz.strings_HasPrefix cur ⟨#[60, 33, 45, 45]⟩ w
        cases hp : Lib.hasPrefix (bl cur) [60, 33, 45, 45] with
        | true =>
          rw [show Lib.hasPrefix cur.data.toList (⟨#[60, 33, 45, 45]⟩ : ByteArray).data.toList = true from hp] at hP
          have HP := Lib.hid hP
          have h4 : 4 ≤ cur.size := by
            have := (List.isPrefixOf_iff_prefix.1 hp).length_le
            rw [bl_length] at this
            exact this
          have HN : Hid (NextIs 115 b cur) := Lib.hid ⟨fun W hW hm => by
            rw [e1, hp, if_pos rfl]
            exact comment_any b cur hsz h4 W hW hm, enters_of Tryz.func115 (by kernel_rfl) rfl⟩
          clear e1 hl hp hP h47
          go_enter Tryz.func83, Tryz.ntmps83
          go_big_wp2_with (first
            | (go_at_call 109; refine (HM.out _).mono ?_; rintro e w1 ⟨rfl, rfl⟩)
            | (go_at_call 111; refine (HL.out _).mono ?_; rintro e w2 ⟨rfl, rfl⟩)
            | (go_at_call 114; refine (HP.out _).mono ?_; rintro e w3 ⟨rfl, hw⟩; rw [hw]; clear hw))
          go_ret
          exact ⟨_, rfl, Below.refl _ _, HN.out⟩
        | false =>
          rw [show Lib.hasPrefix cur.data.toList (⟨#[60, 33, 45, 45]⟩ : ByteArray).data.toList = false from hp] at hP
          have HP := Lib.hid hP
          rw [hp, if_neg (by decide)] at e1
          obtain ⟨kk, hkk⟩ : ∃ kk : Nat, min (9 : Int) (cur.size : Int) = (kk : Int) := ⟨min 9 cur.size, by omega⟩
          have hkl : kk ≤ cur.size := by omega
          have hkI : (kk : Int) ≤ cur.size := by omega
          have htk : (bl cur).take kk = (bl cur).take 9 := by
            have := bl_length cur
            rcases Nat.lt_or_ge 9 cur.size with h | h
            · rw [show kk = 9 by omega]
            · rw [List.take_of_length_le (by omega), List.take_of_length_le (by omega)]
          have hS := fun w => small_any (cur.extract 0 kk) (by simp; omega) w
          rw [bl_take, htk] at hS
          obtain ⟨sm, hsm⟩ : ∃ sm, smallL ((bl cur).take 9) = sm := ⟨_, rfl⟩
          rw [hsm] at hS e1
          have HS := Lib.hid hS
          have hca : ∀ p : Over w, p.out.cell? ⟨b, 0, none⟩ = some (.string cur) := fun p => p.cell hcell
          have HE := Lib.hid e1
          have HSm := Lib.hid hsm
          clear hS hsm htk e1 hl hp hP h47
          go_enter Tryz.func83, Tryz.ntmps83
          go_big_wp2_with (first
            | (go_at_call 109; refine (HM.out _).mono ?_; rintro e w1 ⟨rfl, rfl⟩)
            | (go_at_call 111; refine (HL.out _).mono ?_; rintro e w2 ⟨rfl, rfl⟩)
            | (go_at_call 114; refine (HP.out _).mono ?_; rintro e w3 ⟨rfl, hw⟩; rw [hw]; clear hw))
          refine wp_region_below (by kernel_rfl) (by kernel_rfl) ?_
          repeat (go_big_quiet_step (first | (go_at_call 116; exact calls_over (HS.out _))))
          refine wpQuiet_nil ?_
          intro W hw'
          obtain ⟨q, rfl⟩ := hw'
          by_cases hd : sm = doctypeB
          · have h9 : 9 ≤ cur.size := by
              have := congrArg List.length (HSm.out.trans hd)
              rw [small_len, List.length_take, bl_length] at this
              change min 9 cur.size = 9 at this
              omega
            have HN : Hid (NextIs 117 b cur) := Lib.hid ⟨fun W hW hm => by
              rw [HE.out, if_pos hd]
              exact doctype_any b cur hsz h9 W hW hm, enters_of Tryz.func117 (by kernel_rfl) rfl⟩
            have hdb : (sm == [60, 33, 100, 111, 99, 116, 121, 112, 101]) = true := beq_iff_eq.2 hd
            rw [hdb]
            clear hd hdb
            go_big_wp2
            go_ret
            exact ⟨_, rfl, q.below, HN.out⟩
          · have HN : Hid (NextIs 118 b cur) := Lib.hid ⟨fun W hW hm => by
              rw [HE.out, if_neg hd]
              exact unknown_any b cur W hW, enters_of Tryz.func118 (by kernel_rfl) rfl⟩
            have hdb : (sm == [60, 33, 100, 111, 99, 116, 121, 112, 101]) = false := beq_eq_false_iff_ne.2 hd
            rw [hdb]
            clear hd hdb
            go_big_wp2
            go_ret
            exact ⟨_, rfl, q.below, HN.out⟩
end Go.Proofs.YtkfmfldkllkcbaaGreatDoor
namespace Go.Proofs.YtkfmfldkllkcbaaGreatDoor
open Go.RowKit Go.RunKit Go.CharrefKit Go.Lib Go.TokenKit

def tkCells (L : List (Tok × Value)) : List Value := L.flatMap fun x => [.int .u8 ((x.1.kind : Nat) : Int), .string ⟨x.1.name.toArray⟩, x.2, .bool x.1.self, .string ⟨x.1.data.toArray⟩]
theorem tkCells_cons (x : Tok × Value) (L : List (Tok × Value)) : tkCells (x :: L) = .int .u8 ((x.1.kind : Nat) : Int) :: .string ⟨x.1.name.toArray⟩ :: x.2 :: .bool x.1.self :: .string ⟨x.1.data.toArray⟩ :: tkCells L := rfl
theorem tkCells_snoc (L : List (Tok × Value)) (x : Tok × Value) : tkCells (L ++ [x]) = tkCells L ++ [.int .u8 ((x.1.kind : Nat) : Int), .string ⟨x.1.name.toArray⟩, x.2, .bool x.1.self, .string ⟨x.1.data.toArray⟩] := by simp [tkCells]
theorem tkCells_len (L : List (Tok × Value)) : (tkCells L).length = L.length * 5 := by
  induction L with
  | nil => rfl
  | cons x r ih => rw [tkCells_cons]; simp only [List.length_cons, ih]; omega
theorem tkCells_at : ∀ {L : List (Tok × Value)} {k : Nat} {x : Tok × Value}, L[k]? = some x →
    (tkCells L)[k * 5]? = some (.int .u8 ((x.1.kind : Nat) : Int)) ∧ (tkCells L)[k * 5 + 1]? = some (.string ⟨x.1.name.toArray⟩) ∧ (tkCells L)[k * 5 + 2]? = some x.2 ∧ (tkCells L)[k * 5 + 3]? = some (.bool x.1.self) ∧ (tkCells L)[k * 5 + 4]? = some (.string ⟨x.1.data.toArray⟩)
  | [], k, x, h => by simp at h
  | y :: r, 0, x, h => by
    simp only [List.getElem?_cons_zero, Option.some.injEq] at h
    subst h
    exact ⟨rfl, rfl, rfl, rfl, rfl⟩
  | y :: r, k + 1, x, h => by
    have := tkCells_at (L := r) (k := k) (x := x) (by simpa using h)
    rw [tkCells_cons, show (k + 1) * 5 = k * 5 + 1 + 1 + 1 + 1 + 1 by omega]
    simpa using this
/-- Tokens in memory: a row, and each one's attributes. -/
structure TkRow (T : TypeId) (w : World) (base : Nat) (v : Value) (L : List (Tok × Value)) : Prop where
  row : w.ownsRow base T 5 v L.length (tkCells L)
  sub : ∀ x, x ∈ L → AtRow w base x.2 x.1.attrs
theorem TkRow.nil (T : TypeId) (w : World) (base : Nat) : TkRow T w base (.slice none 0 0) [] := ⟨World.ownsRow_nil _ _ _ _, fun x h => by cases h⟩
theorem own_on {w w' : World} {base : Nat} {e : TypeId} {size : Nat} {v : Value} {n : Nat} {xs : List Value} (h : w.ownsRow base e size v n xs) (hb : Below w.heap.size w w') : w'.ownsRow base e size v n xs :=
  World.ownsRow.kept h (grown_below hb none) (by cases v.ownBlock <;> simp)
theorem TkRow.on {T : TypeId} {w w' : World} {base : Nat} {v : Value} {L : List (Tok × Value)} (h : TkRow T w base v L) (hb : Below w.heap.size w w') : TkRow T w' base v L := ⟨own_on h.row hb, fun x hx => (h.sub x hx).on hb⟩
theorem own_ne {w : World} {base k size n : Nat} {e T : TypeId} {v : Value} {xs : List Value} {cs : Array Value} {fr : Nat × Nat} (h : w.ownsRow base e size v n xs) (hk : w.heap[k]? = some (.cells cs T fr)) (hT : T ≠ e) : v.ownBlock ≠ some k := by
  intro ee
  rcases h.2 with ⟨rfl, _⟩ | ⟨g, cap, cur, rfl, _, hg, _⟩
  · simp [Value.ownBlock] at ee
  · simp only [Value.ownBlock, Option.some.injEq] at ee
    subst ee
    rw [hk] at hg
    simp only [Option.some.injEq, Obj.cells.injEq] at hg
    exact hT hg.2.1
/-- The reader moves on: the rows stay. -/
theorem TkRow.moved {T : TypeId} {w w' : World} {base b : Nat} {c c' : ByteArray} {v : Value} {L : List (Tok × Value)} (h : TkRow T w base v L) (hr : RB w b c) (hT : TRd ≠ T) (hm : Moved w b c' w') : TkRow T w' base v L :=
  ⟨World.ownsRow.kept h.row hm.grown (.inr (own_ne h.row hr hT)), fun x hx => (h.sub x hx).kept hr (by decide) hm.grown⟩
/-- One token more. -/
theorem TkRow.grew {T : TypeId} {w w' : World} {base : Nat} {v v' : Value} {L : List (Tok × Value)} {x : Tok × Value} (h : TkRow T w base v L) (hx : AtRow w base x.2 x.1.attrs) (hT : T ≠ TAt) (hg : w.grownBy w' v.ownBlock) (hown : w'.ownsRow base T 5 v' (L.length + 1) (tkCells L ++ [.int .u8 ((x.1.kind : Nat) : Int), .string ⟨x.1.name.toArray⟩, x.2, .bool x.1.self, .string ⟨x.1.data.toArray⟩])) :
    TkRow T w' base v' (L ++ [x]) := by
  have hk : ∀ y : Tok × Value, AtRow w base y.2 y.1.attrs → AtRow w' base y.2 y.1.attrs := fun y hy => by
    rcases h.row.2 with ⟨rfl, _⟩ | ⟨g, cap, cur, rfl, _, hgg, _⟩
    · exact World.ownsRow.kept hy hg (by cases hv : y.2.ownBlock <;> simp [Value.ownBlock])
    · exact hy.kept hgg hT hg
  refine ⟨?_, fun y hy => ?_⟩
  · rw [tkCells_snoc, List.length_append]; exact hown
  · rcases List.mem_append.1 hy with hy | hy
    · exact hk y (h.sub y hy)
    · simp only [List.mem_singleton] at hy
      subst hy
      exact hk _ hx
theorem Maxed.at_ {w W : World} {b : Nat} (h : Maxed w w.heap.size) (hb : Below w.heap.size w W) (hB : w.heap.size ≤ b) : Maxed W b := by
  obtain ⟨m, hm⟩ := h.ex
  refine ⟨⟨m, ?_⟩, Nat.lt_of_lt_of_le h.lt hB⟩
  rw [hb.cell (World.block_lt_of_cell? _ _ hm)]; exact hm
theorem Tryz.infoTok : (Tryz.prog.info? 25).map (fun i => (i.zero, i.size, i.bytes)) = some (some (.agg #[.int .u8 0, .string ⟨#[]⟩, .slice none 0 0, .bool false, .string ⟨#[]⟩]), 5, 72) := by kernel_rfl
theorem oneL_err {l : Bytes} {x : Nat} (h : oneL l = .error x) : x = 40 ∨ x = 41 ∨ x = 3 ∨ x = 43 := by
  unfold oneL at h
  split at h
  · split at h
    · have := tagL_err h; omega
    · split at h
      · cases hd : l.drop 2 with
        | nil => rw [hd] at h; simp only [endL, Except.error.injEq] at h; omega
        | cons b r =>
          rw [hd, endL_cons] at h
          split at h
          · split at h
            · rename_i e he
              simp only [Except.error.injEq] at h
              have := tagL_err he
              omega
            · split at h
              · simp only [Except.error.injEq] at h; omega
              · cases h
          · simp only [Except.error.injEq] at h; omega
      · split at h
        · unfold commentL at h
          split at h
          · cases h
          · simp only [Except.error.injEq] at h; omega
        · split at h
          · unfold doctypeL at h
            split at h
            · cases h
            · simp only [Except.error.injEq] at h; omega
          · simp only [Except.error.injEq] at h; omega
  · cases h
/-- What is told at last, out of what was told so far. -/
def joinT (d : List Tok) : Except (Nat × Nat) (List Tok) → Except (Nat × Nat) (List Tok)
  | .ok ts => .ok (d ++ ts)
  | .error x => .error x
theorem joinT_nil (o : Except (Nat × Nat) (List Tok)) : joinT [] o = o := by cases o <;> rfl
theorem joinT_err {d : List Tok} {p : Nat} {l : Bytes} {x : Nat} (hl : l ≠ []) (h : oneL l = .error x) : joinT d (toksAt p l) = .error (x, p) := by rw [toksAt_step p hl, h]; rfl
theorem joinT_ok {d : List Tok} {p : Nat} {l r : Bytes} {t : Tok} (hl : l ≠ []) (h : oneL l = .ok (t, r)) : joinT d (toksAt p l) = joinT (d ++ [t]) (toksAt (p + (l.length - r.length)) r) := by
  rw [toksAt_step p hl, h]
  simp only
  cases toksAt (p + (l.length - r.length)) r with
  | error x => rfl
  | ok ts => simp [joinT]
/-- What is held at the loop's head. -/
structure ToksAt (w : World) (b : Nat) (s cur : ByteArray) (v : Value) (L : List (Tok × Value)) (wr : World) : Prop where
  below : Below w.heap.size w wr
  rest : RB wr b cur
  row : TkRow TTk wr w.heap.size v L
  size : L.length + cur.size ≤ s.size
  spec : joinT (L.map (·.1)) (toksAt (s.size - cur.size) (bl cur)) = toksAt 0 (bl s)
  le : w.heap.size ≤ b

set_option maxRecDepth 100000 in
set_option maxHeartbeats 1000000 in
theorem tokens_any (s : ByteArray) (w : World) (hM : Maxed w w.heap.size) :
    Calls Tryz.prog 49 #[.string s] w fun e w' => ∃ v L er pl, e = .returned (.tuple #[v, .int .i64 ((er : Nat) : Int), .int .i64 ((pl : Nat) : Int)]) ∧ Below w.heap.size w w' ∧ TkRow TTk w' w.heap.size v L ∧ (L.map (·.1), er, pl) = answerL (bl s) := by
  have hlen := bl_length s
  by_cases hbig : 65536 < s.size
  · have hI : (65536 : Int) < s.size := by omega
    have ha : answerL (bl s) = ([], 3, 0) := by unfold answerL; rw [if_pos (by rw [hlen]; exact hbig)]
    rw [ha]
    go_enter Tryz.func49, Tryz.ntmps49
    go_big_wp2
    go_ret3
    exact ⟨_, [], 3, 0, rfl, Below.refl _ _, TkRow.nil _ _ _, rfl⟩
  · have hI : ¬ (65536 : Int) < s.size := by omega
    have HI : Hid (∀ W, Calls Tryz.prog 82 #[.string s, .int .u8 0] W fun e w'' => e = .returned (.int .i64 (Lib.indexByte (bl s) 0)) ∧ W = w'') :=
      Lib.hid fun W => (Tryz.strings_IndexByte s 0 W).mono fun e w1 ⟨h1, h2⟩ => ⟨h1, h2.symm⟩
    by_cases hz : Lib.indexByte (bl s) 0 = -1
    · have ha : answerL (bl s) = (match toksAt 0 (bl s) with
          | .error (e, p) => ([], e, p)
          | .ok ts => (ts, 0, 0)) := by
        have hc : (bl s).contains 0 = false := by rw [contains_iff_indexByte, hz]; rfl
        unfold answerL
        rw [if_neg (by rw [hlen]; exact hbig), hc]; rfl
      have HAns := Lib.hid ha
      rw [hz] at HI
      obtain ⟨an, han⟩ : ∃ an, answerL (bl s) = an := ⟨_, rfl⟩
      rw [han] at HAns ⊢
      have HMx := Lib.hid hM
      have T0 : Hid (ToksAt w w.heap.size s s (.slice none 0 0) [] (w.alloc (.cells #[.string s] TRd))) := Lib.hid ⟨(Below.refl _ _).alloc (Nat.le_refl _) _, heap_alloc_new w _, TkRow.nil _ _ _, by simp, by rw [Nat.sub_self]; exact joinT_nil _, Nat.le_refl _⟩
      clear hM hz ha han
      go_enter Tryz.func49, Tryz.ntmps49
      go_big_wp2_with (go_at_call 82; refine (HI.out _).mono ?_; rintro e w1 ⟨rfl, rfl⟩)
      go_loopw [6] (fun v wr => ∃ (cur : ByteArray) (L : List (Tok × Value)), Hid (ToksAt w w.heap.size s cur v L wr) ∧ cur.size ≤ s.size) (fun _ wr => restAt w.heap.size wr)
      case atStart => exact ⟨s, [], T0, Nat.le_refl _⟩
      case round =>
        clear T0
        obtain ⟨cur, L, HT, hcs⟩ := hrel
        obtain ⟨ao, cap, hv⟩ := sliceOf HT.out.row.row
        subst hv
        have hcell := HT.out.rest.cell
        have hra := HT.out.rest.restAt
        cases hb : bl cur with
        | nil =>
          have hE : cur.toList = [] := by rw [Lib.toList_data]; exact hb
          have hE1 : cur.toList.isEmpty = true := by simp [hE]
          have hfin : an = (L.map (·.1), 0, 0) := by
            have h1 := HAns.out
            have h2 := HT.out.spec
            rw [hb, toksAt_nil] at h2
            rw [← h2] at h1
            rw [h1]
            simp [joinT]
          have HF := Lib.hid hfin
          clear hb hfin
          go_big_wp2
          go_ret3
          exact ⟨_, L, 0, 0, rfl, HT.out.below, HT.out.row, HF.out.symm⟩
        | cons x t =>
          have hne0 : ¬ cur.toList = [] := by rw [Lib.toList_data]; intro h; rw [show cur.data.toList = bl cur from rfl, hb] at h; cases h
          have hne1 : cur.toList.isEmpty = false := by simpa using hne0
          have hpos : 0 < cur.size := by rw [← bl_length, hb]; simp
          have hbne : bl cur ≠ [] := by rw [hb]; simp
          have HN := Lib.hid (next_any w.heap.size cur (by omega) hpos wr HT.out.rest)
          clear hb
          have hsub : (cur.size : Int) ≤ s.size := by omega
          go_big_wp2_with (first
            | (go_at_call 83; refine HN.out.mono ?_; rintro e w2 ⟨f, rfl, hb2, hf⟩; have ef := hf.enters))
          have hread := hf.reads w2 (HT.out.rest.on hb2) (HMx.out.at_ (HT.out.below.trans (hb2.mono HT.out.below.size)) (Nat.le_refl _))
          have hB2 := HT.out.below.trans (hb2.mono HT.out.below.size)
          have HT2 := Lib.hid (HT.out.row.on hb2)
          have hRB2 := HT.out.rest.on hb2
          cases ho : oneL (bl cur) with
          | error y =>
            rw [ho] at hread
            have hy0 : ¬ y = 0 := by have := oneL_err ho; omega
            have hyI : ¬ (y : Int) = 0 := by omega
            have hfin : an = ([], y, s.size - cur.size) := by
              have h1 := HAns.out
              have h2 := HT.out.spec
              rw [joinT_err hbne ho] at h2
              rw [← h2] at h1
              exact h1
            have HF := Lib.hid hfin
            clear ho hfin hbne hf
            refine hread.mono ?_
            rintro e w3 ⟨k, n, ao2, m2, cap2, sf, d, er, c, rfl, hm3, hK⟩
            obtain ⟨hK1, hK2, hK3, hK4, hK5, hK6, hK7, hK8⟩ := hK
            subst hK1; subst hK2; subst hK3; subst hK4; subst hK5; subst hK6; subst hK7; subst hK8
            have HB3 := Lib.hid (hm3.below hB2 (Nat.le_refl _))
            clear hm3 hread
            go_big_wp2
            go_ret3
            exact ⟨_, [], y, s.size - cur.size, by rw [show ((s.size - cur.size : Nat) : Int) = (s.size : Int) - (cur.size : Int) by omega]; rfl, HB3.out.trans ((Below.refl w3.heap.size w3).alloc (Nat.le_refl _) _ |>.mono HB3.out.size), TkRow.nil _ _ _, HF.out.symm⟩
          | ok y =>
            obtain ⟨tk, r⟩ := y
            rw [ho] at hread
            have hrl := one_len hbne ho
            rw [bl_length] at hrl
            have hsp := HT.out.spec
            rw [joinT_ok hbne ho, bl_length] at hsp
            have HSp := Lib.hid hsp
            clear ho hsp hbne hf
            refine hread.mono ?_
            rintro e w3 ⟨k, n, ao2, m2, cap2, sf, d, er, c, rfl, hm3, hK⟩
            have her : er = 0 := hK.1
            subst her
            have HK := Lib.hid hK
            have HB3 := Lib.hid (hm3.below hB2 (Nat.le_refl _))
            have HR3 := Lib.hid hm3.rest
            have HT3 := Lib.hid (HT2.out.moved hRB2 (by decide) hm3)
            have hbe4 : Below w3.heap.size w3 (w3.alloc (.cells #[.int .u8 ((k : Nat) : Int), .string n, .slice ao2 m2 cap2, .bool sf, .string d] 25)) := (Below.refl _ _).alloc (Nat.le_refl _) _
            have hbe5 : Below w3.heap.size w3 ((w3.alloc (.cells #[.int .u8 ((k : Nat) : Int), .string n, .slice ao2 m2 cap2, .bool sf, .string d] 25)).alloc (.cells #[.int .u8 ((k : Nat) : Int), .string n, .slice ao2 m2 cap2, .bool sf, .string d] 25)) := hbe4.alloc (by simp) _
            have HT5 := Lib.hid (HT3.out.on hbe5)
            have HB5 := Lib.hid hbe5
            obtain ⟨i0, hi0, hz0, hz1, hz2⟩ := info_parts Tryz.infoTok
            clear hm3 hread hK hbe4 hbe5
            go_big_wp2_with (at_builtin; refine wpList_append_own_at _ rfl _ _ 22 rfl w.heap.size 25 i0 _ 5 72 Tryz.underlying22 hi0 hz0 hz1 hz2 rfl (by decide) _ L.length (tkCells L) rfl HT5.out.row ⟨w3.heap.size + 1, 0, none⟩ 1 1 [.int .u8 ((k : Nat) : Int), .string n, .slice ao2 m2 cap2, .bool sf, .string d] rfl ?c1 ?c2 ?c3 ?c4 ?c5 ?c6 ?_)
            case c1 => rfl
            case c2 =>
              have := news_alloc (w3.alloc (.cells #[.int .u8 ((k : Nat) : Int), .string n, .slice ao2 m2 cap2, .bool sf, .string d] 25)) [.int .u8 ((k : Nat) : Int), .string n, .slice ao2 m2 cap2, .bool sf, .string d] 25
              rwa [show (w3.alloc (.cells #[.int .u8 ((k : Nat) : Int), .string n, .slice ao2 m2 cap2, .bool sf, .string d] 25)).heap.size = w3.heap.size + 1 by simp] at this
            case c3 => intro u hu; simp only [List.mem_cons, List.not_mem_nil, or_false] at hu; rcases hu with rfl | rfl | rfl | rfl | rfl <;> rfl
            case c4 => have := HT.out.size; unfold maxLen; omega
            case c5 => have := HT.out.size; omega
            case c6 => have := HB3.out.size; have := HB5.out.size; omega
            intro v' W hown' hgrow _ _
            have hbW : Below w.heap.size w W := (HB3.out.trans (HB5.out.mono HB3.out.size)).grown hgrow (by have := HB3.out.size; have := HB5.out.size; omega) (fun q hq => (World.ownsRow.lt HT5.out.row q hq).1)
            have hrbW : RB W w.heap.size c := by
              have h5 := HR3.out.on HB5.out
              exact (hgrow.block _ h5.lt (fun e => own_ne HT5.out.row h5 (by decide) e.symm)).trans h5
            obtain ⟨_, hc, hk1, hn1, hat, hsf, hd1⟩ := HK.out
            subst hc; subst hk1; subst hn1; subst hsf; subst hd1
            have hrow := HT5.out.grew (x := (tk, .slice ao2 m2 cap2)) ((hat.mono hB2.size).on HB5.out) (by decide) hgrow hown'
            have hsz2 : (⟨r.toArray⟩ : ByteArray).size = r.length := by rw [← bl_length, bl_of]
            have hTA : Hid (ToksAt w w.heap.size s ⟨r.toArray⟩ v' (L ++ [(tk, .slice ao2 m2 cap2)]) W) := Lib.hid ⟨hbW, hrbW, hrow, by
                rw [hsz2, List.length_append]; have := HT.out.size; simp; omega, by
                rw [hsz2, bl_of, List.map_append, ← HSp.out, show s.size - cur.size + (cur.size - r.length) = s.size - r.length by omega]; rfl, Nat.le_refl _⟩
            clear hown' hgrow hbW hrbW hrow hat
            go_big_wp2
            exact ⟨⟨_, _, hTA, by rw [hsz2]; omega⟩, by rw [hTA.out.rest.restAt, hra, hsz2]; omega⟩
    · obtain ⟨p, hp⟩ : ∃ p : Nat, Lib.indexByte (bl s) 0 = (p : Int) := ⟨(Lib.indexByte (bl s) 0).toNat, by have := Lib.indexByte_ge (bl s) 0; omega⟩
      have ha : answerL (bl s) = ([], 42, p) := by
        have hp2 := hp
        rw [← indexAny_one] at hp2
        obtain ⟨h1, h2, h3⟩ := any_some hp2
        have hc : (bl s).contains 0 = true := by rw [contains_iff_indexByte, hp]; simp
        unfold answerL
        rw [if_neg (by rw [hlen]; exact hbig), if_pos hc, h2, List.length_take, Nat.min_eq_left (Nat.le_of_lt h1)]
      rw [ha]
      rw [hp] at HI
      clear hp hz ha
      go_enter Tryz.func49, Tryz.ntmps49
      go_big_wp2_with (go_at_call 82; refine (HI.out _).mono ?_; rintro e w1 ⟨rfl, rfl⟩)
      go_ret3
      exact ⟨_, [], 42, p, rfl, Below.refl _ _, TkRow.nil _ _ _, rfl⟩
end Go.Proofs.YtkfmfldkllkcbaaGreatDoor
