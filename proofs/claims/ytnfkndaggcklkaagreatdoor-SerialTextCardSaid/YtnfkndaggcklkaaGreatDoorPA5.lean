/-
  strings.IndexAny and ContainsAny at some few ASCII bytes, whatever the text. Conditions: the bytes looked for are ASCII, two or more; the text is shorter than 2^32.
  Functions of package token that read bytes alone: isLetter, isDigit, isMark, isWord, small. Conditions: texts are no longer than 2^40 bytes.
  small and isWord of package token. Conditions: texts are no longer than 2^40 bytes.
  The reader of package token, step by step: take, takeUpTo, leaveOutBlanks, took, quoted. Conditions: texts are no longer than 2^31 bytes.
-/
import Derived.Test.YtnfkndaggcklkaaGreatDoorPA4
import Derived.Laws.RangeAny
import Derived.WalkMore
import Derived.Shelf.Strings.SlTrimAscii
import Derived.Test.YtnfkndaggcklkaaGreatDoorTMath
import Derived.Laws.IdiomStrings
namespace Go.Proofs.YtnfkndaggcklkaaGreatDoor
open Go.RowKit Go.RunKit Go.CharrefKit Go.Lib

def AllAscii (s : ByteArray) : Prop := ∀ (j : Nat) b, s.data.toList[j]? = some b → b.toNat < 128
/-- A byte of 128 and more is none of them. -/
theorem ib_high {s : ByteArray} (h : AllAscii s) (j : Nat) {c : UInt8} (hc : 128 ≤ c.toNat) : Lib.indexByte (s.extract j s.size).data.toList c = -1 := by
  have e : (s.extract j s.size).data.toList = s.data.toList.drop j := bl_drop s j
  rw [e]
  cases hx : Lib.indexByte (s.data.toList.drop j) c == -1 with
  | true => simpa using hx
  | false =>
    have hx : Lib.indexByte (s.data.toList.drop j) c ≠ -1 := by simpa using hx
    have hg := Lib.indexByte_ge (s.data.toList.drop j) c
    obtain ⟨x, y, e2, _, _⟩ := ib_some (c := c) (l := s.data.toList.drop j) (p := (Lib.indexByte (s.data.toList.drop j) c).toNat) (by omega)
    have hm : c ∈ s.data.toList.drop j := by rw [e2]; simp
    obtain ⟨k, hk⟩ := List.mem_iff_getElem?.1 (List.mem_of_mem_drop hm)
    have := h k c hk
    omega
theorem encode_high {n : Nat} (h : 128 ≤ n) : ∃ rs : ByteArray, Utf8.encode ((n : Nat) : Int) = rs ∧ 2 ≤ rs.size ∧ rs.size ≤ 4 ∧ ∀ (j : Nat) (hj : j < rs.size), 128 ≤ (rs[j]'hj).toNat := by
  refine ⟨_, rfl, ?_⟩
  have hall : ∀ c : Nat, 128 ≤ c → c ≤ 1114111 → ∀ r : ByteArray, r = (if c < 0x80 then ⟨#[UInt8.ofNat c]⟩
      else if c < 0x800 then ⟨#[UInt8.ofNat (0xC0 + c / 64), UInt8.ofNat (0x80 + c % 64)]⟩
      else if c < 0x10000 then ⟨#[UInt8.ofNat (0xE0 + c / 4096), UInt8.ofNat (0x80 + c / 64 % 64), UInt8.ofNat (0x80 + c % 64)]⟩
      else ⟨#[UInt8.ofNat (0xF0 + c / 262144), UInt8.ofNat (0x80 + c / 4096 % 64), UInt8.ofNat (0x80 + c / 64 % 64), UInt8.ofNat (0x80 + c % 64)]⟩) →
      2 ≤ r.size ∧ r.size ≤ 4 ∧ ∀ (j : Nat) (hj : j < r.size), 128 ≤ (r[j]'hj).toNat := by
    intro c h1 h2 r hr
    rw [if_neg (by omega)] at hr
    have key : ∀ m : Nat, 128 ≤ m → m < 256 → 128 ≤ (UInt8.ofNat m).toNat := fun m h1 h2 => by
      rw [UInt8.toNat_ofNat']; omega
    split at hr
    · subst hr
      refine ⟨Nat.le_refl 2, (by decide : 2 ≤ 4), fun j hj => ?_⟩
      have hj : j < 2 := hj
      rcases (by omega : j = 0 ∨ j = 1) with rfl | rfl
      · exact key _ (by omega) (by omega)
      · exact key _ (by omega) (by omega)
    · split at hr
      · subst hr
        refine ⟨(by decide : 2 ≤ 3), (by decide : 3 ≤ 4), fun j hj => ?_⟩
        have hj : j < 3 := hj
        rcases (by omega : j = 0 ∨ j = 1 ∨ j = 2) with rfl | rfl | rfl
        · exact key _ (by omega) (by omega)
        · exact key _ (by omega) (by omega)
        · exact key _ (by omega) (by omega)
      · subst hr
        refine ⟨(by decide : 2 ≤ 4), Nat.le_refl 4, fun j hj => ?_⟩
        have hj : j < 4 := hj
        rcases (by omega : j = 0 ∨ j = 1 ∨ j = 2 ∨ j = 3) with rfl | rfl | rfl | rfl
        · exact key _ (by omega) (by omega)
        · exact key _ (by omega) (by omega)
        · exact key _ (by omega) (by omega)
        · exact key _ (by omega) (by omega)
  unfold Utf8.encode
  simp only
  by_cases hv : Utf8.valid (n : Int) = true
  · rw [if_pos hv, Int.toNat_natCast]
    have hle : n ≤ 1114111 := by
      simp only [Utf8.valid, Bool.or_eq_true, Bool.and_eq_true, decide_eq_true_eq] at hv
      omega
    exact hall n h hle _ rfl
  · rw [if_neg hv]
    exact hall Utf8.runeError (by decide) (by decide) _ rfl

set_option maxRecDepth 100000 in
set_option maxHeartbeats 400000 in
theorem indexRune_err (s : ByteArray) (hs : AllAscii s) (w : World) :
    Calls Tryz.prog 208 #[.string s, .int .i32 65533] w fun e w' => e = .returned (.int .i64 (-1)) ∧ Below w.heap.size w w' := by
  have hA := Lib.hid hs
  clear hs
  go_enter Tryz.func208, Tryz.ntmps208
  go_wp2
  go_loopg [5] s.size (fun g _ wx => ∃ i : Nat, i + g = s.size ∧ wx = w.iter s i)
  case atStart => exact ⟨0, by omega, rfl⟩
  case round =>
    obtain ⟨i, hig, rfl⟩ := hrel
    cases gk with
    | zero =>
      obtain rfl : i = s.size := by omega
      have hnx := run_next_end (P := Tryz.prog) w s s.size
      go_wp2
      go_ret
      exact ⟨rfl, (Below.refl _ _).alloc (Nat.le_refl _) _⟩
    | succ g =>
      have hi : i < s.size := by omega
      obtain ⟨x, hx⟩ : ∃ x : UInt8, s[i]'hi = x := ⟨_, rfl⟩
      have hxl : s.data.toList[i]? = some x := by rw [← hx]; exact Lib.data_getElem? s i hi
      have hx128 : x.toNat < 128 := hA.out i x hxl
      have hnx := fun ty => run_next_ascii (P := Tryz.prog) w s i ty hi (by rw [hx]; exact hx128)
      rw [hx] at hnx
      clear hxl hx
      have hne : ¬ ((x.toNat : Int) = 65533) := by omega
      have hne2 : ((x.toNat : Int) == 65533) = false := beq_eq_false_iff_ne.2 hne
      go_wp2
      go_roundg g
      case measure => omega
      case rel => exact ⟨i + 1, by omega, rfl⟩

set_option maxRecDepth 100000 in
set_option maxHeartbeats 400000 in
theorem indexRune_bad (s : ByteArray) (n : Nat) (h128 : 128 ≤ n) (hne : n ≠ 65533) (hv : Lib.validRune (n : Int) = false) (w : World) :
    Calls Tryz.prog 208 #[.string s, .int .i32 n] w fun e w' => e = .returned (.int .i64 (-1)) ∧ Below w.heap.size w w' := by
  have hge : ¬ ((n : Int) < 128) := by omega
  have hn1 : ¬ ((n : Int) = 65533) := by omega
  have hn2 : ((n : Int) == 65533) = false := beq_eq_false_iff_ne.2 hn1
  go_enter Tryz.func208, Tryz.ntmps208
  go_wp2_with (go_at_call 220; refine (Tryz.utf8_ValidRune _ _).mono ?_; rintro e w' ⟨rfl, rfl⟩)
  go_ret
  exact ⟨rfl, Below.refl _ _⟩
set_option maxRecDepth 100000 in
set_option maxHeartbeats 400000 in
theorem indexRune_ok (s : ByteArray) (hs : AllAscii s) (n : Nat) (h128 : 128 ≤ n) (hne : n ≠ 65533) (hv : Lib.validRune (n : Int) = true) (w : World) :
    Calls Tryz.prog 208 #[.string s, .int .i32 n] w fun e w' => e = .returned (.int .i64 (-1)) ∧ Below w.heap.size w w' := by
  have hge : ¬ ((n : Int) < 128) := by omega
  have hn1 : ¬ ((n : Int) = 65533) := by omega
  have hn2 : ((n : Int) == 65533) = false := beq_eq_false_iff_ne.2 hn1
  go_enter Tryz.func208, Tryz.ntmps208
  go_wp2_with (go_at_call 220; refine (Tryz.utf8_ValidRune _ _).mono ?_; rintro e w' ⟨rfl, rfl⟩)
  go_step3
  go_wp2
  obtain ⟨rs, hrs, h2, h4, hb⟩ := encode_high h128
  rw [hrs]
  obtain ⟨k, hk⟩ : ∃ k, rs.size = k + 1 := ⟨rs.size - 1, by omega⟩
  have hw1 : wrap64 ((rs.size : Int) - 1) = (k : Int) := by rw [hk]; simp [wrap64]; omega
  rw [hw1]
  have hkr : k < rs.size := by omega
  obtain ⟨c, hc⟩ : ∃ c : UInt8, rs[k]'hkr = c := ⟨_, rfl⟩
  have hc128 : 128 ≤ c.toNat := by rw [← hc]; exact hb k hkr
  have hib := ib_high hs (k + 1) hc128
  have HC : Hid (∀ W, Calls Tryz.prog 76 #[.string (s.extract (k + 1) s.size), .int .u8 c.toNat] W fun e w'' => e = .returned (.int .i64 (-1)) ∧ w'' = W) :=
    Lib.hid fun W => (Tryz.strings_IndexByte (s.extract (k + 1) s.size) (c.toNat : Int) W).mono fun e w1 ⟨h1, h2⟩ => ⟨by rw [h1, show ((c.toNat : Int)).toNat.toUInt8 = c by simp, hib], h2⟩
  clear hib
  have HA := Lib.hid hs
  clear hrs hw1 hb hs
  go_loop [9] (fun v => v = .int .i64 (k : Int)) (fun _ => 0)
  case atStart => rfl
  case round =>
    subst hrel
    by_cases hks : k < s.size
    · have hksI : (k : Int) < (s.size : Int) := by omega
      obtain ⟨x, hx⟩ : ∃ x : UInt8, s[k]'hks = x := ⟨_, rfl⟩
      have hx128 : x.toNat < 128 := HA.out k x (by rw [← hx]; exact Lib.data_getElem? s k hks)
      have hne3 : ¬ ((x.toNat : Int) = (c.toNat : Int)) := by omega
      have hne4 : ((x.toNat : Int) == (c.toNat : Int)) = false := beq_eq_false_iff_ne.2 hne3
      have hne5 : ((x.toNat : Int) != (c.toNat : Int)) = true := by simp [bne, hne4]
      go_wp2
      go_step3
      have hks2 : (k : Int) + 1 ≤ (s.size : Int) := by omega
      have hks3 : k + 1 ≤ s.size := by omega
      go_wp2
      go_quiet (fail)
      go_wp2
      go_quiet ((go_at_call 76; exact (HC.out _).mono fun e w1 ⟨h1, h2⟩ => ⟨h1, _, h2⟩))
      go_wp2
      rw [Exit.noGoto_ret]
      simp only [Exit.inBlock]
      simp +zetaDelta only [Exit.inBlock, Exit.then, Exit.noGoto_ret]
      go_ret
      exact ⟨rfl, below_drewN (Below.refl _ _) _⟩
    · have hksI : ¬ ((k : Int) < (s.size : Int)) := by omega
      go_wp2
      go_ret
      exact ⟨rfl, Below.refl _ _⟩

theorem indexRune_any (s : ByteArray) (hs : AllAscii s) (n : Nat) (h128 : 128 ≤ n) (w : World) :
    Calls Tryz.prog 208 #[.string s, .int .i32 n] w fun e w' => e = .returned (.int .i64 (-1)) ∧ Below w.heap.size w w' := by
  by_cases hne : n = 65533
  · subst hne; exact indexRune_err s hs w
  · cases hv : Lib.validRune (n : Int) with
    | false => exact indexRune_bad s n h128 hne hv w
    | true => exact indexRune_ok s hs n h128 hne hv w

/-- What a character of 128 and more takes has no ASCII byte in it. -/
theorem decode_bytes (s : ByteArray) (pos : Nat) (h : pos < s.size) (ha : 128 ≤ (s[pos]'h).toNat) (j : Nat) (hj : j < (Utf8.decode s pos).2) : ∀ b, s.data.toList[pos + j]? = some b → 128 ≤ b.toNat := by
  intro b hb
  have hlt : pos + j < s.size := by
    have := (List.getElem?_eq_some_iff.1 hb).1
    simpa using this
  have e : (s.get! (pos + j)) = b := by
    have h1 : s.get! (pos + j) = s[pos + j]'hlt := get_at s (pos + j) hlt
    rw [h1]
    have h2 := Lib.data_getElem? s (pos + j) hlt
    rw [h2] at hb
    exact Option.some.inj hb
  rw [← e]
  have g0 : s.get! (pos + 0) = s[pos]'h := get_at s pos h
  have hn : ¬ (s[pos]'h).toNat < 128 := by omega
  have hj4 : j < 4 := by
    revert hj
    simp only [Utf8.decode]
    repeat' split
    all_goals (intro hj; simp only at hj; omega)
  revert hj
  simp only [Utf8.decode, g0, hn, if_false]
  rcases (by omega : j = 0 ∨ j = 1 ∨ j = 2 ∨ j = 3) with rfl | rfl | rfl | rfl
  · intro _; rw [g0]; exact ha
  all_goals
    repeat' split
    all_goals (intro hj; simp_all <;> omega)

theorem decode_fit (s : ByteArray) (i : Nat) (h : i < s.size) : i + (Utf8.decode s i).2 ≤ s.size := by
  simp only [Utf8.decode]
  repeat' split
  all_goals (simp_all <;> omega)
theorem NoAny.more {s chars : List UInt8} {i n : Nat} (h : NoAny s chars i) (hn : ∀ j, j < n → ∀ b, s[i + j]? = some b → chars.contains b = false) : NoAny s chars (i + n) := fun j b hj hb => by
  by_cases e : j < i
  · exact h j b e hb
  · obtain ⟨k, rfl⟩ : ∃ k, j = i + k := ⟨j - i, by omega⟩
    exact hn k (by omega) b hb

set_option maxRecDepth 100000 in
set_option maxHeartbeats 800000 in
theorem indexAny_short (s chars : ByteArray) (w : World) (h2 : 2 ≤ chars.size) (h8 : s.size ≤ 8) (hch : AllAscii chars) :
    Calls Tryz.prog 187 #[.string s, .string chars] w fun e w' => e = .returned (.int .i64 (Lib.indexAny (bl s) (bl chars))) ∧ Below w.heap.size w w' := by
  have hemp : chars.toList.isEmpty = false := by
    rw [Lib.toList_data]
    cases h : chars.data.toList with
    | nil => have := Lib.size_eq chars; rw [h, List.length_nil] at this; omega
    | cons _ _ => rfl
  have hn1 : ((chars.size : Int) == 1) = false := beq_eq_false_iff_ne.2 (by omega)
  have h8z : decide ((8 : Int) < (s.size : Int)) = false := decide_eq_false (by omega)
  have HA := Lib.hid hch
  clear hch
  go_enter Tryz.func187, Tryz.ntmps187
  go_wp2_with (go_at_call 209; refine (Tryz.strings_shouldUseASCIISet _ _).mono ?_; rintro e w' ⟨rfl, hw⟩; rw [hw, h8z]; clear hw)
  go_loopw [9, 10] (fun _ _ wx => ∃ i : Nat, i ≤ s.size ∧ wx.heap[w.heap.size]? = some (.stringIter s i) ∧ Below w.heap.size w wx ∧ Hid (NoAny (bl s) (bl chars) i)) (fun _ _ wx => s.size - wx.iterPos w.heap.size)
  case atStart => exact ⟨0, Nat.zero_le _, heap_alloc_new w _, (Below.refl _ _).alloc (Nat.le_refl _) _, Lib.hid (NoAny.zero _ _)⟩
  case round =>
    obtain ⟨i, his, hk, hb, HN⟩ := hrel
    have hpos : wr.iterPos w.heap.size = i := by simp only [World.iterPos, hk]
    have hlt : w.heap.size < wr.heap.size := (Array.getElem?_eq_some_iff.1 hk).1
    by_cases hi : i < s.size
    · obtain ⟨x, hx⟩ : ∃ x : UInt8, s[i]'hi = x := ⟨_, rfl⟩
      have hxl : (bl s)[i]? = some x := by rw [← hx]; exact Lib.data_getElem? s i hi
      by_cases hx128 : x.toNat < 128
      · have hnx := fun ty => run_next_ascii_at (P := Tryz.prog) wr w.heap.size s i ty hk hi (by rw [hx]; exact hx128)
        rw [hx] at hnx
        have hk' := iterAt_heap wr w.heap.size s i (i + 1) hk
        have hb' := below_iterAt hb (Nat.le_refl _) s (i + 1)
        obtain ⟨wi, hwi⟩ : ∃ wi, wr.iterAt w.heap.size s (i + 1) = wi := ⟨_, rfl⟩
        rw [hwi] at hnx hk' hb'
        have hcon := Lib.contains_iff_indexByte chars.data.toList x
        have hback : ((x.toNat : Int)).toNat.toUInt8 = x := by simp
        have HX := Lib.hid hxl
        have HP := Lib.hid hpos
        clear hk hb hxl hx hwi hlt hpos
        cases hin : chars.data.toList.contains x with
        | false =>
          rw [hin] at hcon
          have hneg : ¬ ((0 : Int) ≤ Lib.indexByte chars.data.toList x) := of_decide_eq_false hcon.symm
          clear hcon
          go_wp2_with (go_at_call 208; refine (Tryz.strings_IndexRune_ascii _ _ _ (by omega) (by omega)).mono ?_; rintro e w' ⟨rfl, hw⟩; rw [hw, hback]; clear hw)
          have hp2 : wi.iterPos w.heap.size = i + 1 := by simp only [World.iterPos, hk']
          exact ⟨⟨i + 1, by omega, hk', hb', Lib.hid (HN.out.succ HX.out hin)⟩, by rw [hp2, HP.out]; omega⟩
        | true =>
          rw [hin] at hcon
          have hge : (0 : Int) ≤ Lib.indexByte chars.data.toList x := of_decide_eq_true hcon.symm
          clear hcon
          go_wp2_with (go_at_call 208; refine (Tryz.strings_IndexRune_ascii _ _ _ (by omega) (by omega)).mono ?_; rintro e w' ⟨rfl, hw⟩; rw [hw, hback]; clear hw)
          go_ret
          exact ⟨by rw [show Lib.indexAny (bl s) (bl chars) = (i : Int) from Lib.indexAny_hit HN.out HX.out hin]; rfl, hb'⟩
      · have hhi : 128 ≤ (s[i]'hi).toNat := by rw [hx]; omega
        obtain ⟨hd1, hd2⟩ := decode_high s i hi hhi
        have hnx := fun ty => run_next_any_at (P := Tryz.prog) wr w.heap.size s i ty hk hi
        have hby := decode_bytes s i hi hhi
        obtain ⟨r, n, hrn⟩ : ∃ r n, Utf8.decode s i = (r, n) := ⟨_, _, rfl⟩
        have hdl := decode_le s i
        have hfit := decode_fit s i hi
        rw [hrn] at hfit hnx hd1 hd2 hby hdl
        simp only at hfit hnx hd1 hd2 hby hdl
        have hk' := iterAt_heap wr w.heap.size s i (i + n) hk
        have hb' := below_iterAt hb (Nat.le_refl _) s (i + n)
        have hlt' : w.heap.size < (wr.iterAt w.heap.size s (i + n)).heap.size := by rw [iterAt_size]; exact hlt
        obtain ⟨wi, hwi⟩ : ∃ wi, wr.iterAt w.heap.size s (i + n) = wi := ⟨_, rfl⟩
        rw [hwi] at hnx hk' hb' hlt'
        have HR := Lib.hid (indexRune_any chars HA.out r hd1)
        have HP := Lib.hid hpos
        have HNN : Hid (NoAny (bl s) (bl chars) (i + n)) := Lib.hid (NoAny.more HN.out fun j hj b hb => by
          have h128 := hby j hj b hb
          cases hc : (bl chars).contains b with
          | false => rfl
          | true =>
            obtain ⟨k, hk⟩ := List.mem_iff_getElem?.1 (List.contains_iff_mem.1 hc)
            have := HA.out k b hk
            omega)
        clear hk hb hxl hx hwi hlt hpos hrn hby hx128 hhi
        go_wp2_with (go_at_call 208; refine (HR.out _).mono ?_; rintro e w2 ⟨rfl, hw⟩)
        have hk2 : w2.heap[w.heap.size]? = some (.stringIter s (i + n)) := by rw [hw.block _ hlt']; exact hk'
        have hp2 : w2.iterPos w.heap.size = i + n := by simp only [World.iterPos, hk2]
        exact ⟨⟨i + n, by omega, hk2, hb'.trans (hw.mono hb'.size), HNN⟩, by rw [hp2, HP.out]; omega⟩
    · obtain rfl : i = s.size := by omega
      have hnx := fun ty => run_next_end_at (P := Tryz.prog) wr w.heap.size s s.size ty hk (by omega)
      go_wp2
      go_ret
      exact ⟨by rw [show Lib.indexAny (bl s) (bl chars) = -1 from Lib.indexAny_none (by rw [bl_length]; exact HN.out)]; rfl, hb⟩

/-- IndexAny at whatever text. -/
theorem indexAny_any (s chars : ByteArray) (w : World) (h2 : 2 ≤ chars.size) (hs : s.size < 4294967281) (hcs : chars.size < 4294967281) (hch : AllAscii chars) :
    Calls Tryz.prog 187 #[.string s, .string chars] w fun e w' => e = .returned (.int .i64 (Lib.indexAny (bl s) (bl chars))) ∧ Below w.heap.size w w' := by
  by_cases h8 : s.size ≤ 8
  · exact indexAny_short s chars w h2 h8 hch
  · have h116 : (Tryz.prog.info? (Tryz.lays153_ren.t 116)).map (fun i => (i.zero, i.size)) = some (some (.agg (Array.replicate 256 (.bool false))), 256) := by kernel_rfl
    refine (Any.strings_IndexAny_long Tryz.lays153 (zero_of_info h116).1 (zero_of_info h116).2 s chars w h2 (by omega) hs hcs hch).mono fun e w' ⟨h1, h2⟩ => ⟨h1, ?_⟩
    rw [h2]
    exact ((Below.refl _ _).alloc (Nat.le_refl _) _).alloc (by simp) _
set_option maxRecDepth 100000 in
set_option maxHeartbeats 400000 in
theorem containsAny_any (s chars : ByteArray) (w : World) (h2 : 2 ≤ chars.size) (hs : s.size < 4294967281) (hcs : chars.size < 4294967281) (hch : AllAscii chars) :
    Calls Tryz.prog 212 #[.string s, .string chars] w fun e w' => e = .returned (.bool (Lib.containsAny (bl s) (bl chars))) ∧ Below w.heap.size w w' := by
  have HC := Lib.hid (indexAny_any s chars w h2 hs hcs hch)
  go_enter Tryz.func212, Tryz.ntmps212
  go_wp2_with (go_at_call 187; refine HC.out.mono ?_; rintro e w2 ⟨rfl, hw⟩)
  go_ret
  exact ⟨rfl, hw⟩
theorem trimLeft_any (s chars : ByteArray) (w : World) (hcs : chars.size < 4294967281) (hch : AllAscii chars) :
    Calls Tryz.prog 155 #[.string s, .string chars] w fun e w' => e = .returned (.string ⟨(Lib.trimLeftS (bl s) (bl chars)).toArray⟩) ∧ Below w.heap.size w w' :=
  Any.strings_TrimLeft_laid Tryz.lays161 (by kernel_rfl) s chars w hcs hch
theorem trim_any (s chars : ByteArray) (w : World) (hs : s.size ≤ 9223372036854775807) (hcs : chars.size < 4294967281) (hch : AllAscii chars) :
    Calls Tryz.prog 143 #[.string s, .string chars] w fun e w' => e = .returned (.string ⟨(Lib.trimS (bl s) (bl chars)).toArray⟩) ∧ Below w.heap.size w w' :=
  Any.strings_Trim_laid Tryz.lays160 (by kernel_rfl) s chars w hs hcs hch
end Go.Proofs.YtnfkndaggcklkaaGreatDoor

namespace Go.Proofs.YtnfkndaggcklkaaGreatDoor
open Go.RowKit Go.RunKit Go.CharrefKit Go.Lib Go.TokenKit

set_option maxRecDepth 100000 in
set_option maxHeartbeats 1000000 in
theorem tisLetter_any (b : Nat) (hb : b < 256) (w : World) :
    Calls Tryz.prog 106 #[.int .u8 (b : Nat)] w fun e w' => e = .returned (.bool (isLet b)) ∧ w = w' := by
  by_cases h1 : (97 : Int) ≤ b <;> by_cases h2 : (b : Int) ≤ 122 <;> by_cases h3 : (65 : Int) ≤ b <;> by_cases h4 : (b : Int) ≤ 90
  all_goals (try (exfalso; omega))
  all_goals
    go_enter Tryz.func106, Tryz.ntmps106
    go_wp2
    go_ret
    refine ⟨ret1_eq (congrArg Value.bool ?_), rfl⟩
    unfold isLet
    try simp
    try omega
set_option maxRecDepth 100000 in
set_option maxHeartbeats 1000000 in
theorem tisDigit_any (b : Nat) (hb : b < 256) (w : World) :
    Calls Tryz.prog 188 #[.int .u8 (b : Nat)] w fun e w' => e = .returned (.bool (isNum b)) ∧ w = w' := by
  by_cases h1 : (48 : Int) ≤ b <;> by_cases h2 : (b : Int) ≤ 57
  all_goals (try (exfalso; omega))
  all_goals
    go_enter Tryz.func188, Tryz.ntmps188
    go_wp2
    go_ret
    refine ⟨ret1_eq (congrArg Value.bool ?_), rfl⟩
    unfold isNum
    try simp
    try omega
theorem u8eq {b : UInt8} {k : Nat} (hk : k < 256) : (b == UInt8.ofNat k) = ((b.toNat : Int) == (k : Int)) := by
  rw [Bool.eq_iff_iff, beq_iff_eq, beq_iff_eq]
  constructor
  · rintro rfl; rw [UInt8.toNat_ofNat']; omega
  · intro h; apply UInt8.toNat_inj.1; rw [UInt8.toNat_ofNat']; omega
theorem mark_at (s : ByteArray) (h : 1 < s.size) : markL (bl s) = ((((s[0]'(by omega)).toNat : Int) == 60) && (isLet (s[1]'h).toNat || (((s[1]'h).toNat : Int) == 47) || (((s[1]'h).toNat : Int) == 33) || (((s[1]'h).toNat : Int) == 63))) := by
  have h0 : (bl s)[0]? = some (s[0]'(by omega)) := Lib.data_getElem? s 0 (by omega)
  have h1 : (bl s)[1]? = some (s[1]'h) := Lib.data_getElem? s 1 h
  cases hl : bl s with
  | nil => rw [hl] at h0; cases h0
  | cons a t =>
    rw [hl] at h0 h1
    cases t with
    | nil => cases h1
    | cons c u =>
      simp only [List.getElem?_cons_zero, List.getElem?_cons_succ, Option.some.injEq] at h0 h1
      rw [← h0, ← h1]
      show (a == UInt8.ofNat 60 && (isL c || c == UInt8.ofNat 47 || c == UInt8.ofNat 33 || c == UInt8.ofNat 63)) = _
      rw [u8eq (by decide), u8eq (by decide), u8eq (by decide), u8eq (by decide)]
      rfl
theorem mark_short (s : ByteArray) (h : ¬ 1 < s.size) : markL (bl s) = false := by
  have hl := bl_length s
  match hb : bl s with
  | [] => rfl
  | [_] => rfl
  | _ :: _ :: _ => rw [hb] at hl; simp at hl; omega
set_option maxRecDepth 100000 in
set_option maxHeartbeats 1000000 in
theorem isMark_any (s : ByteArray) (w : World) :
    Calls Tryz.prog 104 #[.string s] w fun e w' => e = .returned (.bool (markL (bl s))) ∧ w = w' := by
  by_cases h : 1 < s.size
  · have hI : (1 : Int) < s.size := by omega
    have h0 : 0 < s.size := by omega
    rw [mark_at s h]
    obtain ⟨x, hx⟩ : ∃ x, s[0]'h0 = x := ⟨_, rfl⟩
    obtain ⟨y, hy⟩ : ∃ y, s[1]'h = y := ⟨_, rfl⟩
    rw [hx, hy]
    have HL := Lib.hid (tisLetter_any y.toNat y.toNat_lt)
    obtain ⟨z, hz⟩ : ∃ z, isLet y.toNat = z := ⟨_, rfl⟩
    rw [hz] at HL
    rw [hz]
    clear hz
    go_enter Tryz.func104, Tryz.ntmps104
    go_big_wp2_with (go_at_call 106; refine (HL.out _).mono ?_; rintro e w1 ⟨rfl, rfl⟩)
    all_goals (go_ret; refine ⟨ret1_eq (congrArg Value.bool ?_), rfl⟩; simp_all)
  · have hI : ¬ (1 : Int) < s.size := by omega
    rw [mark_short s h]
    go_enter Tryz.func104, Tryz.ntmps104
    go_wp2
    go_ret
    exact ⟨rfl, rfl⟩
end Go.Proofs.YtnfkndaggcklkaaGreatDoor

namespace Go.Proofs.YtnfkndaggcklkaaGreatDoor
open Go.RowKit Go.RunKit Go.CharrefKit Go.Lib Go.TokenKit

/-- A row of bytes that may be written, in a block. -/
structure BR (w : World) (g : Nat) (l : List UInt8) : Prop where
  ex : ∃ cur fr, w.heap[g]? = some (.cells cur 5 fr) ∧ cur.toList.take l.length = byteCells l ∧ l.length ≤ fr.1
theorem BR.at_ {w : World} {g : Nat} {l : List UInt8} (h : BR w g l) (j : Nat) (hj : j < l.length) : w.cell? ⟨g, j, none⟩ = some (.int .u8 (l[j].toNat : Int)) := by
  obtain ⟨cur, fr, hg, ht, _⟩ := h.ex
  have e : cur[j]? = (byteCells l)[j]? := by
    rw [← ht, List.getElem?_take, if_pos hj]; simp
  simp only [World.cell?, hg]
  simp [e, byteCells, hj]
theorem BR.frozen {w : World} {g : Nat} {l : List UInt8} (h : BR w g l) (j : Nat) (hj : j < l.length) : w.frozen? ⟨g, j, none⟩ = false := by
  obtain ⟨cur, ⟨lo, hi⟩, hg, _, hf⟩ := h.ex
  simp only [World.frozen?, hg]
  simp only at hf
  simp; omega
theorem BR.set {w : World} {g : Nat} {l : List UInt8} (h : BR w g l) (j : Nat) (b : UInt8) : BR (w.setCell ⟨g, j, none⟩ (.int .u8 (b.toNat : Int))) g (l.set j b) := by
  obtain ⟨cur, fr, hg, ht, hf⟩ := h.ex
  refine ⟨cur.setIfInBounds j (.int .u8 (b.toNat : Int)), fr, ?_, ?_, by simpa using hf⟩
  · have hlt : g < w.heap.size := (Array.getElem?_eq_some_iff.1 hg).1
    have hv : w.heap[g] = .cells cur 5 fr := (Array.getElem?_eq_some_iff.1 hg).2
    simp only [World.setCell]
    rw [Array.getElem?_eq_getElem (by simpa using hlt), Array.getElem_modify]
    simp [hv]
  · rw [Array.toList_setIfInBounds, List.length_set, List.take_set, ht]
    simp [byteCells, List.map_set]
theorem bytes_made (s : ByteArray) (w : World) : ∃ cap W, (convert 9 42 (.string s)).run Tryz.prog w = .ok (.slice (some ⟨w.heap.size, 0, none⟩) s.size cap) W ∧ BR W w.heap.size (bl s) ∧ Below w.heap.size w W := by
  refine ⟨_, _, run_bytes_of_string w 9 42 5 s underString underBytes underByte, ⟨_, _, heap_alloc_new w.drew _, ?_, ?_⟩, (Below.refl _ _).drew.alloc (Nat.le_refl _) _⟩
  · simp [bytesRow, byteCells, bl]
  · simp [bytesRow, bl_length]
theorem BR.text {w : World} {g : Nat} {l : List UInt8} (h : BR w g l) (cap : Nat) : (convert 42 9 (.slice (some ⟨g, 0, none⟩) l.length cap)).run Tryz.prog w = .ok (.string ⟨l.toArray⟩) w :=
  run_convert_bytes_back w 42 9 5 ⟨g, 0, none⟩ cap l underBytes underByte underString (fun j hj => by rw [add_at]; exact h.at_ j hj)

theorem smallB_hit {b : UInt8} (h1 : 65 ≤ b.toNat) (h2 : b.toNat ≤ 90) : (smallB b).toNat = b.toNat + 32 := by
  unfold smallB
  rw [if_pos ⟨h1, h2⟩, UInt8.toNat_add]
  show (b.toNat + 32) % 256 = _
  omega
theorem smallB_miss {b : UInt8} (h : ¬ (65 ≤ b.toNat ∧ b.toNat ≤ 90)) : smallB b = b := by unfold smallB; rw [if_neg h]
/-- Small up to a place. -/
def smallTo (l : List UInt8) (i : Nat) : List UInt8 := smallL (l.take i) ++ l.drop i
theorem smallTo_len (l : List UInt8) (i : Nat) : (smallTo l i).length = l.length := by simp [smallTo, smallL]; omega
theorem smallTo_zero (l : List UInt8) : smallTo l 0 = l := by simp [smallTo, smallL]
theorem smallTo_all (l : List UInt8) : smallTo l l.length = smallL l := by simp [smallTo]
theorem smallTo_at {l : List UInt8} {i : Nat} {b : UInt8} (h : l[i]? = some b) : (smallTo l i)[i]? = some b := by
  have hi : i < l.length := (List.getElem?_eq_some_iff.1 h).1
  unfold smallTo
  rw [List.getElem?_append_right (by simp [smallL]; omega)]
  simp [smallL, Nat.min_eq_left (Nat.le_of_lt hi), h]
theorem smallTo_set {l : List UInt8} {i : Nat} {b : UInt8} (h : l[i]? = some b) : (smallTo l i).set i (smallB b) = smallTo l (i + 1) := by
  have hi : i < l.length := (List.getElem?_eq_some_iff.1 h).1
  have hb : l[i] = b := by rw [List.getElem?_eq_getElem hi] at h; exact Option.some.inj h
  have e1 : l.take (i + 1) = l.take i ++ [b] := by rw [List.take_succ_eq_append_getElem hi, hb]
  have e2 : l.drop i = b :: l.drop (i + 1) := by rw [List.drop_eq_getElem_cons hi, hb]
  have e3 : (smallL (l.take i)).length = i := by simp [smallL]; omega
  unfold smallTo
  rw [e1, e2, List.set_append_right _ _ (by omega), e3, Nat.sub_self]
  simp [smallL]
theorem smallTo_same {l : List UInt8} {i : Nat} {b : UInt8} (h : l[i]? = some b) (hb : smallB b = b) : smallTo l i = smallTo l (i + 1) := by
  have hi : i < l.length := (List.getElem?_eq_some_iff.1 h).1
  rw [← smallTo_set h, hb]
  symm
  have := smallTo_at h
  have h2 := (List.getElem?_eq_some_iff.1 this)
  obtain ⟨h3, h4⟩ := h2
  conv => lhs; rw [← h4]
  exact List.set_getElem_self h3

set_option maxRecDepth 100000 in
set_option maxHeartbeats 1000000 in
theorem small_any (s : ByteArray) (hsz : s.size ≤ 1099511627776) (w : World) :
    Calls Tryz.prog 111 #[.string s] w fun e w' => e = .returned (.string ⟨(smallL (bl s)).toArray⟩) ∧ Below w.heap.size w w' := by
  obtain ⟨cap, W, hcv, hrow, hbel⟩ := bytes_made s w
  have hlen := bl_length s
  go_enter Tryz.func111, Tryz.ntmps111
  go_wp2
  have HR := Lib.hid hrow
  clear hrow hcv
  go_loopw [10] (fun v wr => ∃ i : Nat, v = .int .i64 (i : Nat) ∧ i ≤ s.size ∧ Hid (BR wr w.heap.size (smallTo (bl s) i)) ∧ Hid (Below w.heap.size w wr)) (fun v _ => s.size - (RowKit.intOf v).toNat)
  case atStart => exact ⟨0, rfl, Nat.zero_le _, by rw [smallTo_zero]; exact HR, Lib.hid hbel⟩
  case round =>
    clear HR hbel
    obtain ⟨i, rfl, his, HR, HB⟩ := hrel
    by_cases hi : i < s.size
    · have hI : (i : Int) < s.size := by omega
      obtain ⟨x, hx⟩ : ∃ x : UInt8, s[i]'hi = x := ⟨_, rfl⟩
      have hxl : (bl s)[i]? = some x := by rw [← hx]; exact Lib.data_getElem? s i hi
      have hc : wr.cell? ⟨w.heap.size, i, none⟩ = some (.int .u8 (x.toNat : Int)) := by
        have hj : i < (smallTo (bl s) i).length := by rw [smallTo_len, hlen]; exact hi
        rw [HR.out.at_ i hj]
        have := smallTo_at hxl
        rw [List.getElem?_eq_getElem hj] at this
        rw [Option.some.inj this]
      have hfz : wr.frozen? ⟨w.heap.size, i, none⟩ = false := HR.out.frozen i (by rw [smallTo_len, hlen]; exact hi)
      have HX := Lib.hid hxl
      clear hxl hx
      have hx256 := x.toNat_lt
      by_cases hup : 65 ≤ x.toNat ∧ x.toNat ≤ 90
      · have h1 : (65 : Int) ≤ x.toNat := by omega
        have h2 : (x.toNat : Int) ≤ 90 := by omega
        have HS : Hid (BR (wr.setCell ⟨w.heap.size, i, none⟩ (.int .u8 ((smallB x).toNat : Int))) w.heap.size (smallTo (bl s) (i + 1))) := by
          have := HR.out.set i (smallB x)
          rw [smallTo_set HX.out] at this
          exact Lib.hid this
        rw [smallB_hit hup.1 hup.2] at HS
        clear hup
        go_wp2
        rw [show (x.toNat : Int) - 65 + 97 = ((x.toNat + 32 : Nat) : Int) by omega]
        exact ⟨⟨i + 1, rfl, by omega, HS, Lib.hid (HB.out.setCell (Nat.le_refl _) _)⟩, by simp [RowKit.intOf]; omega⟩
      · have hm := smallTo_same HX.out (smallB_miss hup)
        rw [hm] at HR
        have hor : ¬ ((65 : Int) ≤ x.toNat) ∨ ¬ ((x.toNat : Int) ≤ 90) := by omega
        clear hup hm
        rcases hor with h1 | h1
        · go_wp2
          exact ⟨⟨i + 1, rfl, by omega, HR, HB⟩, by simp [RowKit.intOf]; omega⟩
        · by_cases h0 : (65 : Int) ≤ x.toNat
          · go_wp2
            exact ⟨⟨i + 1, rfl, by omega, HR, HB⟩, by simp [RowKit.intOf]; omega⟩
          · go_wp2
            exact ⟨⟨i + 1, rfl, by omega, HR, HB⟩, by simp [RowKit.intOf]; omega⟩
    · obtain rfl : i = s.size := by omega
      have ht := HR.out.text cap
      rw [smallTo_len, hlen] at ht
      rw [show s.size = (bl s).length from hlen.symm, smallTo_all] at ht
      rw [hlen] at ht
      go_wp2
      go_ret
      exact ⟨rfl, HB.out⟩

/-- Are all bytes up to a place such as may be? -/
def okB (more : List UInt8) (b : UInt8) : Bool := isL b || isD b || more.contains b
theorem wordL_no {more l : List UInt8} {i : Nat} {b : UInt8} (h : l[i]? = some b) (hb : okB more b = false) : wordL more l = false := by
  unfold wordL
  rw [List.all_eq_false]
  exact ⟨b, List.mem_of_getElem? h, by change ¬ okB more b = true; simp [hb]⟩
theorem wordL_yes {more l : List UInt8} (h : ∀ j b, j < l.length → l[j]? = some b → okB more b = true) : wordL more l = true := by
  unfold wordL
  rw [List.all_eq_true]
  intro b hb
  obtain ⟨j, hj⟩ := List.mem_iff_getElem?.1 hb
  exact h j b (List.getElem?_eq_some_iff.1 hj).1 hj

set_option maxRecDepth 100000 in
set_option maxHeartbeats 2000000 in
theorem isWord_any (s more : ByteArray) (hsz : s.size ≤ 1099511627776) (w : World) :
    Calls Tryz.prog 163 #[.string s, .string more] w fun e w' => e = .returned (.bool (wordL (bl more) (bl s))) ∧ w = w' := by
  have hlen := bl_length s
  go_enter Tryz.func163, Tryz.ntmps163
  go_wp2
  go_loop [9] (fun v => ∃ i : Nat, v = .int .i64 (i : Nat) ∧ i ≤ s.size ∧ Hid (∀ j b, j < i → (bl s)[j]? = some b → okB (bl more) b = true)) (fun v => s.size - (RowKit.intOf v).toNat)
  case atStart => exact ⟨0, rfl, Nat.zero_le _, Lib.hid fun j b h => by omega⟩
  case round =>
    obtain ⟨i, rfl, his, HA⟩ := hrel
    by_cases hi : i < s.size
    · have hI : (i : Int) < s.size := by omega
      obtain ⟨x, hx⟩ : ∃ x : UInt8, s[i]'hi = x := ⟨_, rfl⟩
      have hxl : (bl s)[i]? = some x := by rw [← hx]; exact Lib.data_getElem? s i hi
      have HX := Lib.hid hxl
      clear hxl
      have HL := Lib.hid (tisLetter_any x.toNat x.toNat_lt)
      have HD := Lib.hid (tisDigit_any x.toNat x.toNat_lt)
      have HI : Hid (∀ W, Calls Tryz.prog 76 #[.string more, .int .u8 x.toNat] W fun e w'' => e = .returned (.int .i64 (Lib.indexByte more.data.toList x)) ∧ W = w'') :=
        Lib.hid fun W => (Tryz.strings_IndexByte more (x.toNat : Int) W).mono fun e w1 ⟨h1, h2⟩ => ⟨by rw [h1, show ((x.toNat : Int)).toNat.toUInt8 = x by simp], h2.symm⟩
      have hcon := Lib.contains_iff_indexByte more.data.toList x
      have hok : okB (bl more) x = (isLet x.toNat || isNum x.toNat || decide (0 ≤ Lib.indexByte more.data.toList x)) := by rw [← hcon]; rfl
      obtain ⟨z1, hz1⟩ : ∃ z, isLet x.toNat = z := ⟨_, rfl⟩
      obtain ⟨z2, hz2⟩ : ∃ z, isNum x.toNat = z := ⟨_, rfl⟩
      obtain ⟨z3, hz3⟩ : ∃ z, Lib.indexByte more.data.toList x = z := ⟨_, rfl⟩
      rw [hz1] at HL hok
      rw [hz2] at HD hok
      rw [hz3] at HI hok
      have HO := Lib.hid hok
      clear hz1 hz2 hz3 hcon hok
      go_big_wp2_with (first
        | (go_at_call 106; refine (HL.out _).mono ?_; rintro e w1 ⟨rfl, rfl⟩)
        | (go_at_call 188; refine (HD.out _).mono ?_; rintro e w1 ⟨rfl, rfl⟩)
        | (go_at_call 76; refine (HI.out _).mono ?_; rintro e w1 ⟨rfl, rfl⟩))
      all_goals first
        | (refine ⟨⟨i + 1, rfl, by omega, Lib.hid fun j b hj hb => ?_⟩, by simp [RowKit.intOf]; omega⟩
           by_cases e : j = i
           · subst e; rw [HX.out] at hb; cases hb; rw [HO.out]; simp_all
           · exact HA.out j b (by omega) hb)
        | (go_ret
           exact ⟨by rw [wordL_no HX.out (by rw [HO.out]; simp_all)]; rfl, rfl⟩)
    · obtain rfl : i = s.size := by omega
      go_wp2
      go_ret
      exact ⟨by rw [wordL_yes (fun j b hj hb => HA.out j b (by rw [← hlen]; exact hj) hb)]; rfl, rfl⟩
end Go.Proofs.YtnfkndaggcklkaaGreatDoor

namespace Go.TokenKit
open Go Go.Lib
theorem any_none {cs : List UInt8} : ∀ {l : List UInt8}, indexAny l cs = -1 → before cs l = l ∧ behind cs l = []
  | [], _ => ⟨rfl, rfl⟩
  | b :: r, h => by
    simp only [indexAny] at h
    split at h
    · cases h
    · rename_i hb
      have hb : cs.contains b = false := by simpa using hb
      have h2 : indexAny r cs = -1 := by
        have hg := indexAny_ge cs r
        split at h
        · rename_i e; simpa using e
        · omega
      obtain ⟨i1, i2⟩ := any_none h2
      unfold before at i1
      unfold behind at i2
      exact ⟨by unfold before; simp only [List.takeWhile, hb, Bool.not_false]; rw [i1], by unfold behind; simp only [List.dropWhile, hb, Bool.not_false]; exact i2⟩
theorem any_some {cs : List UInt8} : ∀ {l : List UInt8} {p : Nat}, indexAny l cs = (p : Int) → p < l.length ∧ before cs l = l.take p ∧ behind cs l = l.drop p
  | [], p, h => by simp only [indexAny] at h; omega
  | b :: r, p, h => by
    simp only [indexAny] at h
    split at h
    · rename_i hb
      obtain rfl : p = 0 := by omega
      exact ⟨by simp, by simp only [before, List.takeWhile, hb, Bool.not_true]; rfl, by simp only [behind, List.dropWhile, hb, Bool.not_true]; rfl⟩
    · rename_i hb
      have hb : cs.contains b = false := by simpa using hb
      have hg := indexAny_ge cs r
      split at h
      · omega
      · rename_i hne
        have hne : indexAny r cs ≠ -1 := by simpa using hne
        obtain ⟨q, rfl⟩ : ∃ q, p = q + 1 := ⟨p - 1, by omega⟩
        obtain ⟨i1, i2, i3⟩ := any_some (cs := cs) (l := r) (p := q) (by omega)
        unfold before at i2
        unfold behind at i3
        exact ⟨by simp; omega, by unfold before; simp only [List.takeWhile, hb, Bool.not_false, List.take_succ_cons]; rw [i2], by unfold behind; simp only [List.dropWhile, hb, Bool.not_false, List.drop_succ_cons]; exact i3⟩
end Go.TokenKit
namespace Go.Proofs.YtnfkndaggcklkaaGreatDoor
open Go.RowKit Go.RunKit Go.CharrefKit Go.Lib Go.TokenKit

abbrev TRd : TypeId := 110
/-- The reader's block: what it has not read yet. -/
def RB (w : World) (b : Nat) (cur : ByteArray) : Prop := w.heap[b]? = some (.cells #[.string cur] TRd (0, 0))
theorem RB.cell {w : World} {b : Nat} {cur : ByteArray} (h : RB w b cur) : w.cell? ⟨b, 0, none⟩ = some (.string cur) := by
  unfold RB at h; simp [World.cell?, h]
theorem RB.frozen {w : World} {b : Nat} {cur : ByteArray} (h : RB w b cur) : w.frozen? ⟨b, 0, none⟩ = false := frozen_of_row w b 0 _ _ h
theorem RB.lt {w : World} {b : Nat} {cur : ByteArray} (h : RB w b cur) : b < w.heap.size := (Array.getElem?_eq_some_iff.1 h).1
theorem RB.on {w w' : World} {b : Nat} {cur : ByteArray} (h : RB w b cur) (hb : Below w.heap.size w w') : RB w' b cur := (hb.block b h.lt).trans h
/-- All is as it was but for the reader and new blocks. -/
structure Moved (w : World) (b : Nat) (cur : ByteArray) (w' : World) : Prop where
  grown : w.grownBy w' (some b)
  rest : RB w' b cur
theorem grown_refl (w : World) (row : Option Nat) : w.grownBy w row := ⟨rfl, rfl, rfl, Nat.le_refl _, fun _ _ _ => rfl⟩
theorem Moved.refl {w : World} {b : Nat} {cur : ByteArray} (h : RB w b cur) : Moved w b cur w := ⟨grown_refl _ _, h⟩
theorem grown_below {w w' : World} (h : Below w.heap.size w w') (row : Option Nat) : w.grownBy w' row := ⟨h.os, h.tape, h.output, h.size, fun k hk _ => h.block k hk⟩
theorem grown_trans {a b c : World} {row : Option Nat} (h : a.grownBy b row) (k : b.grownBy c row) : a.grownBy c row :=
  ⟨k.os.trans h.os, k.tape.trans h.tape, k.output.trans h.output, Nat.le_trans h.size k.size, fun i hi hn => (k.block i (Nat.lt_of_lt_of_le hi h.size) hn).trans (h.block i hi hn)⟩
theorem Moved.trans {w w1 w2 : World} {b : Nat} {c1 c2 : ByteArray} (h : Moved w b c1 w1) (k : Moved w1 b c2 w2) : Moved w b c2 w2 := ⟨grown_trans h.grown k.grown, k.rest⟩
theorem Moved.on {w w1 w2 : World} {b : Nat} {c : ByteArray} (h : Moved w b c w1) (k : Below w1.heap.size w1 w2) : Moved w b c w2 := ⟨grown_trans h.grown (grown_below k _), h.rest.on k⟩
theorem Moved.from_ {w w1 w2 : World} {b : Nat} {c : ByteArray} (h : Below w.heap.size w w1) (k : Moved w1 b c w2) : Moved w b c w2 := ⟨grown_trans (grown_below h _) k.grown, k.rest⟩
theorem Moved.set {w : World} {b : Nat} {cur : ByteArray} (h : RB w b cur) (c : ByteArray) : Moved w b c (w.setCell ⟨b, 0, none⟩ (.string c)) := by
  refine ⟨⟨rfl, rfl, rfl, by simp [World.setCell], fun k _ hk => Below.heap_setCell _ _ _ _ (fun e => hk (by rw [e]))⟩, ?_⟩
  have := heap_setCell_same w b 0 _ _ (.string c) h
  simpa [RB] using this
theorem Moved.below {w0 w w' : World} {b : Nat} {c : ByteArray} (h : Moved w b c w') (hb : Below w0.heap.size w0 w) (hB : w0.heap.size ≤ b) : Below w0.heap.size w0 w' :=
  hb.grown h.grown hb.size (fun k hk => by cases hk; exact hB)
/-- The library's own variable of which only this is known: it holds a number. -/
structure Maxed (w : World) (b : Nat) : Prop where
  ex : ∃ m, w.cell? ⟨2, 0, none⟩ = some (.int .i64 m)
  lt : 2 < b
theorem Maxed.grown {w w' : World} {b : Nat} (h : Maxed w b) (hg : w.grownBy w' (some b)) : Maxed w' b := by
  obtain ⟨m, hm⟩ := h.ex
  exact ⟨⟨m, hg.cell hm (by have := h.lt; simp; omega)⟩, h.lt⟩
theorem Maxed.below {w w' : World} {b : Nat} (h : Maxed w b) (hb : Below w.heap.size w w') : Maxed w' b := h.grown (grown_below hb _)
theorem eq_mk {x : ByteArray} {l : List UInt8} (h : bl x = l) : x = ⟨l.toArray⟩ := by subst h; rfl

set_option maxRecDepth 100000 in
set_option maxHeartbeats 400000 in
theorem take_any (b : Nat) (cur : ByteArray) (n : Nat) (hn : n ≤ cur.size) (w : World) (h : RB w b cur) :
    Calls Tryz.prog 138 #[.pointer (some ⟨b, 0, none⟩), .int .i64 n] w fun e w' => e = .returned (.string (cur.extract 0 n)) ∧ Moved w b (cur.extract n cur.size) w' := by
  have hI : (n : Int) ≤ cur.size := by omega
  have hc := h.cell
  have hf := h.frozen
  have HM := Lib.hid (Moved.set h (cur.extract n cur.size))
  clear h
  go_enter Tryz.func138, Tryz.ntmps138
  go_big_wp2
  go_ret
  exact ⟨rfl, HM.out⟩
set_option maxRecDepth 100000 in
set_option maxHeartbeats 400000 in
theorem leave_any (b : Nat) (cur : ByteArray) (w : World) (h : RB w b cur) :
    Calls Tryz.prog 164 #[.pointer (some ⟨b, 0, none⟩)] w fun e w' => e = .returned (.tuple #[]) ∧ Moved w b ⟨(skipL (bl cur)).toArray⟩ w' := by
  have hc := h.cell
  have HT := Lib.hid (fun w => trimLeft_any cur ⟨#[9, 10, 12, 32]⟩ w (by decide) (ascii_of_all (by decide)))
  have HR := Lib.hid h
  clear h
  go_enter Tryz.func164, Tryz.ntmps164
  go_big_wp2_with (go_at_call 155; refine (HT.out _).mono ?_; rintro e w1 ⟨rfl, hb⟩; have hf := (HR.out.on hb).frozen; have hc1 := (HR.out.on hb).cell)
  go_end0
  exact ⟨rfl, (Moved.set (HR.out.on hb) _).from_ hb⟩
set_option maxRecDepth 100000 in
set_option maxHeartbeats 400000 in
theorem took_any (b : Nat) (cur sign : ByteArray) (w : World) (h : RB w b cur) :
    Calls Tryz.prog 165 #[.pointer (some ⟨b, 0, none⟩), .string sign] w fun e w' => e = .returned (.bool (Lib.hasPrefix (bl cur) (bl sign))) ∧ Moved w b ⟨(Lib.trimPrefix (bl cur) (bl sign)).toArray⟩ w' := by
  have hc := h.cell
  have hf := h.frozen
  have HM := Lib.hid (Moved.set h ⟨(Lib.trimPrefix (bl cur) (bl sign)).toArray⟩)
  have HT := Lib.hid (fun w => Tryz.strings_CutPrefix cur sign w)
  clear h
  go_enter Tryz.func165, Tryz.ntmps165
  go_big_wp2_with (go_at_call 189; refine (HT.out _).mono ?_; rintro e w1 ⟨rfl, rfl⟩)
  go_ret
  exact ⟨rfl, HM.out⟩
set_option maxRecDepth 100000 in
set_option maxHeartbeats 400000 in
theorem quoted_any (b : Nat) (cur q : ByteArray) (hsz : cur.size ≤ 4294967280) (w : World) (h : RB w b cur) (hm : Maxed w b) :
    Calls Tryz.prog 211 #[.pointer (some ⟨b, 0, none⟩), .string q] w fun e w' => e = .returned (.tuple #[.string ⟨(Lib.cut (bl cur) (bl q)).1.toArray⟩, .bool (Lib.cut (bl cur) (bl q)).2.2]) ∧ Moved w b ⟨(Lib.cut (bl cur) (bl q)).2.1.toArray⟩ w' := by
  obtain ⟨m, hmm⟩ := hm.ex
  have hc := h.cell
  have HR := Lib.hid h
  have HT := Lib.hid (Tryz.strings_Cut cur q m w (by omega) hmm)
  clear h hm
  go_enter Tryz.func211, Tryz.ntmps211
  go_big_wp2_with (go_at_call 141; refine HT.out.mono ?_; rintro e w1 ⟨rfl, n, rfl⟩; have hb := below_drewN (Below.refl w.heap.size w) n; have hf := (HR.out.on hb).frozen; have hc1 := (HR.out.on hb).cell)
  go_ret2
  exact ⟨rfl, (Moved.set (HR.out.on hb) _).from_ hb⟩
set_option maxRecDepth 100000 in
set_option maxHeartbeats 400000 in
theorem takeUpTo_any (b : Nat) (cur stops : ByteArray) (h2 : 2 ≤ stops.size) (hcs : stops.size < 4294967281) (hch : AllAscii stops) (hsz : cur.size ≤ 4294967280) (w : World) (h : RB w b cur) :
    Calls Tryz.prog 162 #[.pointer (some ⟨b, 0, none⟩), .string stops] w fun e w' => e = .returned (.string ⟨(before (bl stops) (bl cur)).toArray⟩) ∧ Moved w b ⟨(behind (bl stops) (bl cur)).toArray⟩ w' := by
  have hc := h.cell
  have HR := Lib.hid h
  have HT := Lib.hid (indexAny_any cur stops w h2 (by omega) hcs hch)
  clear h
  have hge := indexAny_ge (bl stops) (bl cur)
  by_cases hneg : Lib.indexAny (bl cur) (bl stops) = -1
  · obtain ⟨e1, e2⟩ := any_none hneg
    rw [hneg] at HT
    rw [e1, e2]
    have HK := Lib.hid (take_any b cur cur.size (Nat.le_refl _))
    clear e1 e2 hneg hge
    go_enter Tryz.func162, Tryz.ntmps162
    go_big_wp2_with (first
      | (go_at_call 187; refine HT.out.mono ?_; rintro e w1 ⟨rfl, hb⟩; have HR1 := Lib.hid (HR.out.on hb); have hc1 := HR1.out.cell)
      | (go_at_call 138; refine (HK.out _ HR1.out).mono ?_; rintro e w2 ⟨rfl, hm⟩))
    go_ret
    refine ⟨?_, ?_⟩
    · rfl
    · have := hm.from_ hb
      rwa [show cur.extract cur.size cur.size = ⟨([] : List UInt8).toArray⟩ from eq_mk (by rw [bl_drop, List.drop_of_length_le (by rw [bl_length]; exact Nat.le_refl _)])] at this
  · obtain ⟨p, hp⟩ : ∃ p : Nat, Lib.indexAny (bl cur) (bl stops) = (p : Int) := ⟨(Lib.indexAny (bl cur) (bl stops)).toNat, by omega⟩
    obtain ⟨e0, e1, e2⟩ := any_some hp
    rw [bl_length] at e0
    rw [hp] at HT
    rw [e1, e2]
    have HK := Lib.hid (take_any b cur p (Nat.le_of_lt e0))
    clear e1 e2 hneg hge hp
    go_enter Tryz.func162, Tryz.ntmps162
    go_big_wp2_with (first
      | (go_at_call 187; refine HT.out.mono ?_; rintro e w1 ⟨rfl, hb⟩; have HR1 := Lib.hid (HR.out.on hb); have hc1 := HR1.out.cell)
      | (go_at_call 138; refine (HK.out _ HR1.out).mono ?_; rintro e w2 ⟨rfl, hm⟩))
    go_ret
    refine ⟨?_, ?_⟩
    · rw [show cur.extract 0 p = ⟨((bl cur).take p).toArray⟩ from eq_mk (bl_take _ _)]; rfl
    · have := hm.from_ hb
      rwa [show cur.extract p cur.size = ⟨((bl cur).drop p).toArray⟩ from eq_mk (bl_drop _ _)] at this
end Go.Proofs.YtnfkndaggcklkaaGreatDoor

