/-
  strings.IndexAny and ContainsAny at some few ASCII bytes, whatever the text. Conditions: the bytes looked for are ASCII, two or more; the text is shorter than 2^32.
-/
import Derived.Test.YtfjphhmbnhglcaaGreatDoorCEnc
import Derived.Laws.RangeAny
import Derived.WalkMore
import Derived.Shelf.Strings.SlTrimAscii
namespace Go.Proofs.YtfjphhmbnhglcaaGreatDoor
open Go.RowKit Go.RunKit Go.CharrefKit Go.Lib

def AllAscii (s : ByteArray) : Prop := ∀ (j : Nat) b, s.data.toList[j]? = some b → b.toNat < 128
/-- A byte of 128 and more is none of them. -/
theorem ib_high {s : ByteArray} (h : AllAscii s) (j : Nat) {c : UInt8} (hc : 128 ≤ c.toNat) : Lib.indexByte (s.extract j s.size).data.toList c = -1 := by
  have e : (s.extract j s.size).data.toList = s.data.toList.drop j := bl_drop s j
  rw [e]
  cases hx : Lib.indexByte (s.data.toList.drop j) c == -1 with
  | true => simpa using hx
  | false =>
    have hx : Lib.indexByte (s.data.toList.drop j) c ≠ -1 := by simpa using hx
    have hg := Lib.indexByte_ge (s.data.toList.drop j) c
    obtain ⟨x, y, e2, _, _⟩ := ib_some (c := c) (l := s.data.toList.drop j) (p := (Lib.indexByte (s.data.toList.drop j) c).toNat) (by omega)
    have hm : c ∈ s.data.toList.drop j := by rw [e2]; simp
    obtain ⟨k, hk⟩ := List.mem_iff_getElem?.1 (List.mem_of_mem_drop hm)
    have := h k c hk
    omega
theorem encode_high {n : Nat} (h : 128 ≤ n) : ∃ rs : ByteArray, Utf8.encode ((n : Nat) : Int) = rs ∧ 2 ≤ rs.size ∧ rs.size ≤ 4 ∧ ∀ (j : Nat) (hj : j < rs.size), 128 ≤ (rs[j]'hj).toNat := by
  refine ⟨_, rfl, ?_⟩
  have hall : ∀ c : Nat, 128 ≤ c → c ≤ 1114111 → ∀ r : ByteArray, r = (if c < 0x80 then ⟨#[UInt8.ofNat c]⟩
      else if c < 0x800 then ⟨#[UInt8.ofNat (0xC0 + c / 64), UInt8.ofNat (0x80 + c % 64)]⟩
      else if c < 0x10000 then ⟨#[UInt8.ofNat (0xE0 + c / 4096), UInt8.ofNat (0x80 + c / 64 % 64), UInt8.ofNat (0x80 + c % 64)]⟩
      else ⟨#[UInt8.ofNat (0xF0 + c / 262144), UInt8.ofNat (0x80 + c / 4096 % 64), UInt8.ofNat (0x80 + c / 64 % 64), UInt8.ofNat (0x80 + c % 64)]⟩) →
      2 ≤ r.size ∧ r.size ≤ 4 ∧ ∀ (j : Nat) (hj : j < r.size), 128 ≤ (r[j]'hj).toNat := by
    intro c h1 h2 r hr
    rw [if_neg (by omega)] at hr
    have key : ∀ m : Nat, 128 ≤ m → m < 256 → 128 ≤ (UInt8.ofNat m).toNat := fun m h1 h2 => by
      rw [UInt8.toNat_ofNat']; omega
    split at hr
    · subst hr
      refine ⟨Nat.le_refl 2, (by decide : 2 ≤ 4), fun j hj => ?_⟩
      have hj : j < 2 := hj
      rcases (by omega : j = 0 ∨ j = 1) with rfl | rfl
      · exact key _ (by omega) (by omega)
      · exact key _ (by omega) (by omega)
    · split at hr
      · subst hr
        refine ⟨(by decide : 2 ≤ 3), (by decide : 3 ≤ 4), fun j hj => ?_⟩
        have hj : j < 3 := hj
        rcases (by omega : j = 0 ∨ j = 1 ∨ j = 2) with rfl | rfl | rfl
        · exact key _ (by omega) (by omega)
        · exact key _ (by omega) (by omega)
        · exact key _ (by omega) (by omega)
      · subst hr
        refine ⟨(by decide : 2 ≤ 4), Nat.le_refl 4, fun j hj => ?_⟩
        have hj : j < 4 := hj
        rcases (by omega : j = 0 ∨ j = 1 ∨ j = 2 ∨ j = 3) with rfl | rfl | rfl | rfl
        · exact key _ (by omega) (by omega)
        · exact key _ (by omega) (by omega)
        · exact key _ (by omega) (by omega)
        · exact key _ (by omega) (by omega)
  unfold Utf8.encode
  simp only
  by_cases hv : Utf8.valid (n : Int) = true
  · rw [if_pos hv, Int.toNat_natCast]
    have hle : n ≤ 1114111 := by
      simp only [Utf8.valid, Bool.or_eq_true, Bool.and_eq_true, decide_eq_true_eq] at hv
      omega
    exact hall n h hle _ rfl
  · rw [if_neg hv]
    exact hall Utf8.runeError (by decide) (by decide) _ rfl

set_option maxRecDepth 100000 in
set_option maxHeartbeats 400000 in
theorem indexRune_err (s : ByteArray) (hs : AllAscii s) (w : World) :
    Calls Tryz.prog 191 #[.string s, .int .i32 65533] w fun e w' => e = .returned (.int .i64 (-1)) ∧ Below w.heap.size w w' := by
  have hA := Lib.hid hs
  clear hs
  go_enter Tryz.func191, Tryz.ntmps191
  go_wp2
  go_loopg [5] s.size (fun g _ wx => ∃ i : Nat, i + g = s.size ∧ wx = w.iter s i)
  case atStart => exact ⟨0, by omega, rfl⟩
  case round =>
    obtain ⟨i, hig, rfl⟩ := hrel
    cases gk with
    | zero =>
      obtain rfl : i = s.size := by omega
      have hnx := run_next_end (P := Tryz.prog) w s s.size
      go_wp2
      go_ret
      exact ⟨rfl, (Below.refl _ _).alloc (Nat.le_refl _) _⟩
    | succ g =>
      have hi : i < s.size := by omega
      obtain ⟨x, hx⟩ : ∃ x : UInt8, s[i]'hi = x := ⟨_, rfl⟩
      have hxl : s.data.toList[i]? = some x := by rw [← hx]; exact Lib.data_getElem? s i hi
      have hx128 : x.toNat < 128 := hA.out i x hxl
      have hnx := fun ty => run_next_ascii (P := Tryz.prog) w s i ty hi (by rw [hx]; exact hx128)
      rw [hx] at hnx
      clear hxl hx
      have hne : ¬ ((x.toNat : Int) = 65533) := by omega
      have hne2 : ((x.toNat : Int) == 65533) = false := beq_eq_false_iff_ne.2 hne
      go_wp2
      go_roundg g
      case measure => omega
      case rel => exact ⟨i + 1, by omega, rfl⟩

set_option maxRecDepth 100000 in
set_option maxHeartbeats 400000 in
theorem indexRune_bad (s : ByteArray) (n : Nat) (h128 : 128 ≤ n) (hne : n ≠ 65533) (hv : Lib.validRune (n : Int) = false) (w : World) :
    Calls Tryz.prog 191 #[.string s, .int .i32 n] w fun e w' => e = .returned (.int .i64 (-1)) ∧ Below w.heap.size w w' := by
  have hge : ¬ ((n : Int) < 128) := by omega
  have hn1 : ¬ ((n : Int) = 65533) := by omega
  have hn2 : ((n : Int) == 65533) = false := beq_eq_false_iff_ne.2 hn1
  go_enter Tryz.func191, Tryz.ntmps191
  go_wp2_with (go_at_call 204; refine (Tryz.utf8_ValidRune _ _).mono ?_; rintro e w' ⟨rfl, rfl⟩)
  go_ret
  exact ⟨rfl, Below.refl _ _⟩
set_option maxRecDepth 100000 in
set_option maxHeartbeats 400000 in
theorem indexRune_ok (s : ByteArray) (hs : AllAscii s) (n : Nat) (h128 : 128 ≤ n) (hne : n ≠ 65533) (hv : Lib.validRune (n : Int) = true) (w : World) :
    Calls Tryz.prog 191 #[.string s, .int .i32 n] w fun e w' => e = .returned (.int .i64 (-1)) ∧ Below w.heap.size w w' := by
  have hge : ¬ ((n : Int) < 128) := by omega
  have hn1 : ¬ ((n : Int) = 65533) := by omega
  have hn2 : ((n : Int) == 65533) = false := beq_eq_false_iff_ne.2 hn1
  go_enter Tryz.func191, Tryz.ntmps191
  go_wp2_with (go_at_call 204; refine (Tryz.utf8_ValidRune _ _).mono ?_; rintro e w' ⟨rfl, rfl⟩)
  go_step3
  go_wp2
  obtain ⟨rs, hrs, h2, h4, hb⟩ := encode_high h128
  rw [hrs]
  obtain ⟨k, hk⟩ : ∃ k, rs.size = k + 1 := ⟨rs.size - 1, by omega⟩
  have hw1 : wrap64 ((rs.size : Int) - 1) = (k : Int) := by rw [hk]; simp [wrap64]; omega
  rw [hw1]
  have hkr : k < rs.size := by omega
  obtain ⟨c, hc⟩ : ∃ c : UInt8, rs[k]'hkr = c := ⟨_, rfl⟩
  have hc128 : 128 ≤ c.toNat := by rw [← hc]; exact hb k hkr
  have hib := ib_high hs (k + 1) hc128
  have HC : Hid (∀ W, Calls Tryz.prog 38 #[.string (s.extract (k + 1) s.size), .int .u8 c.toNat] W fun e w'' => e = .returned (.int .i64 (-1)) ∧ w'' = W) :=
    Lib.hid fun W => (Tryz.strings_IndexByte (s.extract (k + 1) s.size) (c.toNat : Int) W).mono fun e w1 ⟨h1, h2⟩ => ⟨by rw [h1, show ((c.toNat : Int)).toNat.toUInt8 = c by simp, hib], h2⟩
  clear hib
  have HA := Lib.hid hs
  clear hrs hw1 hb hs
  go_loop [9] (fun v => v = .int .i64 (k : Int)) (fun _ => 0)
  case atStart => rfl
  case round =>
    subst hrel
    by_cases hks : k < s.size
    · have hksI : (k : Int) < (s.size : Int) := by omega
      obtain ⟨x, hx⟩ : ∃ x : UInt8, s[k]'hks = x := ⟨_, rfl⟩
      have hx128 : x.toNat < 128 := HA.out k x (by rw [← hx]; exact Lib.data_getElem? s k hks)
      have hne3 : ¬ ((x.toNat : Int) = (c.toNat : Int)) := by omega
      have hne4 : ((x.toNat : Int) == (c.toNat : Int)) = false := beq_eq_false_iff_ne.2 hne3
      have hne5 : ((x.toNat : Int) != (c.toNat : Int)) = true := by simp [bne, hne4]
      go_wp2
      go_step3
      have hks2 : (k : Int) + 1 ≤ (s.size : Int) := by omega
      have hks3 : k + 1 ≤ s.size := by omega
      go_wp2
      go_quiet (fail)
      go_wp2
      go_quiet ((go_at_call 38; exact (HC.out _).mono fun e w1 ⟨h1, h2⟩ => ⟨h1, _, h2⟩))
      go_wp2
      rw [Exit.noGoto_ret]
      simp only [Exit.inBlock]
      simp +zetaDelta only [Exit.inBlock, Exit.then, Exit.noGoto_ret]
      go_ret
      exact ⟨rfl, below_drewN (Below.refl _ _) _⟩
    · have hksI : ¬ ((k : Int) < (s.size : Int)) := by omega
      go_wp2
      go_ret
      exact ⟨rfl, Below.refl _ _⟩

theorem indexRune_any (s : ByteArray) (hs : AllAscii s) (n : Nat) (h128 : 128 ≤ n) (w : World) :
    Calls Tryz.prog 191 #[.string s, .int .i32 n] w fun e w' => e = .returned (.int .i64 (-1)) ∧ Below w.heap.size w w' := by
  by_cases hne : n = 65533
  · subst hne; exact indexRune_err s hs w
  · cases hv : Lib.validRune (n : Int) with
    | false => exact indexRune_bad s n h128 hne hv w
    | true => exact indexRune_ok s hs n h128 hne hv w

/-- What a character of 128 and more takes has no ASCII byte in it. -/
theorem decode_bytes (s : ByteArray) (pos : Nat) (h : pos < s.size) (ha : 128 ≤ (s[pos]'h).toNat) (j : Nat) (hj : j < (Utf8.decode s pos).2) : ∀ b, s.data.toList[pos + j]? = some b → 128 ≤ b.toNat := by
  intro b hb
  have hlt : pos + j < s.size := by
    have := (List.getElem?_eq_some_iff.1 hb).1
    simpa using this
  have e : (s.get! (pos + j)) = b := by
    have h1 : s.get! (pos + j) = s[pos + j]'hlt := get_at s (pos + j) hlt
    rw [h1]
    have h2 := Lib.data_getElem? s (pos + j) hlt
    rw [h2] at hb
    exact Option.some.inj hb
  rw [← e]
  have g0 : s.get! (pos + 0) = s[pos]'h := get_at s pos h
  have hn : ¬ (s[pos]'h).toNat < 128 := by omega
  have hj4 : j < 4 := by
    revert hj
    simp only [Utf8.decode]
    repeat' split
    all_goals (intro hj; simp only at hj; omega)
  revert hj
  simp only [Utf8.decode, g0, hn, if_false]
  rcases (by omega : j = 0 ∨ j = 1 ∨ j = 2 ∨ j = 3) with rfl | rfl | rfl | rfl
  · intro _; rw [g0]; exact ha
  all_goals
    repeat' split
    all_goals (intro hj; simp_all <;> omega)

theorem decode_fit (s : ByteArray) (i : Nat) (h : i < s.size) : i + (Utf8.decode s i).2 ≤ s.size := by
  simp only [Utf8.decode]
  repeat' split
  all_goals (simp_all <;> omega)
theorem NoAny.more {s chars : List UInt8} {i n : Nat} (h : NoAny s chars i) (hn : ∀ j, j < n → ∀ b, s[i + j]? = some b → chars.contains b = false) : NoAny s chars (i + n) := fun j b hj hb => by
  by_cases e : j < i
  · exact h j b e hb
  · obtain ⟨k, rfl⟩ : ∃ k, j = i + k := ⟨j - i, by omega⟩
    exact hn k (by omega) b hb

set_option maxRecDepth 100000 in
set_option maxHeartbeats 800000 in
theorem indexAny_short (s chars : ByteArray) (w : World) (h2 : 2 ≤ chars.size) (h8 : s.size ≤ 8) (hch : AllAscii chars) :
    Calls Tryz.prog 167 #[.string s, .string chars] w fun e w' => e = .returned (.int .i64 (Lib.indexAny (bl s) (bl chars))) ∧ Below w.heap.size w w' := by
  have hemp : chars.toList.isEmpty = false := by
    rw [Lib.toList_data]
    cases h : chars.data.toList with
    | nil => have := Lib.size_eq chars; rw [h, List.length_nil] at this; omega
    | cons _ _ => rfl
  have hn1 : ((chars.size : Int) == 1) = false := beq_eq_false_iff_ne.2 (by omega)
  have h8z : decide ((8 : Int) < (s.size : Int)) = false := decide_eq_false (by omega)
  have HA := Lib.hid hch
  clear hch
  go_enter Tryz.func167, Tryz.ntmps167
  go_wp2_with (go_at_call 192; refine (Tryz.strings_shouldUseASCIISet _ _).mono ?_; rintro e w' ⟨rfl, hw⟩; rw [hw, h8z]; clear hw)
  go_loopw [9, 10] (fun _ _ wx => ∃ i : Nat, i ≤ s.size ∧ wx.heap[w.heap.size]? = some (.stringIter s i) ∧ Below w.heap.size w wx ∧ Hid (NoAny (bl s) (bl chars) i)) (fun _ _ wx => s.size - wx.iterPos w.heap.size)
  case atStart => exact ⟨0, Nat.zero_le _, heap_alloc_new w _, (Below.refl _ _).alloc (Nat.le_refl _) _, Lib.hid (NoAny.zero _ _)⟩
  case round =>
    obtain ⟨i, his, hk, hb, HN⟩ := hrel
    have hpos : wr.iterPos w.heap.size = i := by simp only [World.iterPos, hk]
    have hlt : w.heap.size < wr.heap.size := (Array.getElem?_eq_some_iff.1 hk).1
    by_cases hi : i < s.size
    · obtain ⟨x, hx⟩ : ∃ x : UInt8, s[i]'hi = x := ⟨_, rfl⟩
      have hxl : (bl s)[i]? = some x := by rw [← hx]; exact Lib.data_getElem? s i hi
      by_cases hx128 : x.toNat < 128
      · have hnx := fun ty => run_next_ascii_at (P := Tryz.prog) wr w.heap.size s i ty hk hi (by rw [hx]; exact hx128)
        rw [hx] at hnx
        have hk' := iterAt_heap wr w.heap.size s i (i + 1) hk
        have hb' := below_iterAt hb (Nat.le_refl _) s (i + 1)
        obtain ⟨wi, hwi⟩ : ∃ wi, wr.iterAt w.heap.size s (i + 1) = wi := ⟨_, rfl⟩
        rw [hwi] at hnx hk' hb'
        have hcon := Lib.contains_iff_indexByte chars.data.toList x
        have hback : ((x.toNat : Int)).toNat.toUInt8 = x := by simp
        have HX := Lib.hid hxl
        have HP := Lib.hid hpos
        clear hk hb hxl hx hwi hlt hpos
        cases hin : chars.data.toList.contains x with
        | false =>
          rw [hin] at hcon
          have hneg : ¬ ((0 : Int) ≤ Lib.indexByte chars.data.toList x) := of_decide_eq_false hcon.symm
          clear hcon
          go_wp2_with (go_at_call 191; refine (Tryz.strings_IndexRune_ascii _ _ _ (by omega) (by omega)).mono ?_; rintro e w' ⟨rfl, hw⟩; rw [hw, hback]; clear hw)
          have hp2 : wi.iterPos w.heap.size = i + 1 := by simp only [World.iterPos, hk']
          exact ⟨⟨i + 1, by omega, hk', hb', Lib.hid (HN.out.succ HX.out hin)⟩, by rw [hp2, HP.out]; omega⟩
        | true =>
          rw [hin] at hcon
          have hge : (0 : Int) ≤ Lib.indexByte chars.data.toList x := of_decide_eq_true hcon.symm
          clear hcon
          go_wp2_with (go_at_call 191; refine (Tryz.strings_IndexRune_ascii _ _ _ (by omega) (by omega)).mono ?_; rintro e w' ⟨rfl, hw⟩; rw [hw, hback]; clear hw)
          go_ret
          exact ⟨by rw [show Lib.indexAny (bl s) (bl chars) = (i : Int) from Lib.indexAny_hit HN.out HX.out hin]; rfl, hb'⟩
      · have hhi : 128 ≤ (s[i]'hi).toNat := by rw [hx]; omega
        obtain ⟨hd1, hd2⟩ := decode_high s i hi hhi
        have hnx := fun ty => run_next_any_at (P := Tryz.prog) wr w.heap.size s i ty hk hi
        have hby := decode_bytes s i hi hhi
        obtain ⟨r, n, hrn⟩ : ∃ r n, Utf8.decode s i = (r, n) := ⟨_, _, rfl⟩
        have hdl := decode_le s i
        have hfit := decode_fit s i hi
        rw [hrn] at hfit hnx hd1 hd2 hby hdl
        simp only at hfit hnx hd1 hd2 hby hdl
        have hk' := iterAt_heap wr w.heap.size s i (i + n) hk
        have hb' := below_iterAt hb (Nat.le_refl _) s (i + n)
        have hlt' : w.heap.size < (wr.iterAt w.heap.size s (i + n)).heap.size := by rw [iterAt_size]; exact hlt
        obtain ⟨wi, hwi⟩ : ∃ wi, wr.iterAt w.heap.size s (i + n) = wi := ⟨_, rfl⟩
        rw [hwi] at hnx hk' hb' hlt'
        have HR := Lib.hid (indexRune_any chars HA.out r hd1)
        have HP := Lib.hid hpos
        have HNN : Hid (NoAny (bl s) (bl chars) (i + n)) := Lib.hid (NoAny.more HN.out fun j hj b hb => by
          have h128 := hby j hj b hb
          cases hc : (bl chars).contains b with
          | false => rfl
          | true =>
            obtain ⟨k, hk⟩ := List.mem_iff_getElem?.1 (List.contains_iff_mem.1 hc)
            have := HA.out k b hk
            omega)
        clear hk hb hxl hx hwi hlt hpos hrn hby hx128 hhi
        go_wp2_with (go_at_call 191; refine (HR.out _).mono ?_; rintro e w2 ⟨rfl, hw⟩)
        have hk2 : w2.heap[w.heap.size]? = some (.stringIter s (i + n)) := by rw [hw.block _ hlt']; exact hk'
        have hp2 : w2.iterPos w.heap.size = i + n := by simp only [World.iterPos, hk2]
        exact ⟨⟨i + n, by omega, hk2, hb'.trans (hw.mono hb'.size), HNN⟩, by rw [hp2, HP.out]; omega⟩
    · obtain rfl : i = s.size := by omega
      have hnx := fun ty => run_next_end_at (P := Tryz.prog) wr w.heap.size s s.size ty hk (by omega)
      go_wp2
      go_ret
      exact ⟨by rw [show Lib.indexAny (bl s) (bl chars) = -1 from Lib.indexAny_none (by rw [bl_length]; exact HN.out)]; rfl, hb⟩

/-- IndexAny at whatever text. -/
theorem indexAny_any (s chars : ByteArray) (w : World) (h2 : 2 ≤ chars.size) (hs : s.size < 4294967281) (hcs : chars.size < 4294967281) (hch : AllAscii chars) :
    Calls Tryz.prog 167 #[.string s, .string chars] w fun e w' => e = .returned (.int .i64 (Lib.indexAny (bl s) (bl chars))) ∧ Below w.heap.size w w' := by
  by_cases h8 : s.size ≤ 8
  · exact indexAny_short s chars w h2 h8 hch
  · have h116 : (Tryz.prog.info? (Tryz.lays153_ren.t 116)).map (fun i => (i.zero, i.size)) = some (some (.agg (Array.replicate 256 (.bool false))), 256) := by kernel_rfl
    refine (Any.strings_IndexAny_long Tryz.lays153 (zero_of_info h116).1 (zero_of_info h116).2 s chars w h2 (by omega) hs hcs hch).mono fun e w' ⟨h1, h2⟩ => ⟨h1, ?_⟩
    rw [h2]
    exact ((Below.refl _ _).alloc (Nat.le_refl _) _).alloc (by simp) _
set_option maxRecDepth 100000 in
set_option maxHeartbeats 400000 in
theorem containsAny_any (s chars : ByteArray) (w : World) (h2 : 2 ≤ chars.size) (hs : s.size < 4294967281) (hcs : chars.size < 4294967281) (hch : AllAscii chars) :
    Calls Tryz.prog 195 #[.string s, .string chars] w fun e w' => e = .returned (.bool (Lib.containsAny (bl s) (bl chars))) ∧ Below w.heap.size w w' := by
  have HC := Lib.hid (indexAny_any s chars w h2 hs hcs hch)
  go_enter Tryz.func195, Tryz.ntmps195
  go_wp2_with (go_at_call 167; refine HC.out.mono ?_; rintro e w2 ⟨rfl, hw⟩)
  go_ret
  exact ⟨rfl, hw⟩
theorem trimLeft_any (s chars : ByteArray) (w : World) (hcs : chars.size < 4294967281) (hch : AllAscii chars) :
    Calls Tryz.prog 163 #[.string s, .string chars] w fun e w' => e = .returned (.string ⟨(Lib.trimLeftS (bl s) (bl chars)).toArray⟩) ∧ Below w.heap.size w w' :=
  Any.strings_TrimLeft_laid Tryz.lays161 (by kernel_rfl) s chars w hcs hch
theorem trim_any (s chars : ByteArray) (w : World) (hs : s.size ≤ 9223372036854775807) (hcs : chars.size < 4294967281) (hch : AllAscii chars) :
    Calls Tryz.prog 107 #[.string s, .string chars] w fun e w' => e = .returned (.string ⟨(Lib.trimS (bl s) (bl chars)).toArray⟩) ∧ Below w.heap.size w w' :=
  Any.strings_Trim_laid Tryz.lays160 (by kernel_rfl) s chars w hs hcs hch
end Go.Proofs.YtfjphhmbnhglcaaGreatDoor
