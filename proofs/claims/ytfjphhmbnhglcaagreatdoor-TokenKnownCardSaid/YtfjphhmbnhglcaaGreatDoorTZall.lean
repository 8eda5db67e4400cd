/-
  The document's tokens: what reads bytes at places. Conditions: texts are no longer than 2^31 bytes.
  same of the statements: two rows of the same tokens. Conditions: no more of them than 2^32.
  The document's tokens: marks, by definition; what a token's reader tells. No conditions.
  The document's tokens: comments. Conditions: texts are no longer than 2^31 bytes.
  The document's tokens: doctypes. Conditions: texts are no longer than 2^31 bytes.
  The document's tokens: the one at a place, its tags being read as is said. Conditions: texts are no longer than 2^19 bytes.
  The document's tokens: the one at a place. Conditions: texts are no longer than 2^19 bytes.
  The document's tokens: attributes. Conditions: texts are no longer than 2^19 bytes.
  The document's tokens: tags. Conditions: texts are no longer than 2^19 bytes.
  The document's tokens: the row of them. No conditions.
  The law on reading: any text has the tokens that the document says; what is told is the caller's. Conditions: the library's variable MaxLen holds a number.
-/
import Derived.Test.YtfjphhmbnhglcaaGreatDoorTRefS
import Derived.Test.YtfjphhmbnhglcaaGreatDoorCRef4
import Derived.Test.YtfjphhmbnhglcaaGreatDoorTRight
import Derived.Test.YtfjphhmbnhglcaaGreatDoorTSame
import Derived.Test.YtfjphhmbnhglcaaGreatDoorTMath3
import Derived.Sort.AtCall
namespace Go.TokenKit
open Go Go.Lib Go.CharrefKit
def isBlankN (b : Nat) : Bool := b == 9 || b == 10 || b == 12 || b == 32
theorem all256' {p : UInt8 → Bool} (h : ((List.range 256).all fun k => p (UInt8.ofNat k)) = true) (b : UInt8) : p b = true := by
  have := List.all_eq_true.1 h b.toNat (List.mem_range.2 b.toNat_lt)
  simpa using this
theorem blank_eq (b : UInt8) : blanks.contains b = isBlankN b.toNat := by
  have := all256' (p := fun b => blanks.contains b == isBlankN b.toNat) (by kernel_rfl) b
  exact beq_iff_eq.1 this
/-- Where a text is from a place on. -/
def findAtL (l : Bytes) (i : Nat) (p : Bytes) : Int := if Lib.index (l.drop i) p = -1 then -1 else (i : Int) + Lib.index (l.drop i) p
theorem find_hit {l p : Bytes} {i k : Nat} (hik : i ≤ k) (hk : k ≤ l.length) (h : hasPrefix (l.drop k) p = true) (hn : ∀ j, i ≤ j → j < k → hasPrefix (l.drop j) p = false) : findAtL l i p = k := by
  have e : Lib.index (l.drop i) p = ((k - i : Nat) : Int) := by
    refine index_first (by rw [List.length_drop]; omega) ?_ (fun j hj => ?_)
    · unfold occAt; rw [List.drop_drop, show i + (k - i) = k by omega]; exact h
    · unfold occAt; rw [List.drop_drop]; exact hn (i + j) (by omega) (by omega)
  unfold findAtL
  rw [e, if_neg (by omega)]
  omega
theorem find_miss {l p : Bytes} {i k : Nat} (hlen : l.length < k + p.length) (hp : p ≠ []) (hn : ∀ j, i ≤ j → j < k → hasPrefix (l.drop j) p = false) : findAtL l i p = -1 := by
  have e : Lib.index (l.drop i) p = -1 := by
    refine index_none (fun j _ => ?_)
    unfold occAt
    rw [List.drop_drop]
    by_cases hj : i + j < k
    · exact hn (i + j) (by omega) hj
    · rw [Bool.eq_false_iff]
      intro hc
      have := (List.isPrefixOf_iff_prefix.1 hc).length_le
      rw [List.length_drop] at this
      have := List.length_pos_iff.2 hp
      omega
  unfold findAtL
  rw [e, if_pos rfl]
theorem find_short {l p : Bytes} {i : Nat} (hlen : l.length < i + p.length) (hp : p ≠ []) : findAtL l i p = -1 := find_miss hlen hp (fun j h1 h2 => by omega)
theorem pre_take {l p : Bytes} : hasPrefix l p = decide (p.length ≤ l.length ∧ l.take p.length = p) := by
  rw [Bool.eq_iff_iff, decide_eq_true_iff]
  unfold hasPrefix
  rw [List.isPrefixOf_iff_prefix]
  constructor
  · intro h; exact ⟨h.length_le, (List.prefix_iff_eq_take.1 h).symm⟩
  · intro ⟨_, h⟩; rw [← h]; exact List.take_prefix _ _
end Go.TokenKit
namespace Go.Proofs.YtfjphhmbnhglcaaGreatDoor
open Go.RowKit Go.RunKit Go.CharrefKit Go.Lib Go.TokenKit

set_option maxRecDepth 100000 in
set_option maxHeartbeats 1000000 in
theorem blank04_any (b : Nat) (hb : b < 256) (w : World) :
    Calls Tryz.prog 113 #[.int .u8 (b : Nat)] w fun e w' => e = .returned (.bool (isBlankN b)) ∧ w = w' := by
  go_enter Tryz.func113, Tryz.ntmps113
  go_big_wp2
  all_goals (go_ret; refine ⟨ret1_eq (congrArg Value.bool ?_), rfl⟩; unfold isBlankN; rw [Bool.eq_iff_iff]; simp; omega)

theorem bl_extract (s : ByteArray) (i k : Nat) : bl (s.extract i k) = ((bl s).drop i).take (k - i) := by
  simp [bl, List.extract]

set_option maxRecDepth 100000 in
set_option maxHeartbeats 1000000 in
theorem at04_any (s p : ByteArray) (i : Nat) (hs : s.size ≤ 4294967296) (hp : p.size ≤ 4294967296) (hi : i ≤ s.size) (w : World) :
    Calls Tryz.prog 71 #[.string s, .int .i64 (i : Nat), .string p] w fun e w' => e = .returned (.bool (hasPrefix ((bl s).drop i) (bl p))) ∧ w = w' := by
  have hls := bl_length s
  have hlp := bl_length p
  by_cases h : i + p.size ≤ s.size
  · have hI : (i : Int) + p.size ≤ s.size := by omega
    have hI0 : (i : Int) ≤ (i : Int) + p.size := by omega
    have hie : bl (s.extract i (i + p.size)) = ((bl s).drop i).take p.size := by rw [bl_extract, show i + p.size - i = p.size by omega]
    obtain ⟨x, hx⟩ : ∃ x, s.extract i (i + p.size) = x := ⟨_, rfl⟩
    have hans : hasPrefix ((bl s).drop i) (bl p) = decide (bl x = bl p) := by
      rw [pre_take, ← hx, hie, hlp, List.length_drop, hls]
      simp [show p.size ≤ s.size - i by omega]
    by_cases he : x = p
    · have : hasPrefix ((bl s).drop i) (bl p) = true := by rw [hans, he]; simp
      rw [this]
      subst he
      clear hans this hie
      go_enter Tryz.func71, Tryz.ntmps71
      go_big_wp2
      go_ret
      refine ⟨ret1_eq (congrArg Value.bool ?_), rfl⟩
      simp_all
    · have hne : ¬ bl x = bl p := fun e => he (ByteArray.ext (Array.toList_inj.1 e))
      have : hasPrefix ((bl s).drop i) (bl p) = false := by rw [hans]; simp [hne]
      rw [this]
      have hn2 : ¬ x.toList = p.toList := by rw [Lib.toList_data, Lib.toList_data]; exact hne
      have hn4 : (x.toList == p.toList) = false := beq_eq_false_iff_ne.2 hn2
      clear hans this hie hne
      go_enter Tryz.func71, Tryz.ntmps71
      go_big_wp2
      go_ret
      refine ⟨ret1_eq (congrArg Value.bool ?_), rfl⟩
      simp_all
  · have hI : ¬ (i : Int) + p.size ≤ s.size := by omega
    have : hasPrefix ((bl s).drop i) (bl p) = false := by
      rw [pre_take]
      simp only [hlp, List.length_drop, hls, decide_eq_false_iff_not]
      omega
    rw [this]
    go_enter Tryz.func71, Tryz.ntmps71
    go_big_wp2
    go_ret
    exact ⟨rfl, rfl⟩

set_option maxRecDepth 100000 in
set_option maxHeartbeats 1000000 in
theorem find04_any (s p : ByteArray) (i : Nat) (hs : s.size ≤ 4294967296) (hp : p.size ≤ 4294967296) (hp0 : 0 < p.size) (hi : i ≤ s.size) (w : World) :
    Calls Tryz.prog 112 #[.string s, .int .i64 (i : Nat), .string p] w fun e w' => e = .returned (.int .i64 (findAtL (bl s) i (bl p))) ∧ w = w' := by
  have hls := bl_length s
  have hlp := bl_length p
  have hpn : bl p ≠ [] := by intro e; rw [e] at hlp; simp at hlp; omega
  obtain ⟨r, hr⟩ : ∃ r, findAtL (bl s) i (bl p) = r := ⟨_, rfl⟩
  rw [hr]
  have HR := Lib.hid hr
  clear hr
  go_enter Tryz.func112, Tryz.ntmps112
  go_big_wp2
  go_loop [7] (fun v => ∃ k : Nat, v = .int .i64 (k : Nat) ∧ i ≤ k ∧ k ≤ s.size + 1 ∧ Hid (∀ j, i ≤ j → j < k → hasPrefix ((bl s).drop j) (bl p) = false)) (fun v => s.size + 2 - (RowKit.intOf v).toNat)
  case atStart => exact ⟨i, rfl, Nat.le_refl _, by omega, Lib.hid fun j h1 h2 => by omega⟩
  case round =>
    obtain ⟨k, rfl, hik, hks, HN⟩ := hrel
    by_cases hk : k + p.size ≤ s.size
    · have hkI : (k : Int) ≤ (s.size : Int) - p.size := by omega
      have hA := at04_any s p k hs hp (by omega) w
      cases hz : hasPrefix ((bl s).drop k) (bl p) with
      | true =>
        rw [hz] at hA
        have HA := Lib.hid hA
        have HE := Lib.hid (HR.out.symm.trans (find_hit hik (by rw [hls]; omega) hz HN.out))
        clear hA hz
        go_big_wp2_with (go_at_call 71; refine HA.out.mono ?_; rintro e w1 ⟨rfl, rfl⟩)
        go_ret
        exact ⟨by rw [HE.out]; rfl, rfl⟩
      | false =>
        rw [hz] at hA
        have HA := Lib.hid hA
        have HZ := Lib.hid hz
        clear hA hz
        go_big_wp2_with (go_at_call 71; refine HA.out.mono ?_; rintro e w1 ⟨rfl, rfl⟩)
        refine ⟨⟨k + 1, by go_num, by omega, by omega, Lib.hid fun j h1 h2 => ?_⟩, by simp [RowKit.intOf]; omega⟩
        by_cases e : j = k
        · subst e; exact HZ.out
        · exact HN.out j h1 (by omega)
    · have hkI : ¬ (k : Int) ≤ (s.size : Int) - p.size := by omega
      have HE := Lib.hid (HR.out.symm.trans (find_miss (l := bl s) (p := bl p) (i := i) (k := k) (by rw [hls, hlp]; omega) hpn HN.out))
      go_big_wp2
      go_ret
      exact ⟨by rw [HE.out]; rfl, rfl⟩

set_option maxRecDepth 100000 in
set_option maxHeartbeats 1000000 in
theorem begins04_any (s : ByteArray) (i : Nat) (hs : s.size ≤ 4294967296) (hi : i ≤ s.size) (w : World) :
    Calls Tryz.prog 69 #[.string s, .int .i64 (i : Nat)] w fun e w' => e = .returned (.bool (markL ((bl s).drop i))) ∧ w = w' := by
  have hls := bl_length s
  have hbd := bl_drop s i
  rw [← hbd]
  by_cases h : i + 1 < s.size
  · have hI : (i : Int) + 1 < s.size := by omega
    have hi0 : i < s.size := by omega
    rw [mark_at (s.extract i s.size) (by simp; omega)]
    obtain ⟨x, hx⟩ : ∃ x, s[i]'hi0 = x := ⟨_, rfl⟩
    obtain ⟨y, hy⟩ : ∃ y, s[i + 1]'h = y := ⟨_, rfl⟩
    have e0 : (s.extract i s.size)[0]'(by simp; omega) = x := by rw [← hx]; simp [ByteArray.getElem_extract]
    have e1 : (s.extract i s.size)[1]'(by simp; omega) = y := by rw [← hy]; simp [ByteArray.getElem_extract]
    rw [e0, e1]
    have HL := Lib.hid (letter04_any y.toNat y.toNat_lt)
    obtain ⟨z, hz⟩ : ∃ z, isLet y.toNat = z := ⟨_, rfl⟩
    rw [hz] at HL
    rw [hz]
    clear hz e0 e1 hbd
    go_enter Tryz.func69, Tryz.ntmps69
    go_big_wp2_with (go_at_call 35; refine (HL.out _).mono ?_; rintro e w1 ⟨rfl, rfl⟩)
    all_goals (go_ret; refine ⟨ret1_eq (congrArg Value.bool ?_), rfl⟩; simp_all)
  · have hI : ¬ (i : Int) + 1 < s.size := by omega
    rw [mark_short (s.extract i s.size) (by simp; omega)]
    clear hbd
    go_enter Tryz.func69, Tryz.ntmps69
    go_big_wp2
    go_ret
    exact ⟨rfl, rfl⟩

/-- The byte at a place begins what is behind. -/
theorem drop_at {s : ByteArray} {k : Nat} (hk : k < s.size) : (bl s).drop k = s[k]'hk :: (bl s).drop (k + 1) := by
  have h := Lib.data_getElem? s k hk
  change (bl s)[k]? = _ at h
  have hlt : k < (bl s).length := by rw [bl_length]; exact hk
  rw [List.drop_eq_getElem_cons hlt]
  rw [List.getElem?_eq_getElem hlt] at h
  rw [Option.some.inj h]

set_option maxRecDepth 100000 in
set_option maxHeartbeats 1000000 in
theorem skip04_any (s : ByteArray) (i : Nat) (hs : s.size ≤ 4294967296) (hi : i ≤ s.size) (w : World) :
    Calls Tryz.prog 110 #[.string s, .int .i64 (i : Nat)] w fun e w' => ∃ k : Nat, e = .returned (.int .i64 (k : Nat)) ∧ i ≤ k ∧ k ≤ s.size ∧ (bl s).drop k = skipL ((bl s).drop i) ∧ w = w' := by
  have hls := bl_length s
  go_enter Tryz.func110, Tryz.ntmps110
  go_big_wp2
  go_loop [1] (fun v => ∃ k : Nat, v = .int .i64 (k : Nat) ∧ i ≤ k ∧ k ≤ s.size ∧ Hid (skipL ((bl s).drop k) = skipL ((bl s).drop i))) (fun v => s.size - (RowKit.intOf v).toNat)
  case atStart => exact ⟨i, rfl, Nat.le_refl _, hi, Lib.hid rfl⟩
  case round =>
    obtain ⟨k, rfl, hik, hks, HN⟩ := hrel
    by_cases hk : k < s.size
    · have hkI : (k : Int) < s.size := by omega
      have hd := drop_at hk
      obtain ⟨x, hx⟩ : ∃ x, s[k]'hk = x := ⟨_, rfl⟩
      rw [hx] at hd
      have hB := fun w => blank04_any x.toNat x.toNat_lt w
      rw [← blank_eq] at hB
      cases hz : blanks.contains x with
      | true =>
        rw [hz] at hB
        have HB := Lib.hid hB
        have hst : skipL ((bl s).drop (k + 1)) = skipL ((bl s).drop i) := by rw [← HN.out, hd]; unfold skipL; rw [List.dropWhile_cons_of_pos hz]
        have HS := Lib.hid hst
        clear hB hz hd hst
        go_big_wp2_with (go_at_call 113; refine (HB.out _).mono ?_; rintro e w1 ⟨rfl, rfl⟩)
        exact ⟨⟨k + 1, by go_num, by omega, by omega, HS⟩, by simp [RowKit.intOf]; omega⟩
      | false =>
        rw [hz] at hB
        have HB := Lib.hid hB
        have hst : (bl s).drop k = skipL ((bl s).drop i) := by rw [← HN.out, hd]; unfold skipL; rw [List.dropWhile_cons_of_neg (by simp only [hz]; decide)]
        have HS := Lib.hid hst
        clear hB hz hd hst
        go_big_wp2_with (go_at_call 113; refine (HB.out _).mono ?_; rintro e w1 ⟨rfl, rfl⟩)
        go_ret
        exact ⟨k, rfl, hik, hks, HS.out, rfl⟩
    · obtain rfl : k = s.size := by omega
      have hst : (bl s).drop s.size = skipL ((bl s).drop i) := by rw [← HN.out, List.drop_eq_nil_of_le (by omega)]; rfl
      have HS := Lib.hid hst
      clear hst
      go_big_wp2
      go_ret
      exact ⟨s.size, rfl, hi, Nat.le_refl _, HS.out, rfl⟩

theorem has_find (l : Bytes) (x : UInt8) : (l.contains x = true ∧ 0 ≤ findAtL l 0 [x]) ∨ (l.contains x = false ∧ findAtL l 0 [x] = -1) := by
  have h1 := contains_iff_indexByte l x
  have h2 := Lib.indexByte_ge l x
  have h3 : findAtL l 0 [x] = Lib.indexByte l x := by
    unfold findAtL
    rw [List.drop_zero, index_one]
    split
    · omega
    · simp
  rw [h3, h1]
  by_cases h : 0 ≤ Lib.indexByte l x
  · exact .inl ⟨by simpa using h, h⟩
  · exact .inr ⟨by simpa using h, by omega⟩
theorem one_at {s : ByteArray} {k : Nat} (hk : k < s.size) : bl (s.extract k (k + 1)) = [s[k]'hk] := by
  rw [bl_extract, drop_at hk, show k + 1 - k = 1 by omega]; rfl
/-- Is a byte of a set of a text's bytes: the search for it. -/
theorem has04_any (m s : ByteArray) (k : Nat) (hm : m.size ≤ 4294967296) (hk : k < s.size) (w : World) :
    ∃ r : Int, (((bl m).contains (s[k]'hk) = true ∧ 0 ≤ r) ∨ ((bl m).contains (s[k]'hk) = false ∧ r = -1)) ∧
      Calls Tryz.prog 112 #[.string m, .int .i64 0, .string (s.extract k (k + 1))] w fun e w' => e = .returned (.int .i64 r) ∧ w = w' := by
  have h := find04_any m (s.extract k (k + 1)) 0 hm (by simp; omega) (by simp; omega) (Nat.zero_le _) w
  rw [one_at hk] at h
  exact ⟨_, has_find (bl m) (s[k]'hk), h⟩
theorem stops_or {m : Bytes} {x : UInt8} : (blanks ++ m).contains x = (blanks.contains x || m.contains x) := by
  rw [Bool.eq_iff_iff, Bool.or_eq_true, List.contains_iff_mem, List.contains_iff_mem, List.contains_iff_mem, List.mem_append]
theorem before_is {st l : Bytes} {n : Nat} (h : l.drop n = behind st l) (hn : n ≤ l.length) : l.take n = before st l := by
  have h1 := before_len st l
  have h2 := congrArg List.length h
  rw [List.length_drop] at h2
  have h3 := before_behind st l
  have h4 : (before st l).length = n := by omega
  conv => lhs; rw [← h3]
  rw [← h4, List.take_left]

set_option maxRecDepth 100000 in
set_option maxHeartbeats 1000000 in
theorem word04_any (s m : ByteArray) (i : Nat) (hs : s.size ≤ 4294967296) (hm : m.size ≤ 4294967296) (hi : i ≤ s.size) (w : World) :
    Calls Tryz.prog 108 #[.string s, .int .i64 (i : Nat), .string m] w fun e w' => ∃ k : Nat, e = .returned (.int .i64 (k : Nat)) ∧ i ≤ k ∧ k ≤ s.size ∧ bl (s.extract i k) = before (blanks ++ bl m) ((bl s).drop i) ∧ (bl s).drop k = behind (blanks ++ bl m) ((bl s).drop i) ∧ w = w' := by
  have hls := bl_length s
  have HFin := Lib.hid fun (k : Nat) (hik : i ≤ k) (hks : k ≤ s.size) (h : (bl s).drop k = behind (blanks ++ bl m) ((bl s).drop i)) => (show bl (s.extract i k) = before (blanks ++ bl m) ((bl s).drop i) by
    rw [bl_extract]
    exact before_is (by rw [List.drop_drop, show i + (k - i) = k by omega]; exact h) (by rw [List.length_drop]; omega))
  go_enter Tryz.func108, Tryz.ntmps108
  go_big_wp2
  go_loop [1] (fun v => ∃ k : Nat, v = .int .i64 (k : Nat) ∧ i ≤ k ∧ k ≤ s.size ∧ Hid (behind (blanks ++ bl m) ((bl s).drop k) = behind (blanks ++ bl m) ((bl s).drop i))) (fun v => s.size - (RowKit.intOf v).toNat)
  case atStart => exact ⟨i, rfl, Nat.le_refl _, hi, Lib.hid rfl⟩
  case round =>
    obtain ⟨k, rfl, hik, hks, HN⟩ := hrel
    by_cases hk : k < s.size
    · have hkI : (k : Int) < s.size := by omega
      have hkI2 : (k : Int) ≤ (k : Int) + 1 := by omega
      have hkI3 : (k : Int) + 1 ≤ s.size := by omega
      have hd := drop_at hk
      obtain ⟨r, hr, hF⟩ := has04_any m s k hm hk w
      obtain ⟨x, hx⟩ : ∃ x, s[k]'hk = x := ⟨_, rfl⟩
      rw [hx] at hd hr
      have hB := fun w => blank04_any x.toNat x.toNat_lt w
      rw [← blank_eq] at hB
      have hst := stops_or (m := bl m) (x := x)
      have HF := Lib.hid hF
      clear hF
      cases hz : blanks.contains x with
      | true =>
        rw [hz] at hB hst
        have HB := Lib.hid hB
        have hdn : (bl s).drop k = behind (blanks ++ bl m) ((bl s).drop i) := by
          rw [← HN.out, hd]; unfold behind; rw [List.dropWhile_cons_of_neg (by rw [hst]; simp)]
        have HE := Lib.hid hdn
        clear hB hz hd hst hr hdn
        go_big_wp2_with (go_at_call 113; refine (HB.out _).mono ?_; rintro e w1 ⟨rfl, rfl⟩)
        go_ret
        exact ⟨k, rfl, hik, hks, HFin.out k hik hks HE.out, HE.out, rfl⟩
      | false =>
        rw [hz] at hB hst
        have HB := Lib.hid hB
        rcases hr with ⟨hc, hr⟩ | ⟨hc, hr⟩
        · rw [hc] at hst
          have hdn : (bl s).drop k = behind (blanks ++ bl m) ((bl s).drop i) := by
            rw [← HN.out, hd]; unfold behind; rw [List.dropWhile_cons_of_neg (by rw [hst]; simp)]
          have HE := Lib.hid hdn
          have hr2 : ¬ r < 0 := by omega
          clear hB hz hd hst hdn hc
          go_big_wp2_with (first
            | (go_at_call 113; refine (HB.out _).mono ?_; rintro e w1 ⟨rfl, rfl⟩)
            | (go_at_call 112; refine HF.out.mono ?_; rintro e w1 ⟨rfl, rfl⟩))
          go_ret
          exact ⟨k, rfl, hik, hks, HFin.out k hik hks HE.out, HE.out, rfl⟩
        · rw [hc] at hst
          have hdn : behind (blanks ++ bl m) ((bl s).drop (k + 1)) = behind (blanks ++ bl m) ((bl s).drop i) := by
            rw [← HN.out, hd]; unfold behind; rw [List.dropWhile_cons_of_pos (by rw [hst]; decide)]
          have HE := Lib.hid hdn
          subst hr
          clear hB hz hd hst hdn hc
          go_big_wp2_with (first
            | (go_at_call 113; refine (HB.out _).mono ?_; rintro e w1 ⟨rfl, rfl⟩)
            | (go_at_call 112; refine HF.out.mono ?_; rintro e w1 ⟨rfl, rfl⟩))
          exact ⟨⟨k + 1, by go_num, by omega, by omega, HE⟩, by simp [RowKit.intOf]; omega⟩
    · obtain rfl : k = s.size := by omega
      have hdn : (bl s).drop s.size = behind (blanks ++ bl m) ((bl s).drop i) := by rw [← HN.out, List.drop_eq_nil_of_le (by omega)]; rfl
      have HE := Lib.hid hdn
      clear hdn
      go_big_wp2
      go_ret
      exact ⟨s.size, rfl, hi, Nat.le_refl _, HFin.out _ hi (Nat.le_refl _) HE.out, HE.out, rfl⟩

set_option maxRecDepth 100000 in
set_option maxHeartbeats 1000000 in
theorem of04_any (s m : ByteArray) (hs : s.size ≤ 4294967296) (hm : m.size ≤ 4294967296) (w : World) :
    Calls Tryz.prog 109 #[.string s, .string m] w fun e w' => e = .returned (.bool (wordL (bl m) (bl s) && decide (0 < s.size))) ∧ w = w' := by
  have hls := bl_length s
  go_enter Tryz.func109, Tryz.ntmps109
  go_big_wp2
  go_loop [5] (fun v => ∃ k : Nat, v = .int .i64 (k : Nat) ∧ k ≤ s.size ∧ Hid (∀ j b, j < k → (bl s)[j]? = some b → okB (bl m) b = true)) (fun v => s.size - (RowKit.intOf v).toNat)
  case atStart => exact ⟨0, rfl, Nat.zero_le _, Lib.hid fun j b h => by omega⟩
  case round =>
    obtain ⟨k, rfl, hks, HA⟩ := hrel
    by_cases hk : k < s.size
    · have hkI : (k : Int) < s.size := by omega
      have hkI2 : (k : Int) ≤ (k : Int) + 1 := by omega
      have hkI3 : (k : Int) + 1 ≤ s.size := by omega
      obtain ⟨r, hr, hF⟩ := has04_any m s k hm hk w
      obtain ⟨x, hx⟩ : ∃ x, s[k]'hk = x := ⟨_, rfl⟩
      have hxl : (bl s)[k]? = some x := by rw [← hx]; exact Lib.data_getElem? s k hk
      rw [hx] at hr
      have HX := Lib.hid hxl
      have HF := Lib.hid hF
      have hL := fun w => letter04_any x.toNat x.toNat_lt w
      have hD := fun w => digit04_any x.toNat x.toNat_lt w
      have hok : okB (bl m) x = (isLet x.toNat || isNum x.toNat || (bl m).contains x) := rfl
      clear hF hxl
      obtain ⟨z1, hz1⟩ : ∃ z, isLet x.toNat = z := ⟨_, rfl⟩
      obtain ⟨z2, hz2⟩ : ∃ z, isNum x.toNat = z := ⟨_, rfl⟩
      rw [hz1] at hL hok
      rw [hz2] at hD hok
      have HL := Lib.hid hL
      have HD := Lib.hid hD
      have next : okB (bl m) x = true → ∀ j b, j < k + 1 → (bl s)[j]? = some b → okB (bl m) b = true := fun h j b hj hb => by
        by_cases e : j = k
        · subst e; rw [HX.out] at hb; cases hb; exact h
        · exact HA.out j b (by omega) hb
      have HNext := Lib.hid next
      clear hL hD hz1 hz2 next
      rcases hr with ⟨hc, hr⟩ | ⟨hc, hr⟩
      · rw [hc] at hok
        have HO : Hid (okB (bl m) x = true) := Lib.hid (by rw [hok]; simp)
        have hr2 : ¬ r < 0 := by omega
        clear hok hc
        cases z1 <;> cases z2
        all_goals
          go_big_wp2_with (first
            | (go_at_call 35; refine (HL.out _).mono ?_; rintro e w1 ⟨rfl, rfl⟩)
            | (go_at_call 36; refine (HD.out _).mono ?_; rintro e w1 ⟨rfl, rfl⟩)
            | (go_at_call 112; refine HF.out.mono ?_; rintro e w1 ⟨rfl, rfl⟩))
          exact ⟨⟨k + 1, by go_num, by omega, Lib.hid (HNext.out HO.out)⟩, by simp [RowKit.intOf]; omega⟩
      · rw [hc] at hok
        subst hr
        have HO := Lib.hid hok
        clear hok hc
        cases z1 <;> cases z2
        case false.false =>
          go_big_wp2_with (first
            | (go_at_call 35; refine (HL.out _).mono ?_; rintro e w1 ⟨rfl, rfl⟩)
            | (go_at_call 36; refine (HD.out _).mono ?_; rintro e w1 ⟨rfl, rfl⟩)
            | (go_at_call 112; refine HF.out.mono ?_; rintro e w1 ⟨rfl, rfl⟩))
          go_ret
          exact ⟨by rw [wordL_no HX.out HO.out]; rfl, rfl⟩
        all_goals
          go_big_wp2_with (first
            | (go_at_call 35; refine (HL.out _).mono ?_; rintro e w1 ⟨rfl, rfl⟩)
            | (go_at_call 36; refine (HD.out _).mono ?_; rintro e w1 ⟨rfl, rfl⟩)
            | (go_at_call 112; refine HF.out.mono ?_; rintro e w1 ⟨rfl, rfl⟩))
          exact ⟨⟨k + 1, by go_num, by omega, Lib.hid (HNext.out HO.out)⟩, by simp [RowKit.intOf]; omega⟩
    · obtain rfl : k = s.size := by omega
      go_big_wp2
      go_ret
      refine ⟨ret1_eq (congrArg Value.bool ?_), rfl⟩
      rw [wordL_yes (fun j b hj hb => HA.out j b (by rw [← hls]; exact hj) hb)]
      simp
end Go.Proofs.YtfjphhmbnhglcaaGreatDoor
namespace Go.Proofs.YtfjphhmbnhglcaaGreatDoor
open Go.RowKit Go.RunKit Go.CharrefKit Go.Lib Go.TokenKit

set_option maxRecDepth 100000 in
set_option maxHeartbeats 4000000 in
theorem same_any (ao bo : Option Addr) (c1 c2 n : Nat) (L K : List (Tok × Value)) (ts : List Tok) (hn : ts.length = n) (h32 : n ≤ 4294967296) (hL : L.map (·.1) = ts) (hK : K.map (·.1) = ts) (h16 : ∀ t, t ∈ ts → t.attrs.length ≤ 16) (w : World) (ha : FullReads w ao L) (hb : FullReads w bo K) :
    Calls Tryz.prog 16 #[.slice ao n c1, .slice bo n c2] w fun e w' => e = .returned (.bool true) ∧ Below w.heap.size w w' := by
  have HA := Lib.hid ha
  have HC := Lib.hid hb
  have HL := Lib.hid hL
  have HK := Lib.hid hK
  have H16 := Lib.hid h16
  have hLl : L.length = n := by rw [← hn, ← hL, List.length_map]
  have hKl : K.length = n := by rw [← hn, ← hK, List.length_map]
  clear ha hb hL hK h16 hn
  go_enter Tryz.func16, Tryz.ntmps16
  go_big_wp2
  go_loopw [5] (fun v wr => ∃ k : Nat, v = .int .i64 (k : Nat) ∧ k ≤ n ∧ Hid (Below w.heap.size w wr)) (fun v _ => n - (RowKit.intOf v).toNat)
  case atStart => exact ⟨0, rfl, Nat.zero_le _, Lib.hid (Below.refl _ _)⟩
  case round =>
    obtain ⟨k, rfl, hk, HB⟩ := hrel
    by_cases hkl : k < n
    · have hkI : (k : Int) < n := by omega
      obtain ⟨x, hx⟩ : ∃ x, L[k]? = some x := ⟨L[k]'(by omega), by simp [show k < L.length by omega]⟩
      obtain ⟨y, hy⟩ : ∃ y, K[k]? = some y := ⟨K[k]'(by omega), by simp [show k < K.length by omega]⟩
      have hx1 : ts[k]? = some x.1 := by rw [← HL.out, List.getElem?_map, hx]; rfl
      have hy1 : ts[k]? = some y.1 := by rw [← HK.out, List.getElem?_map, hy]; rfl
      have hyx : y.1 = x.1 := Option.some.inj (hy1.symm.trans hx1)
      have hat := H16.out x.1 (List.mem_of_getElem? hx1)
      obtain ⟨g1, rfl, a0, a1, a2, a3, a4⟩ := (HA.out.on HB.out).toks.at_ k x hx
      obtain ⟨bx, cx, hv, hatx⟩ := (HA.out.on HB.out).attrs k x hx
      obtain ⟨g2, rfl, b0, b1, b2, b3, b4⟩ := (HC.out.on HB.out).toks.at_ k y hy
      obtain ⟨bz, cy, hv2, haty⟩ := (HC.out.on HB.out).attrs k y hy
      obtain ⟨⟨kd, nm, ats, sf, dt⟩, v⟩ := x
      obtain ⟨yt, v2⟩ := y
      obtain rfl : yt = ⟨kd, nm, ats, sf, dt⟩ := hyx
      obtain rfl : v = .slice bx ats.length cx := hv
      obtain rfl : v2 = .slice bz ats.length cy := hv2
      simp only at a0 a1 a2 a3 a4 b0 b1 b2 b3 b4 hatx haty hat
      obtain ⟨nb, hnb⟩ : ∃ nb : ByteArray, (⟨nm.toArray⟩ : ByteArray) = nb := ⟨_, rfl⟩
      obtain ⟨db, hdb⟩ : ∃ db : ByteArray, (⟨dt.toArray⟩ : ByteArray) = db := ⟨_, rfl⟩
      rw [hnb] at a1 b1
      rw [hdb] at a4 b4
      have HS := Lib.hid fun (p : Over wr) => sameAttrs_any bx bz cx cy ats (by omega) p.out (hatx.on p.below) (haty.on p.below)
      have A0 := fun p : Over wr => p.cell a0
      have A1 := fun p : Over wr => p.cell a1
      have A2 := fun p : Over wr => p.cell a2
      have A3 := fun p : Over wr => p.cell a3
      have A4 := fun p : Over wr => p.cell a4
      have B0 := fun p : Over wr => p.cell b0
      have B1 := fun p : Over wr => p.cell b1
      have B2 := fun p : Over wr => p.cell b2
      have B3 := fun p : Over wr => p.cell b3
      have B4 := fun p : Over wr => p.cell b4
      clear a0 a1 a2 a3 a4 b0 b1 b2 b3 b4 hx hy hx1 hy1 hatx haty hnb hdb
      go_big_wp2
      refine wp_region_below (by kernel_rfl) (by kernel_rfl) ?_
      repeat (go_big_quiet_step (first | (go_at_call 33; exact calls_over (HS.out _))))
      refine wpQuiet_nil ?_
      intro W hw'
      obtain ⟨q, rfl⟩ := hw'
      go_big_wp2
      exact ⟨⟨k + 1, by go_num, by omega, Lib.hid (HB.out.trans (q.below.mono HB.out.size))⟩, by simp [RowKit.intOf]; omega⟩
    · obtain rfl : k = n := by omega
      go_big_wp2
      go_ret
      exact ⟨rfl, HB.out⟩
end Go.Proofs.YtfjphhmbnhglcaaGreatDoor
namespace Go.TokenKit
open Go Go.Lib Go.CharrefKit
theorem may_prefix {r : Bytes} : ∀ {k : Nat} {l : Bytes}, l.drop k = 45 :: 45 :: 62 :: r → (hasPrefix (l.take k) [62] || hasPrefix (l.take k) [45, 62]) = (hasPrefix l [62] || hasPrefix l [45, 62])
  | 0, l, h => by
    rw [List.drop_zero] at h
    subst h
    rfl
  | 1, [], h => by cases h
  | 1, x :: t, h => by
    rw [List.drop_succ_cons, List.drop_zero] at h
    subst h
    simp [hasPrefix, List.isPrefixOf]
  | k + 2, [], h => by simp at h
  | k + 2, [x], h => by simp at h
  | k + 2, x :: y :: t, h => by simp [hasPrefix, List.isPrefixOf]
theorem contains_find (d p : Bytes) : contains d p = decide (0 ≤ findAtL d 0 p) := by
  unfold contains findAtL
  rw [List.drop_zero]
  have := Lib.index_ge d p
  split
  · rename_i h; rw [h]
  · simp
/-- A comment, as the document's own way reads it: where its end is, and what its text may not be. -/
theorem comment_is (l : Bytes) : (Lib.index l [45, 45, 62] = -1 ∧ commentL l = .error 43) ∨
    (∃ k : Nat, Lib.index l [45, 45, 62] = k ∧ k + 3 ≤ l.length ∧
      commentL l = if (hasPrefix l [62] || hasPrefix l [45, 62]) || (contains (l.take k) [45, 45, 33, 62] || contains (l.take k) [60, 33, 45, 45]) || hasSuffix (l.take k) [60, 33, 45] then .error 43 else .ok (⟨4, [], [], false, l.take k⟩, l.drop (k + 3))) := by
  have hge := Lib.index_ge l [45, 45, 62]
  by_cases h0 : 0 ≤ Lib.index l [45, 45, 62]
  · right
    have hroom := Lib.index_room l [45, 45, 62] h0
    simp only [List.length_cons, List.length_nil] at hroom
    refine ⟨(Lib.index l [45, 45, 62]).toNat, by omega, by omega, ?_⟩
    obtain ⟨k, hk⟩ : ∃ k : Nat, Lib.index l [45, 45, 62] = k := ⟨(Lib.index l [45, 45, 62]).toNat, by omega⟩
    have hocc : Lib.occAt l [45, 45, 62] k = true := by
      rcases Lib.index_spec l [45, 45, 62] with ⟨h1, _⟩ | ⟨i, h1, _, h3, _⟩
      · omega
      · have : i = k := by omega
        rw [← this]; exact h3
    obtain ⟨r, hr⟩ := List.isPrefixOf_iff_prefix.1 (show [45, 45, 62].isPrefixOf (l.drop k) = true from hocc)
    have hmp := may_prefix (k := k) (l := l) (r := r) hr.symm
    rw [hk]
    simp only [Int.toNat_natCast]
    unfold commentL
    have hcut : cut l [45, 45, 62] = (l.take k, l.drop (k + 3), true) := by
      unfold cut
      rw [hk]
      simp
    rw [hcut]
    simp only [Bool.true_and]
    unfold mayL
    rw [hmp]
    cases h1 : (hasPrefix l [62] || hasPrefix l [45, 62]) <;> cases h2 : (contains (l.take k) [45, 45, 33, 62] || contains (l.take k) [60, 33, 45, 45]) <;> cases h3 : hasSuffix (l.take k) [60, 33, 45] <;> simp
  · left
    refine ⟨by omega, ?_⟩
    unfold commentL
    have hcut : (cut l [45, 45, 62]).2.2 = false := by unfold cut; rw [if_neg h0]
    rw [hcut]
    rfl
end Go.TokenKit
namespace Go.Proofs.YtfjphhmbnhglcaaGreatDoor
open Go.RowKit Go.RunKit Go.CharrefKit Go.Lib Go.TokenKit
/-- What a reader of the document's own tells at a place, against the answer over lists. -/
def ToldZ (o : Except Nat (Tok × Bytes)) (s : ByteArray) (base : Nat) (kd : Nat) (nm : ByteArray) (ao : Option Addr) (m cap : Nat) (sf : Bool) (d : ByteArray) (k e : Int) (W : World) : Prop := match o with
  | .error x => e = (x : Nat)
  | .ok (t, r) => e = 0 ∧ (∃ q : Nat, k = q ∧ q ≤ s.size ∧ (bl s).drop q = r) ∧ kd = t.kind ∧ nm = ⟨t.name.toArray⟩ ∧ AtRow W base (.slice ao m cap) t.attrs ∧ sf = t.self ∧ d = ⟨t.data.toArray⟩
end Go.Proofs.YtfjphhmbnhglcaaGreatDoor
namespace Go.Proofs.YtfjphhmbnhglcaaGreatDoor
open Go.RowKit Go.RunKit Go.CharrefKit Go.Lib Go.TokenKit

theorem results_row_tmp2 {P : Program} {fn : Func} {p u v : Tmp} {ty : TypeId} (h : fn.results = #[.cell p ty, .tmp u, .tmp v]) (tmps : Array Value) (w : World) (g : Nat) (t : TypeId) (cs : Array Value) (fr : Nat × Nat) (d : TypeDesc)
    (hp : tmps.getD p undef = .pointer (some ⟨g, 0, none⟩)) (hg : w.heap[g]? = some (.cells cs t fr))
    (hu : P.underlying ty = some d) (hd : (match d with | .struct _ | .array _ _ => true | _ => false) = true) (hi : (P.info? ty).map (·.size) = some cs.size) :
    (results fn tmps).run P w = .ok (.tuple #[.agg cs, tmps.getD u undef, tmps.getD v undef]) w := by
  have e : (results fn tmps).run P w = ((asAddr (tmps.getD p undef)).run P w).andThen fun a w₁ => ((loadVar ty a).run P w₁).andThen fun x w₂ => .ok (.tuple #[x, tmps.getD u undef, tmps.getD v undef]) w₂ := by
    simp only [results, h]
    simp [Sem.run_bind, Result.andThen]
  rw [e, hp]
  simp [asAddr, run_loadVar_row w g t ty cs fr d hg hu hd hi, Result.andThen]
/-- A token of no attributes in the result's own block. -/
theorem told_plain {o : Except Nat (Tok × Bytes)} {s : ByteArray} {w : World} {kd : Nat} {d : ByteArray} {q : Nat} {x : Obj} (h : o = .ok (⟨kd, [], [], false, bl d⟩, (bl s).drop q)) (hq : q ≤ s.size) :
    ToldZ o s w.heap.size kd ⟨#[]⟩ none 0 0 false d q 0 (w.alloc x) := by
  subst h
  exact ⟨rfl, ⟨q, rfl, hq, rfl⟩, rfl, rfl, World.ownsRow_nil _ _ _ _, rfl, rfl⟩

/-- What a reader of the document's own answers. -/
def AnsZ (o : Except Nat (Tok × Bytes)) (s : ByteArray) (w : World) (e : Ending) (w' : World) : Prop := ∃ kd nm ao m cap sf d k er, e = .returned (.tuple #[.agg #[.int .u8 ((kd : Nat) : Int), .string nm, .slice ao m cap, .bool sf, .string d], .int .i64 k, .int .i64 er]) ∧ Below w.heap.size w w' ∧ ToldZ o s w.heap.size kd nm ao m cap sf d k er w'
theorem suffix_is {l p : List UInt8} : hasSuffix l p = decide (l.drop (l.length - p.length) = p) := by
  rw [Bool.eq_iff_iff, decide_eq_true_iff]
  unfold hasSuffix
  rw [List.isSuffixOf_iff_suffix, List.suffix_iff_eq_drop]
  exact ⟨fun h => h.symm, fun h => h.symm⟩
theorem suffix_no {l p : List UInt8} (hp : l.length < p.length) : hasSuffix l p = false := by
  rw [Bool.eq_false_iff]
  intro h
  have := (List.isSuffixOf_iff_suffix.1 h).length_le
  omega

set_option maxRecDepth 100000 in
set_option maxHeartbeats 2000000 in
theorem comment04_any (s : ByteArray) (i : Nat) (hs : s.size ≤ 2147483648) (hi : i ≤ s.size) (w : World) :
    Calls Tryz.prog 72 #[.string s, .int .i64 (i : Nat)] w fun e w' => AnsZ (commentL ((bl s).drop i)) s w e w' := by
  have hls := bl_length s
  have hci := comment_is ((bl s).drop i)
  obtain ⟨o, ho⟩ : ∃ o, commentL ((bl s).drop i) = o := ⟨_, rfl⟩
  rw [ho] at hci ⊢
  have hF := fun W => find04_any s ⟨#[45, 45, 62]⟩ i (by omega) (by decide) (by decide) hi W
  rw [show bl (⟨#[45, 45, 62]⟩ : ByteArray) = [45, 45, 62] from rfl] at hF
  rcases hci with ⟨h1, h2⟩ | ⟨k, h1, h2, h3⟩
  · have hr : findAtL (bl s) i [45, 45, 62] = -1 := by unfold findAtL; rw [h1, if_pos rfl]
    rw [hr] at hF
    have HF := Lib.hid hF
    have HO := Lib.hid h2
    clear hF hr h1 h2 ho
    go_enter Tryz.func72, Tryz.ntmps72
    go_big_wp2_with (go_at_call 112; refine (HF.out _).mono ?_; rintro e w1 ⟨rfl, rfl⟩)
    refine bodyPost_ret (results_row_tmp2 rfl _ _ w.heap.size 66 _ _ _ rfl (heap_alloc_new _ _) Tryz.underlying66 rfl (by kernel_rfl)) rfl ?_
    exact ⟨0, _, _, _, _, _, _, _, _, rfl, (Below.refl _ _).alloc (Nat.le_refl _) _, by rw [HO.out]; rfl⟩
  · have hr : findAtL (bl s) i [45, 45, 62] = ((i + k : Nat) : Int) := by unfold findAtL; rw [h1, if_neg (by omega)]; omega
    rw [hr] at hF
    have HF := Lib.hid hF
    rw [List.length_drop, hls] at h2
    have hik : (i : Int) ≤ ((i + k : Nat) : Int) := by omega
    have hiks : ((i + k : Nat) : Int) ≤ s.size := by omega
    obtain ⟨d, hd⟩ : ∃ d, s.extract i (i + k) = d := ⟨_, rfl⟩
    have hbd : bl d = ((bl s).drop i).take k := by rw [← hd, bl_extract, show i + k - i = k by omega]
    have hdz : d.size = k := by rw [← bl_length, hbd, List.length_take, List.length_drop, hls]; omega
    have hP1 := fun W => at04_any s ⟨#[62]⟩ i (by omega) (by decide) hi W
    have hP2 := fun W => at04_any s ⟨#[45, 62]⟩ i (by omega) (by decide) hi W
    have hC1 := fun W => find04_any d ⟨#[45, 45, 33, 62]⟩ 0 (by omega) (by decide) (by decide) (Nat.zero_le _) W
    have hC2 := fun W => find04_any d ⟨#[60, 33, 45, 45]⟩ 0 (by omega) (by decide) (by decide) (Nat.zero_le _) W
    rw [show bl (⟨#[62]⟩ : ByteArray) = [62] from rfl] at hP1
    rw [show bl (⟨#[45, 62]⟩ : ByteArray) = [45, 62] from rfl] at hP2
    rw [show bl (⟨#[45, 45, 33, 62]⟩ : ByteArray) = [45, 45, 33, 62] from rfl] at hC1
    rw [show bl (⟨#[60, 33, 45, 45]⟩ : ByteArray) = [60, 33, 45, 45] from rfl] at hC2
    rw [← hbd, contains_find, contains_find] at h3
    rw [List.drop_drop] at h3
    obtain ⟨r1, hr1⟩ : ∃ r, findAtL (bl d) 0 [45, 45, 33, 62] = r := ⟨_, rfl⟩
    obtain ⟨r2, hr2⟩ : ∃ r, findAtL (bl d) 0 [60, 33, 45, 45] = r := ⟨_, rfl⟩
    obtain ⟨p1, hp1⟩ : ∃ r, hasPrefix ((bl s).drop i) [62] = r := ⟨_, rfl⟩
    obtain ⟨p2, hp2⟩ : ∃ r, hasPrefix ((bl s).drop i) [45, 62] = r := ⟨_, rfl⟩
    rw [hr1] at hC1 h3
    rw [hr2] at hC2 h3
    rw [hp1] at hP1 h3
    rw [hp2] at hP2 h3
    have HP1 := Lib.hid hP1
    have HP2 := Lib.hid hP2
    have HC1 := Lib.hid hC1
    have HC2 := Lib.hid hC2
    have HO3 := Lib.hid h3
    clear hF hr h1 h3 ho hP1 hP2 hC1 hC2 hr1 hr2 hp1 hp2
    cases p1 with
    | true =>
      have HO : Hid (o = .error 43) := Lib.hid (by rw [HO3.out]; rfl)
      go_enter Tryz.func72, Tryz.ntmps72
      go_big_wp2_with (first
        | (go_at_call 112; refine (HF.out _).mono ?_; rintro e w1 ⟨rfl, rfl⟩)
        | (go_at_call_of 71 (Value.string ⟨#[62]⟩); refine (HP1.out _).mono ?_; rintro e w1 ⟨rfl, rfl⟩))
      refine bodyPost_ret (results_row_tmp2 rfl _ _ w.heap.size 66 _ _ _ rfl (heap_alloc_new _ _) Tryz.underlying66 rfl (by kernel_rfl)) rfl ?_
      exact ⟨0, _, _, _, _, _, _, _, _, rfl, (Below.refl _ _).alloc (Nat.le_refl _) _, by rw [HO.out]; rfl⟩
    | false =>
      cases p2 with
      | true =>
        have HO : Hid (o = .error 43) := Lib.hid (by rw [HO3.out]; rfl)
        go_enter Tryz.func72, Tryz.ntmps72
        go_big_wp2_with (first
          | (go_at_call 112; refine (HF.out _).mono ?_; rintro e w1 ⟨rfl, rfl⟩)
          | (go_at_call_of 71 (Value.string ⟨#[62]⟩); refine (HP1.out _).mono ?_; rintro e w1 ⟨rfl, rfl⟩)
          | (go_at_call_of 71 (Value.string ⟨#[45, 62]⟩); refine (HP2.out _).mono ?_; rintro e w1 ⟨rfl, rfl⟩))
        refine bodyPost_ret (results_row_tmp2 rfl _ _ w.heap.size 66 _ _ _ rfl (heap_alloc_new _ _) Tryz.underlying66 rfl (by kernel_rfl)) rfl ?_
        exact ⟨0, _, _, _, _, _, _, _, _, rfl, (Below.refl _ _).alloc (Nat.le_refl _) _, by rw [HO.out]; rfl⟩
      | false =>
        by_cases hr1 : 0 ≤ r1
        · have HO : Hid (o = .error 43) := Lib.hid (by rw [HO3.out]; simp [hr1])
          go_enter Tryz.func72, Tryz.ntmps72
          go_big_wp2_with (first
            | (go_at_call_of 112 (Value.string ⟨#[45, 45, 62]⟩); refine (HF.out _).mono ?_; rintro e w1 ⟨rfl, rfl⟩)
            | (go_at_call_of 112 (Value.string ⟨#[45, 45, 33, 62]⟩); refine (HC1.out _).mono ?_; rintro e w1 ⟨rfl, rfl⟩)
            | (go_at_call_of 112 (Value.string ⟨#[60, 33, 45, 45]⟩); refine (HC2.out _).mono ?_; rintro e w1 ⟨rfl, rfl⟩)
            | (go_at_call_of 71 (Value.string ⟨#[62]⟩); refine (HP1.out _).mono ?_; rintro e w1 ⟨rfl, rfl⟩)
            | (go_at_call_of 71 (Value.string ⟨#[45, 62]⟩); refine (HP2.out _).mono ?_; rintro e w1 ⟨rfl, rfl⟩))
          refine bodyPost_ret (results_row_tmp2 rfl _ _ w.heap.size 66 _ _ _ rfl (heap_alloc_new _ _) Tryz.underlying66 rfl (by kernel_rfl)) rfl ?_
          exact ⟨0, _, _, _, _, _, _, _, _, rfl, (Below.refl _ _).alloc (Nat.le_refl _) _, by rw [HO.out]; rfl⟩
        · by_cases hr2 : 0 ≤ r2
          · have HO : Hid (o = .error 43) := Lib.hid (by rw [HO3.out]; simp [hr2])
            go_enter Tryz.func72, Tryz.ntmps72
            go_big_wp2_with (first
              | (go_at_call_of 112 (Value.string ⟨#[45, 45, 62]⟩); refine (HF.out _).mono ?_; rintro e w1 ⟨rfl, rfl⟩)
              | (go_at_call_of 112 (Value.string ⟨#[45, 45, 33, 62]⟩); refine (HC1.out _).mono ?_; rintro e w1 ⟨rfl, rfl⟩)
              | (go_at_call_of 112 (Value.string ⟨#[60, 33, 45, 45]⟩); refine (HC2.out _).mono ?_; rintro e w1 ⟨rfl, rfl⟩)
              | (go_at_call_of 71 (Value.string ⟨#[62]⟩); refine (HP1.out _).mono ?_; rintro e w1 ⟨rfl, rfl⟩)
              | (go_at_call_of 71 (Value.string ⟨#[45, 62]⟩); refine (HP2.out _).mono ?_; rintro e w1 ⟨rfl, rfl⟩))
            refine bodyPost_ret (results_row_tmp2 rfl _ _ w.heap.size 66 _ _ _ rfl (heap_alloc_new _ _) Tryz.underlying66 rfl (by kernel_rfl)) rfl ?_
            exact ⟨0, _, _, _, _, _, _, _, _, rfl, (Below.refl _ _).alloc (Nat.le_refl _) _, by rw [HO.out]; rfl⟩
          · have hend : i + (k + 3) = i + k + 3 := by omega
            by_cases hk3 : 3 ≤ k
            · have hkI : (3 : Int) ≤ k := by omega
              have hk0 : (0 : Int) ≤ (k : Int) - 3 := by omega
              have hk1 : (k : Int) - 3 ≤ k := by omega
              obtain ⟨t, ht⟩ : ∃ t, d.extract (k - 3) k = t := ⟨_, rfl⟩
              have hsf := suffix_is (l := bl d) (p := [60, 33, 45])
              have hbt : bl t = (bl d).drop ((bl d).length - 3) := by
                rw [← ht, bl_extract, bl_length, hdz, List.take_of_length_le (by rw [List.length_drop, bl_length, hdz]; omega)]
              change hasSuffix (bl d) [60, 33, 45] = decide ((bl d).drop ((bl d).length - 3) = [60, 33, 45]) at hsf
              rw [← hbt] at hsf
              by_cases het : t = ⟨#[60, 33, 45]⟩
              · have HO : Hid (o = .error 43) := Lib.hid (by rw [HO3.out, hsf, het]; simp [show bl (⟨#[60, 33, 45]⟩ : ByteArray) = [60, 33, 45] from rfl])
                clear hsf hbt
                subst het
                go_enter Tryz.func72, Tryz.ntmps72
                go_big_wp2_with (first
                  | (go_at_call_of 112 (Value.string ⟨#[45, 45, 62]⟩); refine (HF.out _).mono ?_; rintro e w1 ⟨rfl, rfl⟩)
                  | (go_at_call_of 112 (Value.string ⟨#[45, 45, 33, 62]⟩); refine (HC1.out _).mono ?_; rintro e w1 ⟨rfl, rfl⟩)
                  | (go_at_call_of 112 (Value.string ⟨#[60, 33, 45, 45]⟩); refine (HC2.out _).mono ?_; rintro e w1 ⟨rfl, rfl⟩)
                  | (go_at_call_of 71 (Value.string ⟨#[62]⟩); refine (HP1.out _).mono ?_; rintro e w1 ⟨rfl, rfl⟩)
                  | (go_at_call_of 71 (Value.string ⟨#[45, 62]⟩); refine (HP2.out _).mono ?_; rintro e w1 ⟨rfl, rfl⟩))
                refine bodyPost_ret (results_row_tmp2 rfl _ _ w.heap.size 66 _ _ _ rfl (heap_alloc_new _ _) Tryz.underlying66 rfl (by kernel_rfl)) rfl ?_
                exact ⟨0, _, _, _, _, _, _, _, _, rfl, (Below.refl _ _).alloc (Nat.le_refl _) _, by rw [HO.out]; rfl⟩
              · have hne : ¬ bl t = [60, 33, 45] := fun e => het (ByteArray.ext (Array.toList_inj.1 e))
                have HO : Hid (o = .ok (⟨4, [], [], false, bl d⟩, (bl s).drop (i + k + 3))) := Lib.hid (by rw [HO3.out, hsf, hend]; simp [hr1, hr2, hne])
                have hn2 : ¬ t.toList = [60, 33, 45] := by rw [Lib.toList_data]; exact hne
                have hn4 : (t.toList == [60, 33, 45]) = false := beq_eq_false_iff_ne.2 hn2
                clear hsf hbt hne
                go_enter Tryz.func72, Tryz.ntmps72
                go_big_wp2_with (first
                  | (go_at_call_of 112 (Value.string ⟨#[45, 45, 62]⟩); refine (HF.out _).mono ?_; rintro e w1 ⟨rfl, rfl⟩)
                  | (go_at_call_of 112 (Value.string ⟨#[45, 45, 33, 62]⟩); refine (HC1.out _).mono ?_; rintro e w1 ⟨rfl, rfl⟩)
                  | (go_at_call_of 112 (Value.string ⟨#[60, 33, 45, 45]⟩); refine (HC2.out _).mono ?_; rintro e w1 ⟨rfl, rfl⟩)
                  | (go_at_call_of 71 (Value.string ⟨#[62]⟩); refine (HP1.out _).mono ?_; rintro e w1 ⟨rfl, rfl⟩)
                  | (go_at_call_of 71 (Value.string ⟨#[45, 62]⟩); refine (HP2.out _).mono ?_; rintro e w1 ⟨rfl, rfl⟩))
                refine bodyPost_ret (results_row_tmp2 rfl _ _ w.heap.size 66 _ _ _ rfl (heap_alloc_new _ _) Tryz.underlying66 rfl (by kernel_rfl)) rfl ?_
                exact ⟨4, ⟨#[]⟩, none, 0, 0, false, d, ((i + k + 3 : Nat) : Int), 0, by rw [show ((i + k + 3 : Nat) : Int) = (i : Int) + k + 3 by omega]; rfl, (Below.refl _ _).alloc (Nat.le_refl _) _, told_plain HO.out (by omega)⟩
            · have hkI : ¬ (3 : Int) ≤ k := by omega
              have HO : Hid (o = .ok (⟨4, [], [], false, bl d⟩, (bl s).drop (i + k + 3))) := Lib.hid (by rw [HO3.out, suffix_no (by rw [bl_length, hdz]; simp; omega), hend]; simp [hr1, hr2])
              go_enter Tryz.func72, Tryz.ntmps72
              go_big_wp2_with (first
                | (go_at_call_of 112 (Value.string ⟨#[45, 45, 62]⟩); refine (HF.out _).mono ?_; rintro e w1 ⟨rfl, rfl⟩)
                | (go_at_call_of 112 (Value.string ⟨#[45, 45, 33, 62]⟩); refine (HC1.out _).mono ?_; rintro e w1 ⟨rfl, rfl⟩)
                | (go_at_call_of 112 (Value.string ⟨#[60, 33, 45, 45]⟩); refine (HC2.out _).mono ?_; rintro e w1 ⟨rfl, rfl⟩)
                | (go_at_call_of 71 (Value.string ⟨#[62]⟩); refine (HP1.out _).mono ?_; rintro e w1 ⟨rfl, rfl⟩)
                | (go_at_call_of 71 (Value.string ⟨#[45, 62]⟩); refine (HP2.out _).mono ?_; rintro e w1 ⟨rfl, rfl⟩))
              refine bodyPost_ret (results_row_tmp2 rfl _ _ w.heap.size 66 _ _ _ rfl (heap_alloc_new _ _) Tryz.underlying66 rfl (by kernel_rfl)) rfl ?_
              exact ⟨4, ⟨#[]⟩, none, 0, 0, false, d, ((i + k + 3 : Nat) : Int), 0, by rw [show ((i + k + 3 : Nat) : Int) = (i : Int) + k + 3 by omega]; rfl, (Below.refl _ _).alloc (Nat.le_refl _) _, told_plain HO.out (by omega)⟩
end Go.Proofs.YtfjphhmbnhglcaaGreatDoor
namespace Go.TokenKit
open Go Go.Lib Go.CharrefKit
theorem skip_spec : ∀ {L : Bytes} {a : Nat}, a ≤ L.length → L.drop a = skipL L → (∀ (j : Nat) b, j < a → L[j]? = some b → blanks.contains b = true) ∧ (∀ b, L[a]? = some b → blanks.contains b = false)
  | [], a, ha, _ => by
    have : a = 0 := by simpa using ha
    subst this
    exact ⟨fun j b h => by omega, fun b h => by cases h⟩
  | x :: r, a, ha, h => by
    cases hx : blanks.contains x with
    | true =>
      have e : skipL (x :: r) = skipL r := by unfold skipL; rw [List.dropWhile_cons_of_pos hx]
      rw [e] at h
      cases a with
      | zero =>
        have h1 := congrArg List.length h
        have h2 := skip_len r
        rw [List.drop_zero, List.length_cons] at h1
        omega
      | succ a =>
        rw [List.drop_succ_cons] at h
        obtain ⟨h1, h2⟩ := skip_spec (by simpa using ha) h
        refine ⟨fun j b hj hb => ?_, fun b hb => h2 b (by simpa using hb)⟩
        cases j with
        | zero => simp at hb; subst hb; exact hx
        | succ j => exact h1 j b (by omega) (by simpa using hb)
    | false =>
      have e : skipL (x :: r) = x :: r := by unfold skipL; rw [List.dropWhile_cons_of_neg (by rw [hx]; decide)]
      rw [e] at h
      have h1 := congrArg List.length h
      rw [List.length_drop] at h1
      simp only [List.length_cons] at h1 ha
      have : a = 0 := by omega
      subst this
      exact ⟨fun j b h => by omega, fun b hb => by simp at hb; subst hb; exact hx⟩
/-- What is between, without the blanks about it. -/
theorem trim_is {L : Bytes} {k a c : Nat} (hk : k < L.length) (ha : a ≤ L.length) (hs : L.drop a = skipL L) (hac : a ≤ c) (hck : c ≤ k) (hb : ∀ (j : Nat) b, c ≤ j → j < k → L[j]? = some b → blanks.contains b = true) (he : a < c → ∀ b, L[c - 1]? = some b → blanks.contains b = false) :
    trimS (L.take k) blanks = (L.take c).drop a := by
  obtain ⟨s1, s2⟩ := skip_spec ha hs
  have hget : ∀ j, j < k → (L.take k)[j]? = L[j]? := fun j hj => by rw [List.getElem?_take, if_pos hj]
  have hnone : ∀ j, ¬ j < k → (L.take k)[j]? = none := fun j hj => by rw [List.getElem?_take, if_neg hj]
  unfold trimS
  by_cases hacc : a < c
  · have h1 : trimRightS (L.take k) blanks = L.take c := by
      rw [trimRightS_take (L.take k) blanks c (by rw [List.length_take]; omega) (fun j b hj hjb => ?_) (fun b _ hcb => ?_)]
      · rw [List.take_take, Nat.min_eq_left hck]
      · by_cases hjk : j < k
        · rw [hget j hjk] at hjb; exact hb j b hj hjk hjb
        · rw [hnone j hjk] at hjb; cases hjb
      · rw [hget _ (by omega)] at hcb; exact he hacc b hcb
    rw [h1, trimLeftS_drop (L.take c) blanks a (by rw [List.length_take]; omega) (fun j b hj hjb => ?_) (fun b hab => ?_)]
    · rw [List.getElem?_take, if_pos (by omega)] at hjb; exact s1 j b hj hjb
    · rw [List.getElem?_take, if_pos hacc] at hab; exact s2 b hab
  · obtain rfl : a = c := by omega
    have h1 : trimRightS (L.take k) blanks = [] := by
      rw [trimRightS_take (L.take k) blanks 0 (Nat.zero_le _) (fun j b _ hjb => ?_) (fun b h _ => by omega)]
      · rfl
      · by_cases hjk : j < k
        · rw [hget j hjk] at hjb
          by_cases hja : j < a
          · exact s1 j b hja hjb
          · exact hb j b (by omega) hjk hjb
        · rw [hnone j hjk] at hjb; cases hjb
    rw [h1, trimLeftS_nil, List.drop_eq_nil_of_le (by rw [List.length_take]; omega)]
/-- The blanks end ahead of a sign that is none. -/
theorem skip_le {L : Bytes} {k a : Nat} (h62 : L[k]? = some 62) (ha : a ≤ L.length) (hs : L.drop a = skipL L) : a ≤ k := by
  obtain ⟨s1, _⟩ := skip_spec ha hs
  rcases Nat.lt_or_ge k a with h | h
  · have := s1 k 62 h h62
    cases this
  · exact h
/-- The document's answer to what begins with <! and is no comment. -/
def markedL (l : Bytes) : Except Nat (Tok × Bytes) := if smallL (l.take 9) = doctypeB then doctypeL (l.drop 9) else .error 43
theorem doctype_is (l : Bytes) : (Lib.index l [62] = -1 ∧ doctypeL l = .error 43) ∨ (∃ k : Nat, Lib.index l [62] = k ∧ k + 1 ≤ l.length ∧ l[k]? = some 62 ∧ doctypeL l = .ok (⟨5, [], [], false, trimS (l.take k) blanks⟩, l.drop (k + 1))) := by
  have hge := Lib.index_ge l [62]
  by_cases h0 : 0 ≤ Lib.index l [62]
  · right
    have hroom := Lib.index_room l [62] h0
    simp only [List.length_cons, List.length_nil] at hroom
    obtain ⟨k, hk⟩ : ∃ k : Nat, Lib.index l [62] = k := ⟨(Lib.index l [62]).toNat, by omega⟩
    have hocc : Lib.occAt l [62] k = true := by
      rcases Lib.index_spec l [62] with ⟨h1, _⟩ | ⟨i, h1, _, h3, _⟩
      · omega
      · have : i = k := by omega
        rw [← this]; exact h3
    obtain ⟨r, hr⟩ := List.isPrefixOf_iff_prefix.1 (show [62].isPrefixOf (l.drop k) = true from hocc)
    refine ⟨k, hk, by omega, ?_, ?_⟩
    · have h1 : (l.drop k)[0]? = some 62 := by rw [← hr]; rfl
      rw [List.getElem?_drop] at h1
      simpa using h1
    · unfold doctypeL
      have hcut : cut l [62] = (l.take k, l.drop (k + 1), true) := by
        unfold cut
        rw [hk]
        simp
      rw [hcut]
      rfl
  · left
    refine ⟨by omega, ?_⟩
    unfold doctypeL
    have hcut : (cut l [62]).2.2 = false := by unfold cut; rw [if_neg h0]
    rw [hcut]
    rfl
end Go.TokenKit
namespace Go.Proofs.YtfjphhmbnhglcaaGreatDoor
open Go.RowKit Go.RunKit Go.CharrefKit Go.Lib Go.TokenKit
theorem told_any {o : Except Nat (Tok × Bytes)} {s : ByteArray} {base kd : Nat} {d : ByteArray} {q : Nat} {l : Bytes} {W : World} (h : o = .ok (⟨kd, [], [], false, l⟩, (bl s).drop q)) (hl : bl d = l) (hq : q ≤ s.size) :
    ToldZ o s base kd ⟨#[]⟩ none 0 0 false d q 0 W := by
  subst h; subst hl
  exact ⟨rfl, ⟨q, rfl, hq, rfl⟩, rfl, rfl, World.ownsRow_nil _ _ _ _, rfl, rfl⟩

set_option maxRecDepth 100000 in
set_option maxHeartbeats 2000000 in
theorem doctype04_any (s : ByteArray) (i : Nat) (hs : s.size ≤ 524288) (hi : i ≤ s.size) (w : World) :
    Calls Tryz.prog 73 #[.string s, .int .i64 (i : Nat)] w fun e w' => AnsZ (markedL ((bl s).drop i)) s w e w' := by
  have hls := bl_length s
  obtain ⟨o, ho⟩ : ∃ o, markedL ((bl s).drop i) = o := ⟨_, rfl⟩
  rw [ho]
  by_cases h9 : i + 9 ≤ s.size
  · have hI : ¬ (s.size : Int) < (i : Int) + 9 := by omega
    have hI2 : (i : Int) ≤ (i : Int) + 9 := by omega
    have hI3 : (i : Int) + 9 ≤ s.size := by omega
    obtain ⟨x, hx⟩ : ∃ x, s.extract i (i + 9) = x := ⟨_, rfl⟩
    have hbx : bl x = ((bl s).drop i).take 9 := by rw [← hx, bl_extract, show i + 9 - i = 9 by omega]
    have hS := fun W => refSmall_any x (by rw [← bl_length, hbx, List.length_take]; omega) W
    rw [hbx] at hS
    obtain ⟨sm, hsm⟩ : ∃ sm : ByteArray, (⟨(smallL (((bl s).drop i).take 9)).toArray⟩ : ByteArray) = sm := ⟨_, rfl⟩
    have hbs : bl sm = smallL (((bl s).drop i).take 9) := by rw [← hsm, bl_of]
    rw [hsm] at hS
    have HS := Lib.hid hS
    have HZ : Hid (∀ W, Below (w.heap.size + 1) (w.alloc (.cells #[.int .u8 0, .string ⟨#[]⟩, .slice none 0 0, .bool false, .string ⟨#[]⟩] 66)) W → W.heap[w.heap.size]? = some (.cells #[.int .u8 0, .string ⟨#[]⟩, .slice none 0 0, .bool false, .string ⟨#[]⟩] 66 (0, 0)) ∧ Below w.heap.size w W) :=
      Lib.hid fun W hb => ⟨by rw [hb.block _ (by omega)]; exact heap_alloc_new w _, ((Below.refl w.heap.size w).alloc (Nat.le_refl _) _).trans (hb.mono (Nat.le_succ _))⟩
    clear hS hbx hsm
    by_cases hd : sm = ⟨#[60, 33, 100, 111, 99, 116, 121, 112, 101]⟩
    · have hm : markedL ((bl s).drop i) = doctypeL ((bl s).drop (i + 9)) := by
        unfold markedL
        rw [← hbs, hd, if_pos (show bl (⟨#[60, 33, 100, 111, 99, 116, 121, 112, 101]⟩ : ByteArray) = doctypeB from rfl), List.drop_drop]
      rw [hm] at ho
      subst hd
      have hF := fun W => find04_any s ⟨#[62]⟩ (i + 9) (by omega) (by decide) (by decide) h9 W
      rw [show bl (⟨#[62]⟩ : ByteArray) = [62] from rfl] at hF
      rcases doctype_is ((bl s).drop (i + 9)) with ⟨h1, h2⟩ | ⟨k, h1, h2, h62, h3⟩
      · have hr : findAtL (bl s) (i + 9) [62] = -1 := by unfold findAtL; rw [h1, if_pos rfl]
        rw [hr] at hF
        have HF := Lib.hid hF
        have HO := Lib.hid (ho.symm.trans h2)
        clear hF hr h1 h2 ho hm hbs
        go_enter Tryz.func73, Tryz.ntmps73
        go_big_wp2_with (first
          | (go_at_call 37; refine (HS.out _).mono ?_; rintro e w1 ⟨rfl, hb1⟩; obtain ⟨hz1, hz2⟩ := HZ.out w1 (by simpa using hb1); have HB1 := Lib.hid hz2; have HZ1 := Lib.hid hz1; obtain ⟨⟨r0, r1, r2, r3, r4⟩, s0, s1, s2, s3, s4⟩ := local5 hz1; clear hz1 hz2 hb1)
          | (go_at_call 112; refine (HF.out _).mono ?_; rintro e w2 ⟨rfl, rfl⟩))
        refine bodyPost_ret (results_row_tmp2 rfl _ _ w.heap.size 66 _ _ _ rfl (set5 HZ1.out) Tryz.underlying66 rfl (by kernel_rfl)) rfl ?_
        exact ⟨0, _, _, _, _, _, _, _, _, rfl, ((((HB1.out.setCell (Nat.le_refl _) _).setCell (Nat.le_refl _) _).setCell (Nat.le_refl _) _).setCell (Nat.le_refl _) _).setCell (Nat.le_refl _) _, by rw [HO.out]; rfl⟩
      · have hr : findAtL (bl s) (i + 9) [62] = ((i + 9 + k : Nat) : Int) := by unfold findAtL; rw [h1, if_neg (by omega)]; omega
        rw [hr] at hF
        have HF := Lib.hid hF
        rw [List.length_drop, hls] at h2
        have HFin := Lib.hid fun (q c : Nat) (hq1 : i + 9 ≤ q) (hq2 : q ≤ s.size) (hq3 : (bl s).drop q = skipL ((bl s).drop (i + 9))) (hqc : q ≤ c) (hck : c ≤ i + 9 + k) (hb : ∀ (j : Nat) b, c ≤ j → j < i + 9 + k → (bl s)[j]? = some b → blanks.contains b = true) (he : q < c → ∀ b, (bl s)[c - 1]? = some b → blanks.contains b = false) =>
          (show o = .ok (⟨5, [], [], false, bl (s.extract q c)⟩, (bl s).drop (i + 9 + k + 1)) by
            rw [← ho, h3, List.drop_drop, show i + 9 + (k + 1) = i + 9 + k + 1 by omega]
            rw [trim_is (L := (bl s).drop (i + 9)) (k := k) (a := q - (i + 9)) (c := c - (i + 9)) (by rw [List.length_drop, hls]; omega) (by rw [List.length_drop, hls]; omega) (by rw [List.drop_drop, show i + 9 + (q - (i + 9)) = q by omega]; exact hq3) (by omega) (by omega)
              (fun j b hj hjk hjb => hb (i + 9 + j) b (by omega) (by omega) (by rw [List.getElem?_drop] at hjb; exact hjb))
              (fun hlt b hcb => he (by omega) b (by rw [List.getElem?_drop, show i + 9 + (c - (i + 9) - 1) = c - 1 by omega] at hcb; exact hcb))]
            rw [List.drop_take, List.drop_drop, show i + 9 + (q - (i + 9)) = q by omega, show c - (i + 9) - (q - (i + 9)) = c - q by omega, bl_extract])
        have HQ := Lib.hid fun (q : Nat) (hq1 : i + 9 ≤ q) (hq2 : q ≤ s.size) (hq3 : (bl s).drop q = skipL ((bl s).drop (i + 9))) => (show q ≤ i + 9 + k by
          have := skip_le (L := (bl s).drop (i + 9)) (k := k) (a := q - (i + 9)) h62 (by rw [List.length_drop, hls]; omega) (by rw [List.drop_drop, show i + 9 + (q - (i + 9)) = q by omega]; exact hq3)
          omega)
        clear hF hr h1 h3 h62 ho hm hbs
        go_enter Tryz.func73, Tryz.ntmps73
        go_big_wp2_with (first
          | (go_at_call 37; refine (HS.out _).mono ?_; rintro e w1 ⟨rfl, hb1⟩; obtain ⟨hz1, hz2⟩ := HZ.out w1 (by simpa using hb1); have HB1 := Lib.hid hz2; have HZ1 := Lib.hid hz1; obtain ⟨⟨r0, r1, r2, r3, r4⟩, s0, s1, s2, s3, s4⟩ := local5 hz1; clear hz1 hz2 hb1)
          | (go_at_call 112; refine (HF.out _).mono ?_; rintro e w2 ⟨rfl, rfl⟩)
          | (go_at_call 110; refine (skip04_any s (i + 9) (by omega) h9 _).mono ?_; rintro e w3 ⟨q, rfl, hq1, hq2, hq3, rfl⟩; have HQ3 := Lib.hid hq3; have hqk := HQ.out q hq1 hq2 hq3; clear hq3))
        go_loop [10] (fun v => ∃ c : Nat, v = .int .i64 (c : Nat) ∧ q ≤ c ∧ c ≤ i + 9 + k ∧ Hid (∀ (j : Nat) b, c ≤ j → j < i + 9 + k → (bl s)[j]? = some b → blanks.contains b = true)) (fun v => (RowKit.intOf v).toNat)
        case atStart => exact ⟨i + 9 + k, by go_num, hqk, Nat.le_refl _, Lib.hid fun j b h1 h2 => by omega⟩
        case round =>
          obtain ⟨c, rfl, hqc, hck, HN⟩ := hrel
          by_cases hc : q < c
          · obtain ⟨c', rfl⟩ : ∃ c', c = c' + 1 := ⟨c - 1, by omega⟩
            have hgt : (q : Int) < (c' : Int) + 1 := by omega
            have hcs : c' < s.size := by omega
            have hcsI : (c' : Int) < s.size := by omega
            obtain ⟨y, hy⟩ : ∃ y, s[c']'hcs = y := ⟨_, rfl⟩
            have hyl : (bl s)[c']? = some y := by rw [← hy]; exact Lib.data_getElem? s c' hcs
            have HY := Lib.hid hyl
            have hB := fun w => blank04_any y.toNat y.toNat_lt w
            rw [← blank_eq] at hB
            cases hz : blanks.contains y with
            | true =>
              rw [hz] at hB
              have HBk := Lib.hid hB
              have HZz := Lib.hid hz
              clear hB hz hyl
              go_big_wp2_with (go_at_call 113; refine (HBk.out _).mono ?_; rintro e w4 ⟨rfl, rfl⟩)
              refine ⟨⟨c', by go_num, by omega, by omega, Lib.hid fun j b h1 h2 h3 => ?_⟩, by simp [RowKit.intOf]⟩
              by_cases e : j = c'
              · subst e; rw [HY.out] at h3; cases h3; exact HZz.out
              · exact HN.out j b (by omega) h2 h3
            | false =>
              rw [hz] at hB
              have HBk := Lib.hid hB
              have HE := Lib.hid (HFin.out q (c' + 1) hq1 hq2 HQ3.out hqc hck HN.out (fun _ b h => by rw [show c' + 1 - 1 = c' by omega, HY.out] at h; cases h; exact hz))
              have hmin : min (q : Int) ((c' : Int) + 1) = q := by omega
              have hqI : (q : Int) ≤ (c' : Int) + 1 := by omega
              have hcI : (c' : Int) + 1 ≤ s.size := by omega
              clear hB hz hyl
              go_big_wp2_with (go_at_call 113; refine (HBk.out _).mono ?_; rintro e w4 ⟨rfl, rfl⟩)
              refine bodyPost_ret (results_row_tmp2 rfl _ _ w.heap.size 66 _ _ _ rfl (set5 HZ1.out) Tryz.underlying66 rfl (by kernel_rfl)) rfl ?_
              exact ⟨5, ⟨#[]⟩, none, 0, 0, false, s.extract q (c' + 1), ((i + 9 + k + 1 : Nat) : Int), 0, by rw [show ((i + 9 + k + 1 : Nat) : Int) = (i : Int) + 9 + k + 1 by omega]; rfl, ((((HB1.out.setCell (Nat.le_refl _) _).setCell (Nat.le_refl _) _).setCell (Nat.le_refl _) _).setCell (Nat.le_refl _) _).setCell (Nat.le_refl _) _, told_any HE.out rfl (by omega)⟩
          · obtain rfl : c = q := by omega
            have HE := Lib.hid (HFin.out c c hq1 hq2 HQ3.out hqc hck HN.out (fun h => by omega))
            have hcI : (c : Int) ≤ s.size := by omega
            go_big_wp2
            refine bodyPost_ret (results_row_tmp2 rfl _ _ w.heap.size 66 _ _ _ rfl (set5 HZ1.out) Tryz.underlying66 rfl (by kernel_rfl)) rfl ?_
            exact ⟨5, ⟨#[]⟩, none, 0, 0, false, ByteArray.empty, ((i + 9 + k + 1 : Nat) : Int), 0, by rw [show ((i + 9 + k + 1 : Nat) : Int) = (i : Int) + 9 + k + 1 by omega]; rfl, ((((HB1.out.setCell (Nat.le_refl _) _).setCell (Nat.le_refl _) _).setCell (Nat.le_refl _) _).setCell (Nat.le_refl _) _).setCell (Nat.le_refl _) _, told_any HE.out (by rw [bl_extract, Nat.sub_self]; rfl) (by omega)⟩
    · have hne : ¬ smallL (((bl s).drop i).take 9) = doctypeB := fun e => hd (ByteArray.ext (Array.toList_inj.1 (hbs.trans e)))
      have HO : Hid (o = .error 43) := Lib.hid (by rw [← ho]; unfold markedL; rw [if_neg hne])
      have hn2 : ¬ sm.toList = [60, 33, 100, 111, 99, 116, 121, 112, 101] := by rw [Lib.toList_data]; intro e; exact hne (hbs.symm.trans e)
      have hn4 : (sm.toList == [60, 33, 100, 111, 99, 116, 121, 112, 101]) = false := beq_eq_false_iff_ne.2 hn2
      clear hne hbs ho
      go_enter Tryz.func73, Tryz.ntmps73
      go_big_wp2_with (go_at_call 37; refine (HS.out _).mono ?_; rintro e w1 ⟨rfl, hb1⟩; obtain ⟨hz1, hz2⟩ := HZ.out w1 (by simpa using hb1); have HB1 := Lib.hid hz2; have HZ1 := Lib.hid hz1; obtain ⟨⟨r0, r1, r2, r3, r4⟩, s0, s1, s2, s3, s4⟩ := local5 hz1; clear hz1 hz2 hb1)
      refine bodyPost_ret (results_row_tmp2 rfl _ _ w.heap.size 66 _ _ _ rfl (set5 HZ1.out) Tryz.underlying66 rfl (by kernel_rfl)) rfl ?_
      exact ⟨0, _, _, _, _, _, _, _, _, rfl, ((((HB1.out.setCell (Nat.le_refl _) _).setCell (Nat.le_refl _) _).setCell (Nat.le_refl _) _).setCell (Nat.le_refl _) _).setCell (Nat.le_refl _) _, by rw [HO.out]; rfl⟩
  · have hI : (s.size : Int) < (i : Int) + 9 := by omega
    have hne : ¬ smallL (((bl s).drop i).take 9) = doctypeB := fun e => by
      have h1 := congrArg List.length e
      simp only [smallL, List.length_map, List.length_take, List.length_drop, hls] at h1
      have h2 : doctypeB.length = 9 := rfl
      omega
    have HO : Hid (o = .error 43) := Lib.hid (by rw [← ho]; unfold markedL; rw [if_neg hne])
    clear hne ho
    go_enter Tryz.func73, Tryz.ntmps73
    go_big_wp2
    refine bodyPost_ret (results_row_tmp2 rfl _ _ w.heap.size 66 _ _ _ rfl (heap_alloc_new _ _) Tryz.underlying66 rfl (by kernel_rfl)) rfl ?_
    exact ⟨0, _, _, _, _, _, _, _, _, rfl, (Below.refl _ _).alloc (Nat.le_refl _) _, by rw [HO.out]; rfl⟩
end Go.Proofs.YtfjphhmbnhglcaaGreatDoor
namespace Go.Proofs.YtfjphhmbnhglcaaGreatDoor
open Go.RowKit Go.RunKit Go.CharrefKit Go.Lib Go.TokenKit
theorem toldZ_new {o : Except Nat (Tok × Bytes)} {s : ByteArray} {base base' kd : Nat} {nm : ByteArray} {ao : Option Addr} {m cap : Nat} {sf : Bool} {d : ByteArray} {k e : Int} {W : World} {g : Nat} {cs : Array Value} {T : TypeId} (h : ToldZ o s base' kd nm ao m cap sf d k e W) (hb : base ≤ base') (hk : W.heap[g]? = some (.cells cs T (0, 0))) (hT : T ≠ TAt) (v0 v1 v2 v3 v4 : Value) :
    ToldZ o s base kd nm ao m cap sf d k e (((((W.setCell ⟨g, 0, none⟩ v0).setCell ⟨g, 1, none⟩ v1).setCell ⟨g, 2, none⟩ v2).setCell ⟨g, 3, none⟩ v3).setCell ⟨g, 4, none⟩ v4) := by
  cases o with
  | error x => exact h
  | ok x =>
    obtain ⟨t, r⟩ := x
    obtain ⟨h1, h2, h3, h4, h5, h6, h7⟩ := h
    exact ⟨h1, h2, h3, h4, (h5.mono hb).newrow hk hT _ _ _ _ _, h6, h7⟩
/-- The document's tags, read at a place. -/
structure TagsZ (s : ByteArray) : Prop where
  start : ∀ (j : Nat) (hj : j < s.size) W, isL (s[j]'hj) = true → Calls Tryz.prog 70 #[.string s, .int .i64 (j : Nat), .int .u8 1] W fun e w' => AnsZ (tagL 1 ((bl s).drop j)) s W e w'
  end_ : ∀ (j : Nat) (hj : j < s.size) W, isL (s[j]'hj) = true → Calls Tryz.prog 70 #[.string s, .int .i64 (j : Nat), .int .u8 2] W fun e w' => AnsZ (endL ((bl s).drop j)) s W e w'

set_option maxRecDepth 100000 in
set_option maxHeartbeats 2000000 in
theorem oneMark_of (s : ByteArray) (i : Nat) (hs : s.size ≤ 524288) (hi : i < s.size) (HT : TagsZ s) (hmk : markL ((bl s).drop i) = true) (w : World) :
    Calls Tryz.prog 40 #[.string s, .int .i64 (i : Nat)] w fun e w' => AnsZ (oneL ((bl s).drop i)) s w e w' := by
  have hls := bl_length s
  have h2 := mark_two hmk
  rw [List.length_drop, hls] at h2
  have h1 : i + 1 < s.size := by omega
  have h1I : (i : Int) + 1 < s.size := by omega
  have hB := fun W => begins04_any s i (by omega) (by omega) W
  rw [hmk] at hB
  have HB := Lib.hid hB
  obtain ⟨y, hy⟩ : ∃ y, s[i + 1]'h1 = y := ⟨_, rfl⟩
  have hg : ((bl s).drop i).getD 1 0 = y := by
    rw [drop_at hi, drop_at h1, hy]; rfl
  have e1 : oneL ((bl s).drop i) = if isL y then tagL 1 ((bl s).drop (i + 1)) else if y = 47 then endL ((bl s).drop (i + 2)) else if Lib.hasPrefix ((bl s).drop i) [60, 33, 45, 45] then commentL ((bl s).drop (i + 4)) else markedL ((bl s).drop i) := by
    unfold oneL markedL
    rw [hmk, hg, if_pos rfl]
    simp only [List.drop_drop]
  have HZ : Hid (∀ W, Below (w.heap.size + 1) (w.alloc (.cells #[.int .u8 0, .string ⟨#[]⟩, .slice none 0 0, .bool false, .string ⟨#[]⟩] 66)) W → W.heap[w.heap.size]? = some (.cells #[.int .u8 0, .string ⟨#[]⟩, .slice none 0 0, .bool false, .string ⟨#[]⟩] 66 (0, 0)) ∧ Below w.heap.size w W) :=
    Lib.hid fun W hb => ⟨by rw [hb.block _ (by omega)]; exact heap_alloc_new w _, ((Below.refl w.heap.size w).alloc (Nat.le_refl _) _).trans (hb.mono (Nat.le_succ _))⟩
  have HL := Lib.hid (letter04_any y.toNat y.toNat_lt)
  have HTT := Lib.hid HT
  obtain ⟨o, ho⟩ : ∃ o, oneL ((bl s).drop i) = o := ⟨_, rfl⟩
  rw [ho] at e1 ⊢
  clear hB hg hmk HT ho h2
  cases hl : isL y with
  | true =>
    rw [show isLet y.toNat = true from hl] at HL
    rw [hl, if_pos rfl] at e1
    have HTg := Lib.hid fun W => HTT.out.start (i + 1) h1 W (by rw [hy]; exact hl)
    subst e1
    clear hl
    go_enter Tryz.func40, Tryz.ntmps40
    go_big_wp2_with (first
      | (go_at_call 69; refine (HB.out _).mono ?_; rintro e w1 ⟨rfl, rfl⟩)
      | (go_at_call 35; refine (HL.out _).mono ?_; rintro e w1 ⟨rfl, rfl⟩)
      | (go_at_call 70; refine (HTg.out _).mono ?_; rintro e w1 ⟨kd, nm, ao, m, cap, sf, d, k, er, rfl, hb1, ht⟩; obtain ⟨hz1, hz2⟩ := HZ.out w1 (by simpa using hb1); have HB1 := Lib.hid hz2; have HZ1 := Lib.hid hz1; have HTd := Lib.hid ht; obtain ⟨⟨r0, r1, r2, r3, r4⟩, s0, s1, s2, s3, s4⟩ := local5 hz1; clear hz1 hz2 hb1 ht))
    refine bodyPost_ret (results_row_tmp2 rfl _ _ w.heap.size 66 _ _ _ rfl (set5 HZ1.out) Tryz.underlying66 rfl (by kernel_rfl)) rfl ?_
    exact ⟨kd, nm, ao, m, cap, sf, d, k, er, rfl, ((((HB1.out.setCell (Nat.le_refl _) _).setCell (Nat.le_refl _) _).setCell (Nat.le_refl _) _).setCell (Nat.le_refl _) _).setCell (Nat.le_refl _) _, toldZ_new HTd.out (by simp) HZ1.out (by decide) _ _ _ _ _⟩
  | false =>
    rw [show isLet y.toNat = false from hl] at HL
    rw [hl, if_neg (by decide)] at e1
    clear hl
    by_cases h47 : y = 47
    · have hi47 : ((y.toNat : Int) == 47) = true := by subst h47; rfl
      rw [if_pos h47] at e1
      clear h47
      by_cases h3 : i + 2 < s.size
      · have h3I : (i : Int) + 2 < s.size := by omega
        have h3b : ((i : Int) + 2 == (s.size : Int)) = false := by rw [beq_eq_false_iff_ne]; omega
        obtain ⟨z, hz⟩ : ∃ z, s[i + 2]'h3 = z := ⟨_, rfl⟩
        have HL2 := Lib.hid (letter04_any z.toNat z.toNat_lt)
        cases hlz : isL z with
        | true =>
          have HTg := Lib.hid fun W => HTT.out.end_ (i + 2) h3 W (by rw [hz]; exact hlz)
          rw [show isLet z.toNat = true from hlz] at HL2
          subst e1
          clear hlz
          go_enter Tryz.func40, Tryz.ntmps40
          go_big_wp2_with (first
            | (go_at_call 69; refine (HB.out _).mono ?_; rintro e w1 ⟨rfl, rfl⟩)
            | (go_at_call_of 35 (Value.int .u8 y.toNat); refine (HL.out _).mono ?_; rintro e w1 ⟨rfl, rfl⟩)
            | (go_at_call_of 35 (Value.int .u8 z.toNat); refine (HL2.out _).mono ?_; rintro e w1 ⟨rfl, rfl⟩)
            | (go_at_call 70; refine (HTg.out _).mono ?_; rintro e w1 ⟨kd, nm, ao, m, cap, sf, d, k, er, rfl, hb1, ht⟩; obtain ⟨hz1, hz2⟩ := HZ.out w1 (by simpa using hb1); have HB1 := Lib.hid hz2; have HZ1 := Lib.hid hz1; have HTd := Lib.hid ht; obtain ⟨⟨r0, r1, r2, r3, r4⟩, s0, s1, s2, s3, s4⟩ := local5 hz1; clear hz1 hz2 hb1 ht))
          refine bodyPost_ret (results_row_tmp2 rfl _ _ w.heap.size 66 _ _ _ rfl (set5 HZ1.out) Tryz.underlying66 rfl (by kernel_rfl)) rfl ?_
          exact ⟨kd, nm, ao, m, cap, sf, d, k, er, rfl, ((((HB1.out.setCell (Nat.le_refl _) _).setCell (Nat.le_refl _) _).setCell (Nat.le_refl _) _).setCell (Nat.le_refl _) _).setCell (Nat.le_refl _) _, toldZ_new HTd.out (by simp) HZ1.out (by decide) _ _ _ _ _⟩
        | false =>
          rw [show isLet z.toNat = false from hlz] at HL2
          have HO : Hid (o = .error 40) := Lib.hid (by rw [e1, drop_at h3, hz, endL_cons, hlz]; rfl)
          clear hlz e1
          go_enter Tryz.func40, Tryz.ntmps40
          go_big_wp2_with (first
            | (go_at_call 69; refine (HB.out _).mono ?_; rintro e w1 ⟨rfl, rfl⟩)
            | (go_at_call_of 35 (Value.int .u8 y.toNat); refine (HL.out _).mono ?_; rintro e w1 ⟨rfl, rfl⟩)
            | (go_at_call_of 35 (Value.int .u8 z.toNat); refine (HL2.out _).mono ?_; rintro e w1 ⟨rfl, rfl⟩))
          refine bodyPost_ret (results_row_tmp2 rfl _ _ w.heap.size 66 _ _ _ rfl (heap_alloc_new _ _) Tryz.underlying66 rfl (by kernel_rfl)) rfl ?_
          exact ⟨0, _, _, _, _, _, _, _, _, rfl, (Below.refl _ _).alloc (Nat.le_refl _) _, by rw [HO.out]; rfl⟩
      · have h3b : ((i : Int) + 2 == (s.size : Int)) = true := by rw [beq_iff_eq]; omega
        have HO : Hid (o = .error 40) := Lib.hid (by rw [e1, List.drop_eq_nil_of_le (by omega)]; rfl)
        clear e1
        go_enter Tryz.func40, Tryz.ntmps40
        go_big_wp2_with (first
          | (go_at_call 69; refine (HB.out _).mono ?_; rintro e w1 ⟨rfl, rfl⟩)
          | (go_at_call_of 35 (Value.int .u8 y.toNat); refine (HL.out _).mono ?_; rintro e w1 ⟨rfl, rfl⟩))
        refine bodyPost_ret (results_row_tmp2 rfl _ _ w.heap.size 66 _ _ _ rfl (heap_alloc_new _ _) Tryz.underlying66 rfl (by kernel_rfl)) rfl ?_
        exact ⟨0, _, _, _, _, _, _, _, _, rfl, (Below.refl _ _).alloc (Nat.le_refl _) _, by rw [HO.out]; rfl⟩
    · have hi47 : ((y.toNat : Int) == 47) = false := by
        rw [beq_eq_false_iff_ne]; intro e; apply h47; apply UInt8.toNat_inj.1; show y.toNat = 47; omega
      rw [if_neg h47] at e1
      clear h47
      have hA := fun W => at04_any s ⟨#[60, 33, 45, 45]⟩ i (by omega) (by decide) (by omega) W
      rw [show bl (⟨#[60, 33, 45, 45]⟩ : ByteArray) = [60, 33, 45, 45] from rfl] at hA
      cases hp : Lib.hasPrefix ((bl s).drop i) [60, 33, 45, 45] with
      | true =>
        rw [hp] at hA
        rw [hp, if_pos rfl] at e1
        have HA := Lib.hid hA
        have h4 : i + 4 ≤ s.size := by
          have := (List.isPrefixOf_iff_prefix.1 hp).length_le
          rw [List.length_drop, hls] at this
          simp only [List.length_cons, List.length_nil] at this
          omega
        subst e1
        clear hA hp
        go_enter Tryz.func40, Tryz.ntmps40
        go_big_wp2_with (first
          | (go_at_call 69; refine (HB.out _).mono ?_; rintro e w1 ⟨rfl, rfl⟩)
          | (go_at_call_of 35 (Value.int .u8 y.toNat); refine (HL.out _).mono ?_; rintro e w1 ⟨rfl, rfl⟩)
          | (go_at_call 71; refine (HA.out _).mono ?_; rintro e w1 ⟨rfl, rfl⟩)
          | (go_at_call 72; refine (comment04_any s (i + 4) (by omega) h4 _).mono ?_; rintro e w1 ⟨kd, nm, ao, m, cap, sf, d, k, er, rfl, hb1, ht⟩; obtain ⟨hz1, hz2⟩ := HZ.out w1 (by simpa using hb1); have HB1 := Lib.hid hz2; have HZ1 := Lib.hid hz1; have HTd := Lib.hid ht; obtain ⟨⟨r0, r1, r2, r3, r4⟩, s0, s1, s2, s3, s4⟩ := local5 hz1; clear hz1 hz2 hb1 ht))
        refine bodyPost_ret (results_row_tmp2 rfl _ _ w.heap.size 66 _ _ _ rfl (set5 HZ1.out) Tryz.underlying66 rfl (by kernel_rfl)) rfl ?_
        exact ⟨kd, nm, ao, m, cap, sf, d, k, er, rfl, ((((HB1.out.setCell (Nat.le_refl _) _).setCell (Nat.le_refl _) _).setCell (Nat.le_refl _) _).setCell (Nat.le_refl _) _).setCell (Nat.le_refl _) _, toldZ_new HTd.out (by simp) HZ1.out (by decide) _ _ _ _ _⟩
      | false =>
        rw [hp] at hA
        rw [hp, if_neg (by decide)] at e1
        have HA := Lib.hid hA
        subst e1
        clear hA hp
        go_enter Tryz.func40, Tryz.ntmps40
        go_big_wp2_with (first
          | (go_at_call 69; refine (HB.out _).mono ?_; rintro e w1 ⟨rfl, rfl⟩)
          | (go_at_call_of 35 (Value.int .u8 y.toNat); refine (HL.out _).mono ?_; rintro e w1 ⟨rfl, rfl⟩)
          | (go_at_call 71; refine (HA.out _).mono ?_; rintro e w1 ⟨rfl, rfl⟩)
          | (go_at_call 73; refine (doctype04_any s i hs (by omega) _).mono ?_; rintro e w1 ⟨kd, nm, ao, m, cap, sf, d, k, er, rfl, hb1, ht⟩; obtain ⟨hz1, hz2⟩ := HZ.out w1 (by simpa using hb1); have HB1 := Lib.hid hz2; have HZ1 := Lib.hid hz1; have HTd := Lib.hid ht; obtain ⟨⟨r0, r1, r2, r3, r4⟩, s0, s1, s2, s3, s4⟩ := local5 hz1; clear hz1 hz2 hb1 ht))
        refine bodyPost_ret (results_row_tmp2 rfl _ _ w.heap.size 66 _ _ _ rfl (set5 HZ1.out) Tryz.underlying66 rfl (by kernel_rfl)) rfl ?_
        exact ⟨kd, nm, ao, m, cap, sf, d, k, er, rfl, ((((HB1.out.setCell (Nat.le_refl _) _).setCell (Nat.le_refl _) _).setCell (Nat.le_refl _) _).setCell (Nat.le_refl _) _).setCell (Nat.le_refl _) _, toldZ_new HTd.out (by simp) HZ1.out (by decide) _ _ _ _ _⟩
end Go.Proofs.YtfjphhmbnhglcaaGreatDoor
namespace Go.Proofs.YtfjphhmbnhglcaaGreatDoor
open Go.RowKit Go.RunKit Go.CharrefKit Go.Lib Go.TokenKit

set_option maxRecDepth 100000 in
set_option maxHeartbeats 2000000 in
theorem oneText_any (s : ByteArray) (i : Nat) (hs : s.size ≤ 524288) (hi : i < s.size) (hmk : markL ((bl s).drop i) = false) (w : World) :
    Calls Tryz.prog 40 #[.string s, .int .i64 (i : Nat)] w fun e w' => AnsZ (oneL ((bl s).drop i)) s w e w' := by
  have hls := bl_length s
  have hB := fun W => begins04_any s i (by omega) (by omega) W
  rw [hmk] at hB
  have HB := Lib.hid hB
  have HZ : Hid (∀ W, Below (w.heap.size + 1) (w.alloc (.cells #[.int .u8 0, .string ⟨#[]⟩, .slice none 0 0, .bool false, .string ⟨#[]⟩] 66)) W → W.heap[w.heap.size]? = some (.cells #[.int .u8 0, .string ⟨#[]⟩, .slice none 0 0, .bool false, .string ⟨#[]⟩] 66 (0, 0)) ∧ Below w.heap.size w W) :=
    Lib.hid fun W hb => ⟨by rw [hb.block _ (by omega)]; exact heap_alloc_new w _, ((Below.refl w.heap.size w).alloc (Nat.le_refl _) _).trans (hb.mono (Nat.le_succ _))⟩
  obtain ⟨o, ho⟩ : ∃ o, oneL ((bl s).drop i) = o := ⟨_, rfl⟩
  rw [ho]
  have HFin := Lib.hid fun (k : Nat) (hik : i ≤ k) (hks : k ≤ s.size) (hn : ∀ j, i ≤ j → j < k → markL ((bl s).drop j) = false) (he : k = s.size ∨ markL ((bl s).drop k) = true) =>
    (show o = .ok (⟨3, [], [], false, decodeL false (bl (s.extract i k))⟩, (bl s).drop k) by
      have hw : wordsN ((bl s).drop i) = k - i := wordsN_eq _ _ (by rw [List.length_drop, hls]; omega) (fun j hj => by rw [List.drop_drop]; exact hn (i + j) (by omega) (by omega)) (by
        rcases he with he | he
        · left; rw [List.length_drop, hls]; omega
        · right; rw [List.drop_drop, show i + (k - i) = k by omega]; exact he)
      rw [← ho]
      unfold oneL
      rw [hmk, if_neg (by decide), hw, List.drop_drop, show i + (k - i) = k by omega, bl_extract])
  have HM := Lib.hid hmk
  clear hB ho hmk
  go_enter Tryz.func40, Tryz.ntmps40
  go_big_wp2_with (go_at_call 69; refine (HB.out _).mono ?_; rintro e w1 ⟨rfl, rfl⟩)
  go_loop [7] (fun v => ∃ k : Nat, v = .int .i64 (k : Nat) ∧ i + 1 ≤ k ∧ k ≤ s.size ∧ Hid (∀ j, i ≤ j → j < k → markL ((bl s).drop j) = false)) (fun v => s.size - (RowKit.intOf v).toNat)
  case atStart => exact ⟨i + 1, by go_num, Nat.le_refl _, by omega, Lib.hid fun j h1 h2 => by have e : j = i := (by omega); subst e; exact HM.out⟩
  case round =>
    obtain ⟨k, rfl, hik, hks, HN⟩ := hrel
    have hikI : (i : Int) ≤ k := by omega
    have hksI : (k : Int) ≤ s.size := by omega
    obtain ⟨x, hx⟩ : ∃ x, s.extract i k = x := ⟨_, rfl⟩
    have hD := fun W => refDecode_any false x (by rw [← hx]; simp; omega) W
    have HD := Lib.hid hD
    clear hD
    by_cases hk : k < s.size
    · have hkI : (k : Int) < s.size := by omega
      have hB2 := fun W => begins04_any s k (by omega) (by omega) W
      cases hz : markL ((bl s).drop k) with
      | false =>
        rw [hz] at hB2
        have HB2 := Lib.hid hB2
        have HZz := Lib.hid hz
        clear hB2 hz
        go_big_wp2_with (go_at_call 69; refine (HB2.out _).mono ?_; rintro e w1 ⟨rfl, rfl⟩)
        refine ⟨⟨k + 1, by go_num, by omega, by omega, Lib.hid fun j h1 h2 => ?_⟩, by simp [RowKit.intOf]; omega⟩
        by_cases e : j = k
        · subst e; exact HZz.out
        · exact HN.out j h1 (by omega)
      | true =>
        rw [hz] at hB2
        have HB2 := Lib.hid hB2
        have HE := Lib.hid (HFin.out k (by omega) hks HN.out (.inr hz))
        rw [hx] at HE
        clear hB2 hz
        go_big_wp2_with (first
          | (go_at_call 69; refine (HB2.out _).mono ?_; rintro e w1 ⟨rfl, rfl⟩)
          | (go_at_call 74; refine (HD.out _).mono ?_; rintro e w1 ⟨rfl, hb1⟩; obtain ⟨hz1, hz2⟩ := HZ.out w1 (by simpa using hb1); have HB1 := Lib.hid hz2; have HZ1 := Lib.hid hz1; obtain ⟨⟨r0, r1, r2, r3, r4⟩, s0, s1, s2, s3, s4⟩ := local5 hz1; clear hz1 hz2 hb1))
        refine bodyPost_ret (results_row_tmp2 rfl _ _ w.heap.size 66 _ _ _ rfl (set5 HZ1.out) Tryz.underlying66 rfl (by kernel_rfl)) rfl ?_
        exact ⟨3, ⟨#[]⟩, none, 0, 0, false, _, (k : Int), 0, rfl, ((((HB1.out.setCell (Nat.le_refl _) _).setCell (Nat.le_refl _) _).setCell (Nat.le_refl _) _).setCell (Nat.le_refl _) _).setCell (Nat.le_refl _) _, told_any HE.out (bl_of _) hks⟩
    · obtain rfl : k = s.size := by omega
      have HE := Lib.hid (HFin.out s.size (by omega) hks HN.out (.inl rfl))
      rw [hx] at HE
      go_big_wp2_with (go_at_call 74; refine (HD.out _).mono ?_; rintro e w1 ⟨rfl, hb1⟩; obtain ⟨hz1, hz2⟩ := HZ.out w1 (by simpa using hb1); have HB1 := Lib.hid hz2; have HZ1 := Lib.hid hz1; obtain ⟨⟨r0, r1, r2, r3, r4⟩, s0, s1, s2, s3, s4⟩ := local5 hz1; clear hz1 hz2 hb1)
      refine bodyPost_ret (results_row_tmp2 rfl _ _ w.heap.size 66 _ _ _ rfl (set5 HZ1.out) Tryz.underlying66 rfl (by kernel_rfl)) rfl ?_
      exact ⟨3, ⟨#[]⟩, none, 0, 0, false, _, (s.size : Int), 0, rfl, ((((HB1.out.setCell (Nat.le_refl _) _).setCell (Nat.le_refl _) _).setCell (Nat.le_refl _) _).setCell (Nat.le_refl _) _).setCell (Nat.le_refl _) _, told_any HE.out (bl_of _) (Nat.le_refl _)⟩
/-- The token at a place. -/
theorem one_of (s : ByteArray) (i : Nat) (hs : s.size ≤ 524288) (hi : i < s.size) (HT : TagsZ s) (w : World) :
    Calls Tryz.prog 40 #[.string s, .int .i64 (i : Nat)] w fun e w' => AnsZ (oneL ((bl s).drop i)) s w e w' := by
  cases h : markL ((bl s).drop i) with
  | true => exact oneMark_of s i hs hi HT h w
  | false => exact oneText_any s i hs hi h w
end Go.Proofs.YtfjphhmbnhglcaaGreatDoor
namespace Go.TokenKit
open Go Go.Lib Go.CharrefKit
theorem quoted_cut (q : UInt8) (l : Bytes) : quotedL q l = if (cut l [q]).2.2 then some ((cut l [q]).1, (cut l [q]).2.1) else none := by
  rw [cut_one]
  unfold quotedL
  split <;> simp_all
theorem quoted_miss {l : Bytes} {i : Nat} {q : UInt8} (h : findAtL l i [q] = -1) : quotedL q (l.drop i) = none := by
  have hge := Lib.index_ge (l.drop i) [q]
  unfold findAtL at h
  have hx : Lib.index (l.drop i) [q] = -1 := by
    split at h
    · assumption
    · omega
  rw [quoted_cut]
  have hcut : (cut (l.drop i) [q]).2.2 = false := by unfold cut; rw [if_neg (by omega)]
  rw [hcut]; rfl
theorem quoted_hit {l : Bytes} {i : Nat} {r : Int} {q : UInt8} (hi : i ≤ l.length) (h : findAtL l i [q] = r) (h0 : 0 ≤ r) : ∃ e : Nat, r = e ∧ i ≤ e ∧ e < l.length ∧ quotedL q (l.drop i) = some ((l.drop i).take (e - i), l.drop (e + 1)) := by
  have hge := Lib.index_ge (l.drop i) [q]
  unfold findAtL at h
  split at h
  · omega
  · rename_i hx
    have h1 : 0 ≤ Lib.index (l.drop i) [q] := by omega
    have hroom := Lib.index_room (l.drop i) [q] h1
    simp only [List.length_cons, List.length_nil, List.length_drop] at hroom
    obtain ⟨k, hk⟩ : ∃ k : Nat, Lib.index (l.drop i) [q] = k := ⟨(Lib.index (l.drop i) [q]).toNat, by omega⟩
    refine ⟨i + k, by omega, by omega, by omega, ?_⟩
    rw [quoted_cut]
    have hcut : cut (l.drop i) [q] = ((l.drop i).take k, (l.drop i).drop (k + 1), true) := by
      unfold cut
      rw [hk]
      simp
    rw [hcut, if_pos rfl, List.drop_drop, show i + k - i = k by omega, show i + (k + 1) = i + k + 1 by omega]
/-- What is behind some bytes begins at a place. -/
theorem behind_place (st l : Bytes) (i : Nat) (hi : i ≤ l.length) : ∃ k, i ≤ k ∧ k ≤ l.length ∧ l.drop k = behind st (l.drop i) ∧ (l.drop i).take (k - i) = before st (l.drop i) := by
  have h1 := before_len st (l.drop i)
  rw [List.length_drop] at h1
  have h3 := before_behind st (l.drop i)
  refine ⟨i + (before st (l.drop i)).length, by omega, by omega, ?_, ?_⟩
  · rw [← List.drop_drop]
    have h5 : (before st (l.drop i) ++ behind st (l.drop i)).drop (before st (l.drop i)).length = behind st (l.drop i) := List.drop_left
    rw [h3] at h5
    exact h5
  · rw [show i + (before st (l.drop i)).length - i = (before st (l.drop i)).length by omega]
    have h5 : (before st (l.drop i) ++ behind st (l.drop i)).take (before st (l.drop i)).length = before st (l.drop i) := List.take_left
    rw [h3] at h5
    exact h5
theorem skip_place (l : Bytes) (i : Nat) (hi : i ≤ l.length) : ∃ k, i ≤ k ∧ k ≤ l.length ∧ l.drop k = skipL (l.drop i) := by
  have h1 : (l.drop i).takeWhile (blanks.contains ·) ++ skipL (l.drop i) = l.drop i := List.takeWhile_append_dropWhile
  have h2 := congrArg List.length h1
  rw [List.length_append, List.length_drop] at h2
  refine ⟨i + ((l.drop i).takeWhile (blanks.contains ·)).length, by omega, by omega, ?_⟩
  rw [← List.drop_drop]
  have h5 : ((l.drop i).takeWhile (blanks.contains ·) ++ skipL (l.drop i)).drop ((l.drop i).takeWhile (blanks.contains ·)).length = skipL (l.drop i) := List.drop_left
  rw [h1] at h5
  exact h5
/-- Two places behind which the same stands are the same. -/
theorem place_eq {l : Bytes} {a b : Nat} (ha : a ≤ l.length) (hb : b ≤ l.length) (h : l.drop a = l.drop b) : a = b := by
  have := congrArg List.length h
  rw [List.length_drop, List.length_drop] at this
  omega
theorem valueL_cons {b : UInt8} {t : Bytes} : valueL (b :: t) = if b = 34 then quotedL 34 t else if b = 39 then quotedL 39 t else if (before plainStops (b :: t)).isEmpty || (before plainStops (b :: t)).any badB then none else some (before plainStops (b :: t), behind plainStops (b :: t)) := rfl
end Go.TokenKit
namespace Go.Proofs.YtfjphhmbnhglcaaGreatDoor
open Go.RowKit Go.RunKit Go.CharrefKit Go.Lib Go.TokenKit
theorem word04_at {s m : ByteArray} {i k : Nat} (hs : s.size ≤ 4294967296) (hm : m.size ≤ 4294967296) (hi : i ≤ s.size) (hk : k ≤ s.size) (h : (bl s).drop k = behind (blanks ++ bl m) ((bl s).drop i)) (w : World) :
    Calls Tryz.prog 108 #[.string s, .int .i64 (i : Nat), .string m] w fun e w' => e = .returned (.int .i64 (k : Nat)) ∧ w = w' :=
  (word04_any s m i hs hm hi w).mono fun e w' ⟨k', h1, _, h3, _, h5, h6⟩ => by
    have : k' = k := place_eq (l := bl s) (by rw [bl_length]; exact h3) (by rw [bl_length]; exact hk) (h5.trans h.symm)
    subst this
    exact ⟨h1, h6⟩
theorem skip04_at {s : ByteArray} {i k : Nat} (hs : s.size ≤ 4294967296) (hi : i ≤ s.size) (hk : k ≤ s.size) (h : (bl s).drop k = skipL ((bl s).drop i)) (w : World) :
    Calls Tryz.prog 110 #[.string s, .int .i64 (i : Nat)] w fun e w' => e = .returned (.int .i64 (k : Nat)) ∧ w = w' :=
  (skip04_any s i hs hi w).mono fun e w' ⟨k', h1, _, h3, h4, h5⟩ => by
    have : k' = k := place_eq (l := bl s) (by rw [bl_length]; exact h3) (by rw [bl_length]; exact hk) (h4.trans h.symm)
    subst this
    exact ⟨h1, h5⟩

/-- What the document's own reader of an attribute tells. -/
def ToldAZ (o : Option (At × Bytes)) (s n v : ByteArray) (k e : Int) : Prop := match o with
  | none => e = 41
  | some ((x, y), r) => e = 0 ∧ n = ⟨x.toArray⟩ ∧ v = ⟨y.toArray⟩ ∧ ∃ q : Nat, k = q ∧ q ≤ s.size ∧ (bl s).drop q = r
def AnsA (o : Option (At × Bytes)) (s : ByteArray) (w : World) (e : Ending) (w' : World) : Prop := ∃ n v k er, e = .returned (.tuple #[.agg #[.string n, .string v], .int .i64 k, .int .i64 er]) ∧ Below w.heap.size w w' ∧ ToldAZ o s n v k er
/-- The result's block and the attribute's own. -/
structure ALoc (w : World) (g : Nat) (n : ByteArray) (W : World) : Prop where
  below : Below w.heap.size w W
  res : W.heap[w.heap.size]? = some (.cells #[.string ⟨#[]⟩, .string ⟨#[]⟩] TAt (0, 0))
  loc : W.heap[g]? = some (.cells #[.string n, .string ⟨#[]⟩] TAt (0, 0))
  lt : w.heap.size < g
theorem ALoc.on {w W W' : World} {g : Nat} {n : ByteArray} (h : ALoc w g n W) (hb : Below W.heap.size W W') : ALoc w g n W' :=
  ⟨h.below.trans (hb.mono h.below.size), by rw [hb.block _ (Array.getElem?_eq_some_iff.1 h.res).1]; exact h.res, by rw [hb.block _ (Array.getElem?_eq_some_iff.1 h.loc).1]; exact h.loc, h.lt⟩
theorem aStart {w w1 : World} {n : ByteArray} (hb : Below (w.heap.size + 1) (w.alloc (.cells #[.string ⟨#[]⟩, .string ⟨#[]⟩] TAt)) w1) : ALoc w w1.heap.size n (w1.alloc (.cells #[.string n, .string ⟨#[]⟩] TAt)) := by
  have hs : (w.alloc (.cells #[.string ⟨#[]⟩, .string ⟨#[]⟩] TAt)).heap.size = w.heap.size + 1 := by simp
  have h1 : w.heap.size < w1.heap.size := by have := hb.size; rw [hs] at this; omega
  have hb2 : Below w1.heap.size w1 (w1.alloc (.cells #[.string n, .string ⟨#[]⟩] TAt)) := (Below.refl _ _).alloc (Nat.le_refl _) _
  refine ⟨(((Below.refl w.heap.size w).alloc (Nat.le_refl _) _).trans (hb.mono (Nat.le_succ _))).trans (hb2.mono (by omega)), ?_, heap_alloc_new w1 _, h1⟩
  rw [hb2.block _ h1, hb.block _ (by omega)]
  exact heap_alloc_new w _
theorem ALoc.val {w W : World} {g : Nat} {n : ByteArray} (h : ALoc w g n W) (v : Value) : Below w.heap.size w (W.setCell ⟨g, 1, none⟩ v) ∧ (W.setCell ⟨g, 1, none⟩ v).heap[w.heap.size]? = some (.cells #[.string ⟨#[]⟩, .string ⟨#[]⟩] TAt (0, 0)) :=
  ⟨h.below.setCell (Nat.le_of_lt h.lt) _, by rw [heap_setCell_other _ _ _ _ (by have := h.lt; show w.heap.size ≠ g; omega)]; exact h.res⟩

set_option maxRecDepth 100000 in
set_option maxHeartbeats 4000000 in
theorem attr04_any (s : ByteArray) (i : Nat) (hs : s.size ≤ 524288) (hi : i ≤ s.size) (w : World) :
    Calls Tryz.prog 111 #[.string s, .int .i64 (i : Nat)] w fun e w' => AnsA (attrL ((bl s).drop i)) s w e w' := by
  have hls := bl_length s
  obtain ⟨k1, h11, h12, h13, h14⟩ := behind_place nameStops (bl s) i (by rw [hls]; exact hi)
  rw [hls] at h12
  obtain ⟨nm0, hnm0⟩ : ∃ x, s.extract i k1 = x := ⟨_, rfl⟩
  have e0 : bl nm0 = before nameStops ((bl s).drop i) := by rw [← hnm0, bl_extract, h14]
  have sn0 : nm0.size ≤ s.size := by rw [← hnm0]; simp; omega
  obtain ⟨nm, hnm, e1⟩ : ∃ x : ByteArray, x = ⟨(smallL (bl nm0)).toArray⟩ ∧ bl x = smallL (bl nm0) := ⟨_, rfl, bl_of _⟩
  have hnl := bl_length nm
  have sn : nm.size ≤ s.size := by rw [← hnl, e1, small_len, bl_length]; exact sn0
  have hn : bl nm = smallL (before nameStops ((bl s).drop i)) := by rw [e1, e0]
  have HW1 := Lib.hid fun W => word04_at (s := s) (m := ⟨#[61, 47, 62]⟩) (i := i) (k := k1) (by omega) (by decide) hi h12 h13 W
  have HS := Lib.hid fun W => refSmall_any nm0 (by omega) W
  rw [← hnm] at HS
  have HO := Lib.hid fun W => of04_any nm ⟨#[45, 95]⟩ (by omega) (by decide) W
  rw [show bl (⟨#[45, 95]⟩ : ByteArray) = [45, 95] from rfl] at HO
  have hi1 : (i : Int) ≤ k1 := by omega
  have hk1 : (k1 : Int) ≤ s.size := by omega
  obtain ⟨o, ho⟩ : ∃ o, attrL ((bl s).drop i) = o := ⟨_, rfl⟩
  rw [ho]
  obtain ⟨z, hz⟩ : ∃ z, (wordL [45, 95] (bl nm) && decide (0 < nm.size)) = z := ⟨_, rfl⟩
  rw [hz] at HO
  clear hnm h14 e0 e1 sn0
  cases z with
  | false =>
    have hE : o = none := by
      rw [← ho]
      refine attrL_bad hn ?_
      rw [Bool.and_eq_false_iff] at hz
      rcases hz with hz | hz
      · exact .inr hz
      · left; rw [decide_eq_false_iff_not] at hz; exact List.length_eq_zero_iff.1 (by omega)
    subst hE
    clear ho hn hz hls hnl h13
    go_enter Tryz.func111, Tryz.ntmps111
    go_big_wp2_with (first
      | (go_at_call 108; refine (HW1.out _).mono ?_; rintro e w1 ⟨rfl, rfl⟩)
      | (go_at_call 37; refine (HS.out _).mono ?_; rintro e w2 ⟨rfl, hb2⟩; go_loud (have HL := Lib.hid (aStart (n := nm) (by simpa using hb2)); obtain ⟨x0, x1, y0, y1⟩ := local2 HL.out.loc; obtain ⟨r0, r1, t0, t1⟩ := local2 HL.out.res))
      | (go_at_call 109; refine (HO.out _).mono ?_; rintro e w3 ⟨rfl, rfl⟩))
    refine bodyPost_ret (results_row_tmp2 rfl _ _ w.heap.size TAt _ _ _ rfl (set2 HL.out.res) Tryz.underlying35 rfl (by kernel_rfl)) rfl ?_
    exact ⟨_, _, _, _, rfl, (HL.out.below.setCell (Nat.le_refl _) _).setCell (Nat.le_refl _) _, rfl⟩
  | true =>
    rw [Bool.and_eq_true, decide_eq_true_eq] at hz
    have hne : smallL (before nameStops ((bl s).drop i)) ≠ [] := by rw [← hn]; intro e; rw [e] at hnl; simp at hnl; omega
    have hw := hz.1
    rw [hn] at hw
    obtain ⟨k2, h21, h22, h23⟩ := skip_place (bl s) k1 (by omega)
    rw [hls] at h22
    have hr : (bl s).drop k2 = skipL (behind nameStops ((bl s).drop i)) := by rw [h23, h13]
    have HK1 := Lib.hid fun W => skip04_at (s := s) (i := k1) (k := k2) (by omega) h12 h22 h23 W
    have hmk : nm = ⟨(smallL (before nameStops ((bl s).drop i))).toArray⟩ := eq_mk hn
    clear hz h23
    by_cases hk2 : k2 = s.size
    · have HE : Hid (ToldAZ o s nm ⟨#[]⟩ ((k2 : Nat) : Int) 0) := Lib.hid (by
        rw [← ho, attrL_bare rfl hr hne hw (by rw [hk2, List.drop_eq_nil_of_le (by omega)]; rfl)]
        exact ⟨rfl, hmk, rfl, k2, rfl, h22, rfl⟩)
      clear ho hn hls hnl h13 hr hne hw hmk
      subst hk2
      go_enter Tryz.func111, Tryz.ntmps111
      go_big_wp2_with (first
        | (go_at_call_of 108 (Value.string ⟨#[61, 47, 62]⟩); refine (HW1.out _).mono ?_; rintro e w1 ⟨rfl, rfl⟩)
        | (go_at_call 37; refine (HS.out _).mono ?_; rintro e w2 ⟨rfl, hb2⟩; go_loud (have HL := Lib.hid (aStart (n := nm) (by simpa using hb2)); obtain ⟨x0, x1, y0, y1⟩ := local2 HL.out.loc; obtain ⟨r0, r1, t0, t1⟩ := local2 HL.out.res))
        | (go_at_call 109; refine (HO.out _).mono ?_; rintro e w3 ⟨rfl, rfl⟩)
        | (go_at_call_of 110 (Value.int .i64 k1); refine (HK1.out _).mono ?_; rintro e w4 ⟨rfl, rfl⟩))
      refine bodyPost_ret (results_row_tmp2 rfl _ _ w.heap.size TAt _ _ _ rfl (set2 HL.out.res) Tryz.underlying35 rfl (by kernel_rfl)) rfl ?_
      exact ⟨_, _, _, _, rfl, (HL.out.below.setCell (Nat.le_refl _) _).setCell (Nat.le_refl _) _, HE.out⟩
    · have hk2l : k2 < s.size := by omega
      have hk2I : (k2 : Int) < s.size := by omega
      have hk2b : ((k2 : Int) == (s.size : Int)) = false := by rw [beq_eq_false_iff_ne]; omega
      have hd2 := drop_at hk2l
      obtain ⟨x, hx⟩ : ∃ x, s[k2]'hk2l = x := ⟨_, rfl⟩
      rw [hx] at hd2
      by_cases h61 : x = 61
      · rw [h61] at hd2 hx
        have hi61 : (((61 : UInt8).toNat : Int) != 61) = false := by decide
        have hpre : hasPrefix ((bl s).drop k2) [61] = true := by rw [hd2, hasPrefix_one]; rfl
        have htrim : trimPrefix ((bl s).drop k2) [61] = (bl s).drop (k2 + 1) := by rw [hd2, trimPrefix_one]; rfl
        obtain ⟨k3, h31, h32, h33⟩ := skip_place (bl s) (k2 + 1) (by omega)
        rw [hls] at h32
        have HK2 := Lib.hid fun W => skip04_at (s := s) (i := k2 + 1) (k := k3) (by omega) (by omega) h32 h33 W
        rw [show ((k2 + 1 : Nat) : Int) = (k2 : Int) + 1 by omega] at HK2
        have hval := attrL_value rfl hr hne hw hpre
        rw [htrim, ← h33] at hval
        clear hr hne hw hpre htrim h33 h13 hd2 h61
        by_cases hk3 : k3 = s.size
        · have HE : Hid (ToldAZ o s nm ⟨#[]⟩ ((k3 : Nat) : Int) 41) := Lib.hid (by
            rw [← ho, hval, hk3, List.drop_eq_nil_of_le (by omega)]
            rfl)
          have HW2 := Lib.hid fun W => word04_at (s := s) (m := ⟨#[62]⟩) (i := s.size) (k := s.size) (by omega) (by decide) (Nat.le_refl _) (Nat.le_refl _) (by rw [List.drop_eq_nil_of_le (by omega)]; rfl) W
          clear ho hn hls hnl hval hmk
          subst hk3
          go_enter Tryz.func111, Tryz.ntmps111
          go_big_wp2_with (first
            | (go_at_call_of 108 (Value.string ⟨#[61, 47, 62]⟩); refine (HW1.out _).mono ?_; rintro e w1 ⟨rfl, rfl⟩)
            | (go_at_call 37; refine (HS.out _).mono ?_; rintro e w2 ⟨rfl, hb2⟩; go_loud (have HL := Lib.hid (aStart (n := nm) (by simpa using hb2)); obtain ⟨x0, x1, y0, y1⟩ := local2 HL.out.loc; obtain ⟨r0, r1, t0, t1⟩ := local2 HL.out.res))
            | (go_at_call 109; refine (HO.out _).mono ?_; rintro e w3 ⟨rfl, rfl⟩)
            | (go_at_call_of 110 (Value.int .i64 k1); refine (HK1.out _).mono ?_; rintro e w4 ⟨rfl, rfl⟩)
            | (go_at_call 110; refine (HK2.out _).mono ?_; rintro e w5 ⟨rfl, rfl⟩)
            | (go_at_call_of 108 (Value.string ⟨#[62]⟩); refine (HW2.out _).mono ?_; rintro e w6 ⟨rfl, rfl⟩))
          refine bodyPost_ret (results_row_tmp2 rfl _ _ w.heap.size TAt _ _ _ rfl (set2 HL.out.res) Tryz.underlying35 rfl (by kernel_rfl)) rfl ?_
          exact ⟨_, _, _, _, rfl, (HL.out.below.setCell (Nat.le_refl _) _).setCell (Nat.le_refl _) _, HE.out⟩
        · have hk3l : k3 < s.size := by omega
          have hk3I : (k3 : Int) < s.size := by omega
          have hd3 := drop_at hk3l
          have h1at := one_at hk3l
          obtain ⟨y, hy⟩ : ∃ y, s[k3]'hk3l = y := ⟨_, rfl⟩
          rw [hy] at hd3 h1at
          by_cases hq : y = 34 ∨ y = 39
          · have hvq : valueL ((bl s).drop k3) = quotedL y ((bl s).drop (k3 + 1)) := by
              rw [hd3, valueL_cons]
              rcases hq with hq | hq <;> subst hq <;> rfl
            rw [hvq] at hval
            have hF := fun W => find04_any s (s.extract k3 (k3 + 1)) (k3 + 1) (by omega) (by simp; omega) (by simp; omega) (by omega) W
            rw [h1at, show ((k3 + 1 : Nat) : Int) = (k3 : Int) + 1 by omega] at hF
            obtain ⟨r, hrr⟩ : ∃ r, findAtL (bl s) (k3 + 1) [y] = r := ⟨_, rfl⟩
            rw [hrr] at hF
            have HF := Lib.hid hF
            have hk3J : (k3 : Int) ≤ (k3 : Int) + 1 := by omega
            have hk3K : (k3 : Int) + 1 ≤ s.size := by omega
            by_cases hr0 : r < 0
            · have hrm : r = -1 := by
                rw [← hrr]; unfold findAtL
                split
                · rfl
                · rename_i hx'; have := Lib.index_ge ((bl s).drop (k3 + 1)) [y]; unfold findAtL at hrr; rw [if_neg hx'] at hrr; omega
              have HE : Hid (ToldAZ o s nm ⟨#[]⟩ ((k3 : Nat) : Int) 41) := Lib.hid (by
                rw [← ho, hval, quoted_miss (hrr.trans hrm)]
                rfl)
              clear ho hn hls hnl hval hmk hvq hF hrr hd3 h1at hrm
              rcases hq with hq | hq <;> subst hq
              all_goals
                go_enter Tryz.func111, Tryz.ntmps111
                go_big_wp2_with (first
                  | (go_at_call_of 108 (Value.string ⟨#[61, 47, 62]⟩); refine (HW1.out _).mono ?_; rintro e w1 ⟨rfl, rfl⟩)
                  | (go_at_call 37; refine (HS.out _).mono ?_; rintro e w2 ⟨rfl, hb2⟩; go_loud (have HL := Lib.hid (aStart (n := nm) (by simpa using hb2)); obtain ⟨x0, x1, y0, y1⟩ := local2 HL.out.loc; obtain ⟨r0, r1, t0, t1⟩ := local2 HL.out.res))
                  | (go_at_call 109; refine (HO.out _).mono ?_; rintro e w3 ⟨rfl, rfl⟩)
                  | (go_at_call_of 110 (Value.int .i64 k1); refine (HK1.out _).mono ?_; rintro e w4 ⟨rfl, rfl⟩)
                  | (go_at_call 110; refine (HK2.out _).mono ?_; rintro e w5 ⟨rfl, rfl⟩)
                  | (go_at_call 112; refine (HF.out _).mono ?_; rintro e w6 ⟨rfl, rfl⟩))
                refine bodyPost_ret (results_row_tmp2 rfl _ _ w.heap.size TAt _ _ _ rfl (set2 HL.out.res) Tryz.underlying35 rfl (by kernel_rfl)) rfl ?_
                exact ⟨_, _, _, _, rfl, (HL.out.below.setCell (Nat.le_refl _) _).setCell (Nat.le_refl _) _, HE.out⟩
            · obtain ⟨q, hrq, hq1, hq2, hq3⟩ := quoted_hit (l := bl s) (i := k3 + 1) (by omega) hrr (by omega)
              subst hrq
              rw [hls] at hq2
              obtain ⟨vv, hvv⟩ : ∃ v, s.extract (k3 + 1) q = v := ⟨_, rfl⟩
              have hbv : bl vv = ((bl s).drop (k3 + 1)).take (q - (k3 + 1)) := by rw [← hvv, bl_extract]
              have HE : Hid (ToldAZ o s nm ⟨(decodeL true (bl vv)).toArray⟩ ((q + 1 : Nat) : Int) 0) := Lib.hid (by
                rw [← ho, hval, hq3, hbv]
                exact ⟨rfl, hmk, rfl, q + 1, rfl, by omega, rfl⟩)
              have HD := Lib.hid fun W => refDecode_any true vv (by rw [← hvv]; simp; omega) W
              have hqI : (k3 : Int) + 1 ≤ q := by omega
              have hqJ : (q : Int) ≤ s.size := by omega
              clear ho hn hls hnl hval hmk hvq hF hrr hd3 h1at hq3 hbv
              rcases hq with hq | hq <;> subst hq
              all_goals
                go_enter Tryz.func111, Tryz.ntmps111
                go_big_wp2_with (first
                  | (go_at_call_of 108 (Value.string ⟨#[61, 47, 62]⟩); refine (HW1.out _).mono ?_; rintro e w1 ⟨rfl, rfl⟩)
                  | (go_at_call 37; refine (HS.out _).mono ?_; rintro e w2 ⟨rfl, hb2⟩; go_loud (have HL := Lib.hid (aStart (n := nm) (by simpa using hb2)); obtain ⟨x0, x1, y0, y1⟩ := local2 HL.out.loc; obtain ⟨r0, r1, t0, t1⟩ := local2 HL.out.res))
                  | (go_at_call 109; refine (HO.out _).mono ?_; rintro e w3 ⟨rfl, rfl⟩)
                  | (go_at_call_of 110 (Value.int .i64 k1); refine (HK1.out _).mono ?_; rintro e w4 ⟨rfl, rfl⟩)
                  | (go_at_call 110; refine (HK2.out _).mono ?_; rintro e w5 ⟨rfl, rfl⟩)
                  | (go_at_call 112; refine (HF.out _).mono ?_; rintro e w6 ⟨rfl, rfl⟩)
                  | (go_at_call 74; refine (HD.out _).mono ?_; rintro e w7 ⟨rfl, hb7⟩; go_loud (have HL7 := Lib.hid (HL.out.on hb7); clear x0 x1 y0 y1 r0 r1 t0 t1; obtain ⟨x0, x1, y0, y1⟩ := local2 HL7.out.loc; obtain ⟨r0, r1, t0, t1⟩ := local2 HL7.out.res; have hd1 := Nat.ne_of_lt HL7.out.lt; have hd2 := (Nat.ne_of_lt HL7.out.lt).symm)))
                have HV7 := HL7.out.val (.string ⟨(decodeL true (bl vv)).toArray⟩)
                refine bodyPost_ret (results_row_tmp2 rfl _ _ w.heap.size TAt _ _ _ rfl (set2 HV7.2) Tryz.underlying35 rfl (by kernel_rfl)) rfl ?_
                exact ⟨nm, ⟨(decodeL true (bl vv)).toArray⟩, ((q + 1 : Nat) : Int), 0, rfl, (HV7.1.setCell (Nat.le_refl _) _).setCell (Nat.le_refl _) _, HE.out⟩
          · have hy34 : ¬ y = 34 := fun e => hq (.inl e)
            have hy39 : ¬ y = 39 := fun e => hq (.inr e)
            have hb34 : ((y.toNat : Int) == 34) = false := by rw [beq_eq_false_iff_ne]; intro e; apply hy34; apply UInt8.toNat_inj.1; show y.toNat = 34; omega
            have hb39 : ((y.toNat : Int) == 39) = false := by rw [beq_eq_false_iff_ne]; intro e; apply hy39; apply UInt8.toNat_inj.1; show y.toNat = 39; omega
            obtain ⟨k4, h41, h42, h43, h44⟩ := behind_place plainStops (bl s) k3 (by omega)
            rw [hls] at h42
            obtain ⟨vv, hvv⟩ : ∃ v, s.extract k3 k4 = v := ⟨_, rfl⟩
            have hbv : bl vv = before plainStops ((bl s).drop k3) := by rw [← hvv, bl_extract, h44]
            have HW2 := Lib.hid fun W => word04_at (s := s) (m := ⟨#[62]⟩) (i := k3) (k := k4) (by omega) (by decide) (by omega) h42 h43 W
            have hvp : valueL ((bl s).drop k3) = if (bl vv).isEmpty || (bl vv).any badB then none else some (bl vv, (bl s).drop k4) := by
              rw [hbv, h43, hd3, valueL_cons, if_neg hy34, if_neg hy39]
            rw [hvp] at hval
            have hk3J : (k3 : Int) ≤ k4 := by omega
            have hk4I : (k4 : Int) ≤ s.size := by omega
            have hvl := bl_length vv
            have hvs : vv.size ≤ s.size := by rw [← hvv]; simp; omega
            by_cases hve : vv.size = 0
            · have hv0 : bl vv = [] := List.length_eq_zero_iff.1 (by omega)
              have HE : Hid (ToldAZ o s nm ⟨#[]⟩ ((k3 : Nat) : Int) 41) := Lib.hid (by
                rw [← ho, hval, hv0]
                rfl)
              have hvE : vv.toList = [] := by rw [Lib.toList_data]; exact hv0
              clear ho hn hls hnl hval hmk hvp hd3 h1at hbv h44 h43 hvl hv0
              go_enter Tryz.func111, Tryz.ntmps111
              go_big_wp2_with (first
                | (go_at_call_of 108 (Value.string ⟨#[61, 47, 62]⟩); refine (HW1.out _).mono ?_; rintro e w1 ⟨rfl, rfl⟩)
                | (go_at_call 37; refine (HS.out _).mono ?_; rintro e w2 ⟨rfl, hb2⟩; go_loud (have HL := Lib.hid (aStart (n := nm) (by simpa using hb2)); obtain ⟨x0, x1, y0, y1⟩ := local2 HL.out.loc; obtain ⟨r0, r1, t0, t1⟩ := local2 HL.out.res))
                | (go_at_call 109; refine (HO.out _).mono ?_; rintro e w3 ⟨rfl, rfl⟩)
                | (go_at_call_of 110 (Value.int .i64 k1); refine (HK1.out _).mono ?_; rintro e w4 ⟨rfl, rfl⟩)
                | (go_at_call 110; refine (HK2.out _).mono ?_; rintro e w5 ⟨rfl, rfl⟩)
                | (go_at_call_of 108 (Value.string ⟨#[62]⟩); refine (HW2.out _).mono ?_; rintro e w6 ⟨rfl, rfl⟩))
              refine bodyPost_ret (results_row_tmp2 rfl _ _ w.heap.size TAt _ _ _ rfl (set2 HL.out.res) Tryz.underlying35 rfl (by kernel_rfl)) rfl ?_
              exact ⟨_, _, _, _, rfl, (HL.out.below.setCell (Nat.le_refl _) _).setCell (Nat.le_refl _) _, HE.out⟩
            · have hvN : ¬ vv.toList = [] := by rw [Lib.toList_data]; intro e; have : bl vv = [] := e; rw [this] at hvl; simp at hvl; omega
              have hvN1 : vv.toList.isEmpty = false := by simpa using hvN
              have hvN2 : (vv.toList == []) = false := by simpa using hvN
              have hvE2 : (bl vv).isEmpty = false := by
                cases hb : bl vv with
                | nil => rw [hb] at hvl; simp at hvl; omega
                | cons => rfl
              rw [hvE2, Bool.false_or] at hval
              have HD := Lib.hid fun W => refDecode_any true vv (by omega) W
              have HBad := Lib.hid fun (j : Nat) b (hj : (bl vv)[j]? = some b) (hb : badB b = true) => (show ToldAZ o s nm ⟨#[]⟩ ((k3 : Nat) : Int) 41 by
                rw [← ho, hval, if_pos (List.any_eq_true.2 ⟨b, List.mem_of_getElem? hj, hb⟩)]
                rfl)
              have HOk := Lib.hid fun (h : ∀ j b, j < vv.size → (bl vv)[j]? = some b → badB b = false) => (show ToldAZ o s nm ⟨(decodeL true (bl vv)).toArray⟩ ((k4 : Nat) : Int) 0 by
                rw [← ho, hval, if_neg (by
                  intro hc
                  obtain ⟨b, hb1, hb2⟩ := List.any_eq_true.1 hc
                  obtain ⟨j, hj⟩ := List.mem_iff_getElem?.1 hb1
                  have := h j b (by have := (List.getElem?_eq_some_iff.1 hj).1; omega) hj
                  rw [hb2] at this; cases this)]
                exact ⟨rfl, hmk, rfl, k4, rfl, h42, rfl⟩)
              clear ho hn hls hnl hval hmk hvp hd3 h1at hbv h44 h43 hvl hvE2
              go_enter Tryz.func111, Tryz.ntmps111
              go_big_wp2_with (first
                | (go_at_call_of 108 (Value.string ⟨#[61, 47, 62]⟩); refine (HW1.out _).mono ?_; rintro e w1 ⟨rfl, rfl⟩)
                | (go_at_call 37; refine (HS.out _).mono ?_; rintro e w2 ⟨rfl, hb2⟩; go_loud (have HL := Lib.hid (aStart (n := nm) (by simpa using hb2)); obtain ⟨x0, x1, y0, y1⟩ := local2 HL.out.loc; obtain ⟨r0, r1, t0, t1⟩ := local2 HL.out.res))
                | (go_at_call 109; refine (HO.out _).mono ?_; rintro e w3 ⟨rfl, rfl⟩)
                | (go_at_call_of 110 (Value.int .i64 k1); refine (HK1.out _).mono ?_; rintro e w4 ⟨rfl, rfl⟩)
                | (go_at_call 110; refine (HK2.out _).mono ?_; rintro e w5 ⟨rfl, rfl⟩)
                | (go_at_call_of 108 (Value.string ⟨#[62]⟩); refine (HW2.out _).mono ?_; rintro e w6 ⟨rfl, rfl⟩))
              go_loop [12] (fun v => ∃ j : Nat, v = .int .i64 (j : Nat) ∧ j ≤ vv.size ∧ Hid (∀ k b, k < j → (bl vv)[k]? = some b → badB b = false)) (fun v => vv.size - (RowKit.intOf v).toNat)
              case atStart => exact ⟨0, rfl, Nat.zero_le _, Lib.hid fun k b h => by omega⟩
              case round =>
                obtain ⟨j, rfl, hj, HN⟩ := hrel
                by_cases hjl : j < vv.size
                · have hjI : (j : Int) < vv.size := by omega
                  obtain ⟨c, hc⟩ : ∃ c, vv[j]'hjl = c := ⟨_, rfl⟩
                  have hcl : (bl vv)[j]? = some c := by rw [← hc]; exact Lib.data_getElem? vv j hjl
                  have HC := Lib.hid hcl
                  clear hcl
                  cases hbad : badB c with
                  | true =>
                    have HE := Lib.hid (HBad.out j c HC.out hbad)
                    have hc5 : c = 34 ∨ c = 39 ∨ c = 60 ∨ c = 61 ∨ c = 96 := by simpa [badB] using hbad
                    clear hbad
                    rcases hc5 with h5 | h5 | h5 | h5 | h5 <;> subst h5
                    all_goals
                      go_big_wp2
                      refine bodyPost_ret (results_row_tmp2 rfl _ _ w.heap.size TAt _ _ _ rfl (set2 HL.out.res) Tryz.underlying35 rfl (by kernel_rfl)) rfl ?_
                      exact ⟨_, _, _, _, rfl, (HL.out.below.setCell (Nat.le_refl _) _).setCell (Nat.le_refl _) _, HE.out⟩
                  | false =>
                    have hcn : ¬ (c = 34 ∨ c = 39 ∨ c = 60 ∨ c = 61 ∨ c = 96) := by intro h; have : badB c = true := by simpa [badB] using h
                                                                                    rw [hbad] at this; cases this
                    have g1 : ((c.toNat : Int) == 34) = false := by rw [beq_eq_false_iff_ne]; intro e; apply hcn; left; apply UInt8.toNat_inj.1; show c.toNat = 34; omega
                    have g2 : ((c.toNat : Int) == 39) = false := by rw [beq_eq_false_iff_ne]; intro e; apply hcn; right; left; apply UInt8.toNat_inj.1; show c.toNat = 39; omega
                    have g3 : ((c.toNat : Int) == 60) = false := by rw [beq_eq_false_iff_ne]; intro e; apply hcn; right; right; left; apply UInt8.toNat_inj.1; show c.toNat = 60; omega
                    have g4 : ((c.toNat : Int) == 61) = false := by rw [beq_eq_false_iff_ne]; intro e; apply hcn; right; right; right; left; apply UInt8.toNat_inj.1; show c.toNat = 61; omega
                    have g5 : ((c.toNat : Int) == 96) = false := by rw [beq_eq_false_iff_ne]; intro e; apply hcn; right; right; right; right; apply UInt8.toNat_inj.1; show c.toNat = 96; omega
                    have HBf := Lib.hid hbad
                    clear hcn hbad
                    go_big_wp2
                    refine ⟨⟨j + 1, by go_num, by omega, Lib.hid fun k b hk hb => ?_⟩, by simp [RowKit.intOf]; omega⟩
                    by_cases e : k = j
                    · subst e; rw [HC.out] at hb; cases hb; exact HBf.out
                    · exact HN.out k b (by omega) hb
                · obtain rfl : j = vv.size := by omega
                  have HE := Lib.hid (HOk.out HN.out)
                  go_big_wp2_with (first
                    | (go_at_call 74; refine (HD.out _).mono ?_; rintro e w7 ⟨rfl, hb7⟩; go_loud (have HL7 := Lib.hid (HL.out.on hb7); clear x0 x1 y0 y1 r0 r1 t0 t1; obtain ⟨x0, x1, y0, y1⟩ := local2 HL7.out.loc; obtain ⟨r0, r1, t0, t1⟩ := local2 HL7.out.res; have hd1 := Nat.ne_of_lt HL7.out.lt; have hd2 := (Nat.ne_of_lt HL7.out.lt).symm)))
                  have HV7 := HL7.out.val (.string ⟨(decodeL true (bl vv)).toArray⟩)
                  refine bodyPost_ret (results_row_tmp2 rfl _ _ w.heap.size TAt _ _ _ rfl (set2 HV7.2) Tryz.underlying35 rfl (by kernel_rfl)) rfl ?_
                  exact ⟨nm, ⟨(decodeL true (bl vv)).toArray⟩, ((k4 : Nat) : Int), 0, rfl, (HV7.1.setCell (Nat.le_refl _) _).setCell (Nat.le_refl _) _, HE.out⟩
      · have hi61 : ((x.toNat : Int) != 61) = true := by rw [bne_iff_ne]; intro e; apply h61; apply UInt8.toNat_inj.1; show x.toNat = 61; omega
        have HE : Hid (ToldAZ o s nm ⟨#[]⟩ ((k2 : Nat) : Int) 0) := Lib.hid (by
          rw [← ho, attrL_bare rfl hr hne hw (by rw [hd2, hasPrefix_one]; simp [h61])]
          exact ⟨rfl, hmk, rfl, k2, rfl, h22, rfl⟩)
        clear ho hn hls hnl h13 hr hne hw hmk hd2
        go_enter Tryz.func111, Tryz.ntmps111
        go_big_wp2_with (first
          | (go_at_call_of 108 (Value.string ⟨#[61, 47, 62]⟩); refine (HW1.out _).mono ?_; rintro e w1 ⟨rfl, rfl⟩)
          | (go_at_call 37; refine (HS.out _).mono ?_; rintro e w2 ⟨rfl, hb2⟩; go_loud (have HL := Lib.hid (aStart (n := nm) (by simpa using hb2)); obtain ⟨x0, x1, y0, y1⟩ := local2 HL.out.loc; obtain ⟨r0, r1, t0, t1⟩ := local2 HL.out.res))
          | (go_at_call 109; refine (HO.out _).mono ?_; rintro e w3 ⟨rfl, rfl⟩)
          | (go_at_call_of 110 (Value.int .i64 k1); refine (HK1.out _).mono ?_; rintro e w4 ⟨rfl, rfl⟩))
        refine bodyPost_ret (results_row_tmp2 rfl _ _ w.heap.size TAt _ _ _ rfl (set2 HL.out.res) Tryz.underlying35 rfl (by kernel_rfl)) rfl ?_
        exact ⟨_, _, _, _, rfl, (HL.out.below.setCell (Nat.le_refl _) _).setCell (Nat.le_refl _) _, HE.out⟩
end Go.Proofs.YtfjphhmbnhglcaaGreatDoor
namespace Go.TokenKit
open Go Go.Lib Go.CharrefKit
/-- A tag of one kind: an end tag has no attributes, and is not self-closed. -/
def tagK (kd : Nat) (l : Bytes) : Except Nat (Tok × Bytes) := match tagL kd l with
  | .error e => .error e
  | .ok (t, r) => if kd = 2 ∧ (t.self = true ∨ t.attrs ≠ []) then .error 40 else .ok (t, r)
theorem tagK_one (l : Bytes) : tagK 1 l = tagL 1 l := by
  unfold tagK
  cases tagL 1 l with
  | error e => rfl
  | ok x => simp
theorem tagK_end {b : UInt8} {r : Bytes} (h : isL b = true) : tagK 2 (b :: r) = endL (b :: r) := by
  simp only [endL]
  rw [if_pos h]
  unfold tagK
  cases tagL 2 (b :: r) with
  | error e => rfl
  | ok x =>
    obtain ⟨t, r'⟩ := x
    simp only
    cases t.self <;> cases t.attrs <;> simp
theorem tagK_bad {kd : Nat} {l : Bytes} (h : wordL [] (smallL (before tagStops l)) = false) : tagK kd l = .error 40 := by
  unfold tagK tagL
  rw [h]; rfl
theorem tagK_err {kd x : Nat} {L X : Bytes} {l : List At} (hw : wordL [] (smallL (before tagStops L)) = true) (ha : attrsL l X = attrsL [] (behind tagStops L)) (hs : attrsL l X = .error x) : tagK kd L = .error x := by
  unfold tagK tagL
  rw [if_pos hw, ← ha, hs]
theorem tagK_ok {kd : Nat} {L X r : Bytes} {l l' : List At} {sf : Bool} (hw : wordL [] (smallL (before tagStops L)) = true) (ha : attrsL l X = attrsL [] (behind tagStops L)) (hs : attrsL l X = .ok (l', sf, r)) :
    tagK kd L = if kd = 2 ∧ (sf = true ∨ l' ≠ []) then .error 40 else .ok (⟨kd, smallL (before tagStops L), l', sf, []⟩, r) := by
  unfold tagK tagL
  rw [if_pos hw, ← ha, hs]
theorem letter_stop (b : UInt8) (h : isL b = true) : tagStops.contains b = false := by
  have := all256' (p := fun b => !(isL b) || !(tagStops.contains b)) (by kernel_rfl) b
  rw [h] at this
  simpa using this
theorem before_pos {b : UInt8} {r : Bytes} (h : isL b = true) : 0 < (before tagStops (b :: r)).length := by
  unfold before
  rw [List.takeWhile_cons_of_pos (by rw [letter_stop b h]; rfl)]
  simp
end Go.TokenKit
namespace Go.Proofs.YtfjphhmbnhglcaaGreatDoor
open Go.RowKit Go.RunKit Go.CharrefKit Go.Lib Go.TokenKit
abbrev TZk : TypeId := 66
/-- What is held at the loop's head. -/
structure TagZ (w : World) (g kd : Nat) (nm : ByteArray) (av : Value) (l : List At) (W : World) : Prop where
  below : Below w.heap.size w W
  tok : W.heap[g]? = some (.cells (tokVal kd nm av false ⟨#[]⟩) TZk (0, 0))
  res : W.heap[w.heap.size]? = some (.cells tokZero TZk (0, 0))
  row : AtRow W w.heap.size av l
  lt : w.heap.size < g
theorem TagZ.on {w W W' : World} {g kd : Nat} {nm : ByteArray} {av : Value} {l : List At} (h : TagZ w g kd nm av l W) (hb : Below W.heap.size W W') : TagZ w g kd nm av l W' :=
  ⟨h.below.trans (hb.mono h.below.size), by rw [hb.block _ (Array.getElem?_eq_some_iff.1 h.tok).1]; exact h.tok, by rw [hb.block _ (Array.getElem?_eq_some_iff.1 h.res).1]; exact h.res, h.row.on hb, h.lt⟩
theorem tagZStart {w w1 : World} (kd : Nat) {nm : ByteArray} (hb : Below (w.heap.size + 1) (w.alloc (.cells #[.int .u8 0, .string ⟨#[]⟩, .slice none 0 0, .bool false, .string ⟨#[]⟩] TZk)) w1) : TagZ w w1.heap.size kd nm (.slice none 0 0) [] (w1.alloc (.cells #[.int .u8 (kd : Nat), .string nm, .slice none 0 0, .bool false, .string ⟨#[]⟩] TZk)) := by
  have hs : (w.alloc (.cells #[.int .u8 0, .string ⟨#[]⟩, .slice none 0 0, .bool false, .string ⟨#[]⟩] TZk)).heap.size = w.heap.size + 1 := by simp
  have h1 : w.heap.size < w1.heap.size := by have := hb.size; rw [hs] at this; omega
  have hb2 : Below w1.heap.size w1 (w1.alloc (.cells #[.int .u8 (kd : Nat), .string nm, .slice none 0 0, .bool false, .string ⟨#[]⟩] TZk)) := (Below.refl _ _).alloc (Nat.le_refl _) _
  refine ⟨(((Below.refl w.heap.size w).alloc (Nat.le_refl _) _).trans (hb.mono (Nat.le_succ _))).trans (hb2.mono (by omega)), heap_alloc_new w1 _, ?_, World.ownsRow_nil _ _ _ _, h1⟩
  rw [hb2.block _ h1, hb.block _ (by omega)]
  exact heap_alloc_new w _
theorem TagZ.grew {w W0 W : World} {g kd : Nat} {nm : ByteArray} {av av' : Value} {l l' : List At} (h : TagZ w g kd nm av l W0) (hg : W0.grownBy W av.ownBlock) (hown : AtRow W w.heap.size av' l') :
    W.heap[g]? = some (.cells (tokVal kd nm av false ⟨#[]⟩) TZk (0, 0)) ∧ TagZ w g kd nm av' l' (W.setCell ⟨g, 2, none⟩ av') := by
  have ht : W.heap[g]? = some (.cells (tokVal kd nm av false ⟨#[]⟩) TZk (0, 0)) := (hg.block g (Array.getElem?_eq_some_iff.1 h.tok).1 (fun e => atRow_ne h.row h.tok (by decide) e.symm)).trans h.tok
  have hr : W.heap[w.heap.size]? = some (.cells tokZero TZk (0, 0)) := (hg.block _ (Array.getElem?_eq_some_iff.1 h.res).1 (fun e => atRow_ne h.row h.res (by decide) e.symm)).trans h.res
  have hb : Below w.heap.size w W := h.below.grown hg h.below.size (fun k hk => (World.ownsRow.lt h.row k hk).1)
  have hlt := h.lt
  refine ⟨ht, hb.setCell (Nat.le_of_lt hlt) _, ?_, ?_, hown.kept ht (by decide) (grown_set _ _ _ _), hlt⟩
  · have := heap_setCell_same W g 2 _ _ av' ht
    simpa [tokVal] using this
  · rw [heap_setCell_other _ _ _ _ (by show w.heap.size ≠ g; omega)]; exact hr
/-- The same, and an attribute's own block. -/
structure TagZA (w : World) (g kd : Nat) (nm : ByteArray) (av : Value) (l : List At) (q : Nat) (n v : ByteArray) (W : World) : Prop where
  tag : TagZ w g kd nm av l W
  att : W.heap[q]? = some (.cells #[.string n, .string v] TAt (0, 0))
theorem TagZA.on {w W W' : World} {g kd q : Nat} {nm n v : ByteArray} {av : Value} {l : List At} (h : TagZA w g kd nm av l q n v W) (hb : Below W.heap.size W W') : TagZA w g kd nm av l q n v W' :=
  ⟨h.tag.on hb, by rw [hb.block _ (Array.getElem?_eq_some_iff.1 h.att).1]; exact h.att⟩
theorem tagZA_new {w W : World} {g kd : Nat} {nm n v : ByteArray} {av : Value} {l : List At} (h : TagZ w g kd nm av l W) : TagZA w g kd nm av l W.heap.size n v (W.alloc (.cells #[.string n, .string v] TAt)) :=
  ⟨h.on ((Below.refl _ _).alloc (Nat.le_refl _) _), heap_alloc_new W _⟩
/-- The last word, where a tag is well. -/
theorem tellZOk {s : ByteArray} {w W : World} {kd : Nat} {nm : ByteArray} {l : List At} {sf : Bool} {q : Nat} {ao : Option Addr} {cap : Nat} {L r : Bytes} {o : Except Nat (Tok × Bytes)} (ho : o = .ok (⟨kd, smallL (before tagStops L), l, sf, []⟩, r)) (hn : bl nm = smallL (before tagStops L)) (hq : q ≤ s.size) (hr : (bl s).drop q = r) (hrow : AtRow W w.heap.size (.slice ao l.length cap) l) :
    ToldZ o s w.heap.size kd nm ao l.length cap sf ⟨#[]⟩ ((q : Nat) : Int) 0 W := by
  subst ho
  exact ⟨rfl, ⟨q, rfl, hq, hr⟩, rfl, eq_mk hn, hrow, rfl, rfl⟩

set_option maxRecDepth 100000 in
set_option maxHeartbeats 8000000 in
theorem tag04_any (s : ByteArray) (i kd : Nat) (hs : s.size ≤ 524288) (hi : i < s.size) (hl : isL (s[i]'hi) = true) (w : World) :
    Calls Tryz.prog 70 #[.string s, .int .i64 (i : Nat), .int .u8 (kd : Nat)] w fun e w' => AnsZ (tagK kd ((bl s).drop i)) s w e w' := by
  have hls := bl_length s
  obtain ⟨k1, h11, h12, h13, h14⟩ := behind_place tagStops (bl s) i (by omega)
  rw [hls] at h12
  obtain ⟨nm0, hnm0⟩ : ∃ x, s.extract i k1 = x := ⟨_, rfl⟩
  have e0 : bl nm0 = before tagStops ((bl s).drop i) := by rw [← hnm0, bl_extract, h14]
  have sn0 : nm0.size ≤ s.size := by rw [← hnm0]; simp; omega
  have sn1 : 0 < nm0.size := by
    rw [← bl_length, e0, drop_at hi]
    exact before_pos hl
  obtain ⟨nm, hnm, e1⟩ : ∃ x : ByteArray, x = ⟨(smallL (bl nm0)).toArray⟩ ∧ bl x = smallL (bl nm0) := ⟨_, rfl, bl_of _⟩
  have sn : nm.size = nm0.size := by rw [← bl_length, e1, small_len, bl_length]
  have hn : bl nm = smallL (before tagStops ((bl s).drop i)) := by rw [e1, e0]
  have HW1 := Lib.hid fun W => word04_at (s := s) (m := ⟨#[47, 62]⟩) (i := i) (k := k1) (by omega) (by decide) (by omega) h12 h13 W
  have HS := Lib.hid fun W => refSmall_any nm0 (by omega) W
  rw [← hnm] at HS
  have hO := fun W => of04_any nm ⟨#[]⟩ (by omega) (by decide) W
  rw [show bl (⟨#[]⟩ : ByteArray) = [] from rfl, decide_eq_true (show 0 < nm.size by omega), Bool.and_true, hn] at hO
  have hi1 : (i : Int) ≤ k1 := by omega
  have hk1 : (k1 : Int) ≤ s.size := by omega
  obtain ⟨L, hL⟩ : ∃ L, (bl s).drop i = L := ⟨_, rfl⟩
  rw [hL] at hn h13 hO ⊢
  obtain ⟨o, ho⟩ : ∃ o, tagK kd L = o := ⟨_, rfl⟩
  rw [ho]
  obtain ⟨z, hz⟩ : ∃ z, wordL [] (smallL (before tagStops L)) = z := ⟨_, rfl⟩
  rw [hz] at hO
  have HO := Lib.hid hO
  have HN := Lib.hid hn
  clear hnm h14 e0 e1 sn0 sn1 sn hO hn hL hl
  cases z with
  | false =>
    have HE := Lib.hid (ho.symm.trans (tagK_bad hz))
    clear ho hz hls h13
    go_enter Tryz.func70, Tryz.ntmps70
    go_big_wp2_with (first
      | (go_at_call_of 108 (Value.string ⟨#[47, 62]⟩); refine (HW1.out _).mono ?_; rintro e w1 ⟨rfl, rfl⟩)
      | (go_at_call 37; refine (HS.out _).mono ?_; rintro e w2 ⟨rfl, hb2⟩; have HG := Lib.hid (tagZStart kd (nm := nm) (by simpa using hb2)); obtain ⟨⟨x0, x1, x2, x3, x4⟩, y0, y1, y2, y3, y4⟩ := local5 HG.out.tok; obtain ⟨⟨r0, r1, r2, r3, r4⟩, t0, t1, t2, t3, t4⟩ := local5 HG.out.res)
      | (go_at_call 109; refine (HO.out _).mono ?_; rintro e w3 ⟨rfl, rfl⟩))
    refine bodyPost_ret (results_row_tmp2 rfl _ _ w.heap.size TZk _ _ _ rfl (set5 HG.out.res) Tryz.underlying66 rfl (by kernel_rfl)) rfl ?_
    exact ⟨_, _, _, _, _, _, _, _, _, rfl, ((((HG.out.below.setCell (Nat.le_refl _) _).setCell (Nat.le_refl _) _).setCell (Nat.le_refl _) _).setCell (Nat.le_refl _) _).setCell (Nat.le_refl _) _, by rw [HE.out]; rfl⟩
  | true =>
    have HO2 := Lib.hid ho
    have HZ := Lib.hid hz
    have H13 := Lib.hid h13
    clear ho hz h13
    go_enter Tryz.func70, Tryz.ntmps70
    go_big_wp2_with (first
      | (go_at_call_of 108 (Value.string ⟨#[47, 62]⟩); refine (HW1.out _).mono ?_; rintro e w1 ⟨rfl, rfl⟩)
      | (go_at_call 37; refine (HS.out _).mono ?_; rintro e w2 ⟨rfl, hb2⟩; have HG := Lib.hid (tagZStart kd (nm := nm) (by simpa using hb2)); obtain ⟨⟨x0, x1, x2, x3, x4⟩, y0, y1, y2, y3, y4⟩ := local5 HG.out.tok; obtain ⟨⟨r0, r1, r2, r3, r4⟩, t0, t1, t2, t3, t4⟩ := local5 HG.out.res)
      | (go_at_call 109; refine (HO.out _).mono ?_; rintro e w3 ⟨rfl, rfl⟩))
    clear x0 x1 x2 x3 x4 y0 y1 y2 y3 y4 r0 r1 r2 r3 r4 t0 t1 t2 t3 t4
    go_loopw [9] (fun v wr => ∃ (k : Nat) (av : Value) (l : List At), v = .int .i64 (k : Nat) ∧ k ≤ s.size ∧ l.length ≤ 16 ∧ Hid (TagZ w w2.heap.size kd nm av l wr) ∧ Hid (attrsL l ((bl s).drop k) = attrsL [] (behind tagStops L))) (fun v _ => s.size - (RowKit.intOf v).toNat)
    case atStart => exact ⟨k1, .slice none 0 0, [], rfl, h12, by simp, HG, Lib.hid (by rw [H13.out])⟩
    case round =>
      clear HG
      obtain ⟨k, av, l, rfl, hks, hl16, HG, HA⟩ := hrel
      obtain ⟨ao, cap, hav, hrd⟩ := HG.out.row.reads
      subst hav
      clear hrd
      have hlt := HG.out.lt
      have hd1 := Nat.ne_of_lt hlt
      have hd2 := (Nat.ne_of_lt hlt).symm
      obtain ⟨k2, h21, h22, h23⟩ := skip_place (bl s) k (by omega)
      rw [hls] at h22
      have HK := Lib.hid fun W => skip04_at (s := s) (i := k) (k := k2) (by omega) hks h22 h23 W
      have hst := attrsL_step l ((bl s).drop k)
      rw [← h23] at hst
      obtain ⟨⟨x0, x1, x2, x3, x4⟩, y0, y1, y2, y3, y4⟩ := local5 HG.out.tok; obtain ⟨⟨r0, r1, r2, r3, r4⟩, t0, t1, t2, t3, t4⟩ := local5 HG.out.res
      clear h23
      by_cases hk2 : k2 = s.size
      · have hx : attrsL l ((bl s).drop k) = .error 40 := by rw [hst, hk2, List.drop_eq_nil_of_le (by omega)]
        have HE := Lib.hid (HO2.out.symm.trans (tagK_err (kd := kd) HZ.out HA.out hx))
        clear hst hx
        subst hk2
        go_big_wp2_with (first
          | (go_at_call 110; refine (HK.out _).mono ?_; rintro e w4 ⟨rfl, rfl⟩))
        refine bodyPost_ret (results_row_tmp2 rfl _ _ w.heap.size TZk _ _ _ rfl (set5 HG.out.res) Tryz.underlying66 rfl (by kernel_rfl)) rfl ?_
        exact ⟨_, _, _, _, _, _, _, _, _, rfl, ((((HG.out.below.setCell (Nat.le_refl _) _).setCell (Nat.le_refl _) _).setCell (Nat.le_refl _) _).setCell (Nat.le_refl _) _).setCell (Nat.le_refl _) _, by rw [HE.out]; rfl⟩
      · have hk2l : k2 < s.size := by omega
        have hk2I : (k2 : Int) < s.size := by omega
        have hk2b : ((k2 : Int) == (s.size : Int)) = false := by rw [beq_eq_false_iff_ne]; omega
        have hd2 := drop_at hk2l
        obtain ⟨x, hx⟩ : ∃ x, s[k2]'hk2l = x := ⟨_, rfl⟩
        rw [hx] at hd2
        rw [hd2] at hst
        simp only at hst
        by_cases e62 : x = 62
        · rw [e62] at hst hx
          rw [if_pos rfl] at hst
          have htk := HO2.out.symm.trans (tagK_ok (kd := kd) HZ.out HA.out hst)
          clear hst hd2 e62
          have hs47 : (((62 : UInt8).toNat : Int) == 47) = false := by decide
          by_cases hk : kd = 2
          · have hkb : ((kd : Int) == 2) = true := by rw [beq_iff_eq]; omega
            by_cases hl0 : l = []
            · have HE := Lib.hid (htk.trans (if_neg (by rw [hl0]; simp)))
              have hln : ¬ (0 : Int) < l.length := by rw [hl0]; simp
              clear htk hl0 hk
              go_big_wp2_with (first
                | (go_at_call 110; refine (HK.out _).mono ?_; rintro e w4 ⟨rfl, rfl⟩))
              refine bodyPost_ret (results_row_tmp2 rfl _ _ w.heap.size TZk _ _ _ rfl (set5 HG.out.res) Tryz.underlying66 rfl (by kernel_rfl)) rfl ?_
              exact ⟨kd, nm, ao, l.length, cap, false, ⟨#[]⟩, ((k2 + 1 : Nat) : Int), 0, rfl, ((((HG.out.below.setCell (Nat.le_refl _) _).setCell (Nat.le_refl _) _).setCell (Nat.le_refl _) _).setCell (Nat.le_refl _) _).setCell (Nat.le_refl _) _, tellZOk HE.out HN.out (by omega) rfl (HG.out.row.newrow HG.out.res (by decide) _ _ _ _ _)⟩
            · have HE := Lib.hid (htk.trans (if_pos ⟨hk, .inr hl0⟩))
              have hln : (0 : Int) < l.length := by have := List.length_pos_iff.2 hl0; omega
              clear htk hl0 hk
              go_big_wp2_with (first
                | (go_at_call 110; refine (HK.out _).mono ?_; rintro e w4 ⟨rfl, rfl⟩))
              refine bodyPost_ret (results_row_tmp2 rfl _ _ w.heap.size TZk _ _ _ rfl (set5 HG.out.res) Tryz.underlying66 rfl (by kernel_rfl)) rfl ?_
              exact ⟨_, _, _, _, _, _, _, _, _, rfl, ((((HG.out.below.setCell (Nat.le_refl _) _).setCell (Nat.le_refl _) _).setCell (Nat.le_refl _) _).setCell (Nat.le_refl _) _).setCell (Nat.le_refl _) _, by rw [HE.out]; rfl⟩
          · have hkb : ((kd : Int) == 2) = false := by rw [beq_eq_false_iff_ne]; omega
            have HE := Lib.hid (htk.trans (if_neg (by simp [hk])))
            clear htk hk
            go_big_wp2_with (first
              | (go_at_call 110; refine (HK.out _).mono ?_; rintro e w4 ⟨rfl, rfl⟩))
            refine bodyPost_ret (results_row_tmp2 rfl _ _ w.heap.size TZk _ _ _ rfl (set5 HG.out.res) Tryz.underlying66 rfl (by kernel_rfl)) rfl ?_
            exact ⟨kd, nm, ao, l.length, cap, false, ⟨#[]⟩, ((k2 + 1 : Nat) : Int), 0, rfl, ((((HG.out.below.setCell (Nat.le_refl _) _).setCell (Nat.le_refl _) _).setCell (Nat.le_refl _) _).setCell (Nat.le_refl _) _).setCell (Nat.le_refl _) _, tellZOk HE.out HN.out (by omega) rfl (HG.out.row.newrow HG.out.res (by decide) _ _ _ _ _)⟩
        · have hb62 : ((x.toNat : Int) == 62) = false := by rw [beq_eq_false_iff_ne]; intro e; apply e62; apply UInt8.toNat_inj.1; show x.toNat = 62; omega
          rw [if_neg e62] at hst
          have hAt := fun W => at04_any s ⟨#[47, 62]⟩ k2 (by omega) (by decide) (by omega) W
          rw [show bl (⟨#[47, 62]⟩ : ByteArray) = [47, 62] from rfl] at hAt
          by_cases e47 : x = 47
          · rw [e47] at hst hx hd2 hb62
            rw [if_pos rfl] at hst
            have hs47 : (((47 : UInt8).toNat : Int) == 47) = true := by decide
            by_cases ht : ((bl s).drop (k2 + 1)).head? = some 62
            · obtain ⟨u, hu⟩ : ∃ u, (bl s).drop (k2 + 1) = 62 :: u := by
                cases hc : (bl s).drop (k2 + 1) with
                | nil => rw [hc] at ht; simp at ht
                | cons c u => rw [hc] at ht; simp at ht; exact ⟨u, by rw [ht]⟩
              have hk3 : k2 + 1 < s.size := by have := congrArg List.length hu; rw [List.length_drop, hls] at this; simp at this; omega
              have hdu : (bl s).drop (k2 + 2) = u := by have := drop_at hk3; rw [hu] at this; exact (List.cons.inj this).2.symm
              have h2 : hasPrefix ((bl s).drop k2) [47, 62] = true := by rw [hd2, hu]; rfl
              rw [h2] at hAt
              have HAt := Lib.hid hAt
              have hst2 : attrsL l ((bl s).drop k) = .ok (l, true, (bl s).drop (k2 + 2)) := by rw [hst, hu, hdu]; rfl
              have htk := HO2.out.symm.trans (tagK_ok (kd := kd) HZ.out HA.out hst2)
              have hk3I : (k2 : Int) + 1 < s.size := by omega
              have hres7 : Hid ((wr.setCell ⟨w2.heap.size, 3, none⟩ (.bool true)).heap[w.heap.size]? = some (.cells tokZero TZk (0, 0))) := Lib.hid (by rw [heap_setCell_other _ _ _ _ (by exact hd1)]; exact HG.out.res)
              have hbel7 : Hid (Below w.heap.size w (wr.setCell ⟨w2.heap.size, 3, none⟩ (.bool true))) := Lib.hid (HG.out.below.setCell (Nat.le_of_lt hlt) _)
              have hrow7 : Hid (AtRow (wr.setCell ⟨w2.heap.size, 3, none⟩ (.bool true)) w.heap.size (.slice ao l.length cap) l) := Lib.hid (HG.out.row.kept HG.out.tok (by decide) (grown_set _ _ _ _))
              clear hst hst2 hAt h2 hd2 hu hdu ht
              by_cases hk : kd = 2
              · have hkb : ((kd : Int) == 2) = true := by rw [beq_iff_eq]; omega
                have HE := Lib.hid (htk.trans (if_pos ⟨hk, .inl rfl⟩))
                clear htk hk
                go_big_wp2_with (first
                  | (go_at_call 110; refine (HK.out _).mono ?_; rintro e w4 ⟨rfl, rfl⟩)
                  | (go_at_call 71; refine (HAt.out _).mono ?_; rintro e w5 ⟨rfl, rfl⟩))
                refine bodyPost_ret (results_row_tmp2 rfl _ _ w.heap.size TZk _ _ _ rfl (set5 hres7.out) Tryz.underlying66 rfl (by kernel_rfl)) rfl ?_
                exact ⟨_, _, _, _, _, _, _, _, _, rfl, ((((hbel7.out.setCell (Nat.le_refl _) _).setCell (Nat.le_refl _) _).setCell (Nat.le_refl _) _).setCell (Nat.le_refl _) _).setCell (Nat.le_refl _) _, by rw [HE.out]; rfl⟩
              · have hkb : ((kd : Int) == 2) = false := by rw [beq_eq_false_iff_ne]; omega
                have HE := Lib.hid (htk.trans (if_neg (by simp [hk])))
                clear htk hk
                go_big_wp2_with (first
                  | (go_at_call 110; refine (HK.out _).mono ?_; rintro e w4 ⟨rfl, rfl⟩)
                  | (go_at_call 71; refine (HAt.out _).mono ?_; rintro e w5 ⟨rfl, rfl⟩))
                refine bodyPost_ret (results_row_tmp2 rfl _ _ w.heap.size TZk _ _ _ rfl (set5 hres7.out) Tryz.underlying66 rfl (by kernel_rfl)) rfl ?_
                exact ⟨kd, nm, ao, l.length, cap, true, ⟨#[]⟩, ((k2 + 2 : Nat) : Int), 0, by rw [show ((k2 + 2 : Nat) : Int) = (k2 : Int) + 1 + 1 by omega]; rfl, ((((hbel7.out.setCell (Nat.le_refl _) _).setCell (Nat.le_refl _) _).setCell (Nat.le_refl _) _).setCell (Nat.le_refl _) _).setCell (Nat.le_refl _) _, tellZOk HE.out HN.out (by omega) rfl (hrow7.out.newrow hres7.out (by decide) _ _ _ _ _)⟩
            · have h2 : hasPrefix ((bl s).drop k2) [47, 62] = false := by
                rw [hd2]
                cases hc : (bl s).drop (k2 + 1) with
                | nil => rfl
                | cons c u =>
                  show ((47 : UInt8) == 47 && ((62 : UInt8) == c && List.isPrefixOf [] u)) = false
                  have : (62 : UInt8) ≠ c := fun e => ht (by simp [hc, e])
                  simp [this]
              rw [h2] at hAt
              have HAt := Lib.hid hAt
              have hst2 : attrsL l ((bl s).drop k) = .error 40 := by
                rw [hst]
                cases hc : (bl s).drop (k2 + 1) with
                | nil => rfl
                | cons c u =>
                  have : c ≠ 62 := fun e => ht (by simp [hc, e])
                  simp only [this, if_false]
              have HE := Lib.hid (HO2.out.symm.trans (tagK_err (kd := kd) HZ.out HA.out hst2))
              clear hst hst2 hAt h2 hd2 ht
              go_big_wp2_with (first
                | (go_at_call 110; refine (HK.out _).mono ?_; rintro e w4 ⟨rfl, rfl⟩)
                | (go_at_call 71; refine (HAt.out _).mono ?_; rintro e w5 ⟨rfl, rfl⟩))
              refine bodyPost_ret (results_row_tmp2 rfl _ _ w.heap.size TZk _ _ _ rfl (set5 HG.out.res) Tryz.underlying66 rfl (by kernel_rfl)) rfl ?_
              exact ⟨_, _, _, _, _, _, _, _, _, rfl, ((((HG.out.below.setCell (Nat.le_refl _) _).setCell (Nat.le_refl _) _).setCell (Nat.le_refl _) _).setCell (Nat.le_refl _) _).setCell (Nat.le_refl _) _, by rw [HE.out]; rfl⟩
          · rw [if_neg e47] at hst
            have hs47 : ((x.toNat : Int) == 47) = false := by rw [beq_eq_false_iff_ne]; intro e; apply e47; apply UInt8.toNat_inj.1; show x.toNat = 47; omega
            have h2 : hasPrefix ((bl s).drop k2) [47, 62] = false := by
              rw [hd2]
              show ((47 : UInt8) == x && List.isPrefixOf [62] ((bl s).drop (k2 + 1))) = false
              have : (47 : UInt8) ≠ x := fun e => e47 e.symm
              simp [this]
            rw [h2] at hAt
            have HAt := Lib.hid hAt
            rw [← hd2] at hst
            have hq := fun W => attr04_any s k2 hs (by omega) W
            clear hAt h2 e47 e62
            cases ha : attrL ((bl s).drop k2) with
            | none =>
              rw [ha] at hq hst
              have HQ := Lib.hid hq
              have HE := Lib.hid (HO2.out.symm.trans (tagK_err (kd := kd) HZ.out HA.out hst))
              clear hst hd2 ha hq x0 x1 x2 x3 x4 y0 y1 y2 y3 y4 r0 r1 r2 r3 r4 t0 t1 t2 t3 t4
              go_big_wp2_with (first
                | (go_at_call 110; refine (HK.out _).mono ?_; rintro e w4 ⟨rfl, rfl⟩)
                | (go_at_call 71; refine (HAt.out _).mono ?_; rintro e w5 ⟨rfl, rfl⟩)
                | (go_at_call 111; refine (HQ.out _).mono ?_; rintro e w6 ⟨n, vb, kq, er, rfl, hb6, hT⟩; have HG6 := Lib.hid (HG.out.on hb6); have her : er = 41 := hT; subst her; have HG7 := Lib.hid (tagZA_new (n := n) (v := vb) HG6.out).tag; obtain ⟨⟨x0, x1, x2, x3, x4⟩, y0, y1, y2, y3, y4⟩ := local5 HG7.out.tok; obtain ⟨⟨r0, r1, r2, r3, r4⟩, t0, t1, t2, t3, t4⟩ := local5 HG7.out.res))
              refine bodyPost_ret (results_row_tmp2 rfl _ _ w.heap.size TZk _ _ _ rfl (set5 HG7.out.res) Tryz.underlying66 rfl (by kernel_rfl)) rfl ?_
              exact ⟨_, _, _, _, _, _, _, _, _, rfl, ((((HG7.out.below.setCell (Nat.le_refl _) _).setCell (Nat.le_refl _) _).setCell (Nat.le_refl _) _).setCell (Nat.le_refl _) _).setCell (Nat.le_refl _) _, by rw [HE.out]; rfl⟩
            | some ar =>
              obtain ⟨⟨an, vn⟩, r⟩ := ar
              have hrl := attr_len ha
              rw [List.length_drop, hls] at hrl
              rw [ha] at hq hst
              simp only at hst
              have HQ := Lib.hid hq
              have HF := Lib.hid hst
              obtain ⟨i0, hi0, hz0, hz1, hz2⟩ := info_parts Tryz.infoAttr
              clear hst hd2 ha hq x0 x1 x2 x3 x4 y0 y1 y2 y3 y4 r0 r1 r2 r3 r4 t0 t1 t2 t3 t4
              go_big_wp2_with (first
                | (go_at_call 110; refine (HK.out _).mono ?_; rintro e w4 ⟨rfl, rfl⟩)
                | (go_at_call 71; refine (HAt.out _).mono ?_; rintro e w5 ⟨rfl, rfl⟩)
                | (go_at_call 111; refine (HQ.out _).mono ?_; rintro e w6 ⟨n, vb, kq, er, rfl, hb6, hT⟩; have HG6 := Lib.hid (HG.out.on hb6); obtain ⟨her, hnn, hvv, q, hkq, hqs, hqr⟩ := hT; subst her; subst hkq; have HNN := Lib.hid hnn; have HQR := Lib.hid hqr; have HG7 := Lib.hid (tagZA_new (n := n) (v := vb) HG6.out); have HV := Lib.hid hvv; clear hnn hqr hvv; obtain ⟨⟨x0, x1, x2, x3, x4⟩, y0, y1, y2, y3, y4⟩ := local5 HG7.out.tag.tok))
              have hql : k2 < q := by have := congrArg List.length HQR.out; rw [List.length_drop, hls] at this; omega
              clear x0 x1 x2 x3 x4 y0 y1 y2 y3 y4
              go_loopw [14] (fun v wr => ∃ j : Nat, v = .int .i64 (j : Nat) ∧ j ≤ l.length ∧ Hid (TagZA w w2.heap.size kd nm (.slice ao l.length cap) l w6.heap.size n vb wr) ∧ Hid (NoName n l j)) (fun v _ => l.length - (RowKit.intOf v).toNat)
              case atStart => exact ⟨0, rfl, Nat.zero_le _, HG7, Lib.hid fun j a h => by omega⟩
              case round =>
                clear HG7 HG6
                obtain ⟨j, rfl, hj, HGA, HNo⟩ := hrel
                obtain ⟨⟨x0, x1, x2, x3, x4⟩, y0, y1, y2, y3, y4⟩ := local5 HGA.out.tag.tok
                obtain ⟨p0, p1, _, _⟩ := local2 HGA.out.att
                by_cases hjl : j < l.length
                · have hjI : (j : Int) < l.length := by omega
                  obtain ⟨⟨a1, a2⟩, ha⟩ : ∃ a, l[j]? = some a := ⟨l[j], by simp [hjl]⟩
                  obtain ⟨ao', cap', e, hrd⟩ := HGA.out.tag.row.reads
                  obtain ⟨rfl, rfl⟩ : ao = ao' ∧ cap = cap' := by simpa using e
                  obtain ⟨g, rfl, c1, c2⟩ := hrd.at_ j _ ha
                  simp only at c1 c2
                  have HAj := Lib.hid ha
                  clear ha hrd e
                  obtain ⟨xb, hxb⟩ : ∃ x : ByteArray, (⟨a1.toArray⟩ : ByteArray) = x := ⟨_, rfl⟩
                  have hbx : bl xb = a1 := by rw [← hxb, bl_of]
                  have hbn : bl n = an := by rw [HNN.out, bl_of]
                  rw [hxb] at c1
                  by_cases hxn : xb = n
                  · have HE : Hid (o = .error 41) := Lib.hid (HO2.out.symm.trans (tagK_err (kd := kd) HZ.out HA.out (by rw [HF.out, if_pos (List.any_eq_true.2 ⟨_, List.mem_of_getElem? HAj.out, by show (a1 == an) = true; rw [← hbx, ← hbn, hxn]; simp⟩)])))
                    subst hxn
                    clear hbx hbn hxb
                    obtain ⟨⟨r0, r1, r2, r3, r4⟩, t0, t1, t2, t3, t4⟩ := local5 HGA.out.tag.res
                    go_big_wp2
                    go_quiet (fail)
                    go_big_wp2
                    refine bodyPost_ret (results_row_tmp2 rfl _ _ w.heap.size TZk _ _ _ rfl (set5 (HGA.out.on (below_drewN (Below.refl wr.heap.size wr) _)).tag.res) Tryz.underlying66 rfl (by kernel_rfl)) rfl ?_
                    exact ⟨_, _, _, _, _, _, _, _, _, rfl, (((((HGA.out.on (below_drewN (Below.refl wr.heap.size wr) _)).tag.below.setCell (Nat.le_refl _) _).setCell (Nat.le_refl _) _).setCell (Nat.le_refl _) _).setCell (Nat.le_refl _) _).setCell (Nat.le_refl _) _, by rw [HE.out]; rfl⟩
                  · have hn2 : ¬ xb.toList = n.toList := by rw [Lib.toList_data, Lib.toList_data]; exact fun e => hxn (ByteArray.ext (Array.toList_inj.1 e))
                    have hn4 : (xb.toList == n.toList) = false := beq_eq_false_iff_ne.2 hn2
                    have HNx : Hid ((a1 == bl n) = false) := Lib.hid (by rw [← hbx]; exact beq_eq_false_iff_ne.2 fun e => hxn (ByteArray.ext (Array.toList_inj.1 e)))
                    clear hbx hbn hxb hxn
                    go_big_wp2
                    go_quiet (fail)
                    go_big_wp2
                    refine ⟨⟨j + 1, by go_num, by omega, Lib.hid (HGA.out.on (below_drewN (Below.refl _ _) _)), Lib.hid fun i b hi hb => ?_⟩, by simp [RowKit.intOf]; omega⟩
                    by_cases e : i = j
                    · subst e; rw [HAj.out] at hb; cases hb; exact HNx.out
                    · exact HNo.out i b (by omega) hb
                · obtain rfl : j = l.length := by omega
                  have hany := noName_all HNo.out
                  rw [show bl n = an by rw [HNN.out, bl_of]] at hany
                  have hst3 := HF.out
                  rw [if_neg (by rw [hany]; decide)] at hst3
                  by_cases h16 : l.length = 16
                  · have h16b : ((l.length : Int) == 16) = true := by rw [beq_iff_eq]; omega
                    have HE : Hid (o = .error 3) := Lib.hid (HO2.out.symm.trans (tagK_err (kd := kd) HZ.out HA.out (hst3.trans (if_pos (by omega)))))
                    obtain ⟨⟨r0, r1, r2, r3, r4⟩, t0, t1, t2, t3, t4⟩ := local5 HGA.out.tag.res
                    clear hst3 hany h16
                    go_big_wp2
                    refine bodyPost_ret (results_row_tmp2 rfl _ _ w.heap.size TZk _ _ _ rfl (set5 HGA.out.tag.res) Tryz.underlying66 rfl (by kernel_rfl)) rfl ?_
                    exact ⟨_, _, _, _, _, _, _, _, _, rfl, ((((HGA.out.tag.below.setCell (Nat.le_refl _) _).setCell (Nat.le_refl _) _).setCell (Nat.le_refl _) _).setCell (Nat.le_refl _) _).setCell (Nat.le_refl _) _, by rw [HE.out]; rfl⟩
                  · have h16b : ((l.length : Int) == 16) = false := by rw [beq_eq_false_iff_ne]; omega
                    have hl15 : l.length < 16 := by omega
                    rw [if_neg (by omega), ← HQR.out] at hst3
                    have HF3 := Lib.hid hst3
                    have HG10 := Lib.hid (HGA.out.on ((Below.refl _ _).alloc (Nat.le_refl _) (.cells #[.string n, .string vb] 35)))
                    clear hst3 hany h16
                    go_big_wp2_with (at_builtin; refine wpList_append_own_at _ rfl _ _ 31 rfl w.heap.size 35 i0 _ 2 32 Tryz.underlying31 hi0 hz0 hz1 hz2 rfl (by decide) _ l.length (attrCells l) rfl HG10.out.tag.row ⟨wr.heap.size, 0, none⟩ 1 1 [.string n, .string vb] rfl ?c1 ?c2 ?c3 ?c4 ?c5 ?c6 ?_)
                    case c1 => rfl
                    case c2 => exact news_alloc wr [.string n, .string vb] 35
                    case c3 => intro u hu; simp only [List.mem_cons, List.not_mem_nil, or_false] at hu; rcases hu with rfl | rfl <;> rfl
                    case c4 => unfold maxLen; omega
                    case c5 => omega
                    case c6 => exact HG10.out.tag.below.size
                    intro v' W hown' hgrow _ _
                    rw [HNN.out, HV.out, ← attrCells_snoc l (an, vn)] at hown'
                    have hrow' : AtRow W w.heap.size v' (l ++ [(an, vn)]) := by
                      unfold AtRow
                      rw [List.length_append]
                      exact hown'
                    obtain ⟨a1, cap1, hv'⟩ := sliceOf hown'
                    subst hv'
                    obtain ⟨hW, hTag⟩ := HG10.out.tag.grew hgrow hrow'
                    have HN2 := Lib.hid hTag
                    clear x0 x1 x2 x3 x4 y0 y1 y2 y3 y4
                    obtain ⟨⟨x0, x1, x2, x3, x4⟩, y0, y1, y2, y3, y4⟩ := local5 hW
                    clear hTag hW hrow' hown' hgrow
                    go_big_wp2
                    exact ⟨⟨q, _, _, rfl, hqs, by simp; omega, HN2, Lib.hid (HF3.out.symm.trans HA.out)⟩, by simp [RowKit.intOf]; omega⟩
end Go.Proofs.YtfjphhmbnhglcaaGreatDoor
namespace Go.Proofs.YtfjphhmbnhglcaaGreatDoor
open Go.RowKit Go.RunKit Go.CharrefKit Go.Lib Go.TokenKit
theorem tagsZ_any (s : ByteArray) (hs : s.size ≤ 524288) : TagsZ s :=
  ⟨fun j hj W hl => by
    have := tag04_any s j 1 hs hj hl W
    rw [tagK_one] at this
    exact this, fun j hj W hl => by
    have := tag04_any s j 2 hs hj hl W
    rw [drop_at hj, tagK_end hl, ← drop_at hj] at this
    exact this⟩
theorem one04_any (s : ByteArray) (i : Nat) (hs : s.size ≤ 524288) (hi : i < s.size) (w : World) :
    Calls Tryz.prog 40 #[.string s, .int .i64 (i : Nat)] w fun e w' => AnsZ (oneL ((bl s).drop i)) s w e w' :=
  one_of s i hs hi (tagsZ_any s hs) w
theorem zero_first : ∀ {l : Bytes} {k : Nat}, (∀ j b, j < k → l[j]? = some b → b ≠ 0) → l[k]? = some 0 → l.contains 0 = true ∧ (before [0] l).length = k
  | [], k, _, h => by simp at h
  | x :: r, 0, _, h => by
    simp only [List.getElem?_cons_zero, Option.some.injEq] at h
    subst h
    exact ⟨by simp, by simp [before]⟩
  | x :: r, k + 1, hn, h => by
    have hx : x ≠ 0 := hn 0 x (by omega) rfl
    obtain ⟨h1, h2⟩ := zero_first (l := r) (k := k) (fun j b hj hb => hn (j + 1) b (by omega) (by simpa using hb)) (by simpa using h)
    refine ⟨?_, ?_⟩
    · rw [List.contains_iff_mem] at h1 ⊢
      exact List.mem_cons_of_mem _ h1
    · unfold before at h2 ⊢
      rw [List.takeWhile_cons_of_pos (by simp [hx])]
      simpa using h2
theorem zero_none {l : Bytes} (h : ∀ j b, j < l.length → l[j]? = some b → b ≠ 0) : l.contains 0 = false := by
  rw [Bool.eq_false_iff]
  intro hc
  rw [List.contains_iff_mem] at hc
  obtain ⟨j, hj⟩ := List.mem_iff_getElem?.1 hc
  exact h j 0 (List.getElem?_eq_some_iff.1 hj).1 hj rfl
/-- What is held at the loop's head. -/
structure RowsZ (w : World) (s : ByteArray) (i : Nat) (v : Value) (L : List (Tok × Value)) (wr : World) : Prop where
  below : Below w.heap.size w wr
  row : TkRow TZk wr w.heap.size v L
  size : L.length ≤ i
  le : i ≤ s.size
  spec : joinT (L.map (·.1)) (toksAt i ((bl s).drop i)) = toksAt 0 (bl s)

theorem Tryz.infoTokZ : (Tryz.prog.info? 66).map (fun i => (i.zero, i.size, i.bytes)) = some (some (.agg #[.int .u8 0, .string ⟨#[]⟩, .slice none 0 0, .bool false, .string ⟨#[]⟩]), 5, 72) := by kernel_rfl

set_option maxRecDepth 100000 in
set_option maxHeartbeats 4000000 in
theorem tokens04_any (s : ByteArray) (w : World) :
    Calls Tryz.prog 15 #[.string s] w fun e w' => ∃ v L er pl, e = .returned (.tuple #[v, .int .i64 ((er : Nat) : Int), .int .i64 ((pl : Nat) : Int)]) ∧ Below w.heap.size w w' ∧ TkRow TZk w' w.heap.size v L ∧ (L.map (·.1), er, pl) = answerL (bl s) := by
  have hlen := bl_length s
  by_cases hbig : 65536 < s.size
  · have hI : (65536 : Int) < s.size := by omega
    have ha : answerL (bl s) = ([], 3, 0) := by unfold answerL; rw [if_pos (by rw [hlen]; exact hbig)]
    rw [ha]
    go_enter Tryz.func15, Tryz.ntmps15
    go_big_wp2
    go_ret3
    exact ⟨_, [], 3, 0, rfl, Below.refl _ _, TkRow.nil _ _ _, rfl⟩
  · have hI : ¬ (65536 : Int) < s.size := by omega
    obtain ⟨an, han⟩ : ∃ an, answerL (bl s) = an := ⟨_, rfl⟩
    rw [han]
    have HAn := Lib.hid han
    have T0 : Hid (RowsZ w s 0 (.slice none 0 0) [] w) := Lib.hid ⟨Below.refl _ _, TkRow.nil _ _ _, Nat.le_refl _, Nat.zero_le _, joinT_nil _⟩
    have hb16 : s.size ≤ 65536 := by omega
    clear han hbig
    go_enter Tryz.func15, Tryz.ntmps15
    go_big_wp2
    go_loop [5] (fun v => ∃ k : Nat, v = .int .i64 (k : Nat) ∧ k ≤ s.size ∧ Hid (∀ j b, j < k → (bl s)[j]? = some b → b ≠ 0)) (fun v => s.size - (RowKit.intOf v).toNat)
    case atStart => exact ⟨0, rfl, Nat.zero_le _, Lib.hid fun j b h => by omega⟩
    case round =>
      obtain ⟨k, rfl, hk, HN⟩ := hrel
      by_cases hkl : k < s.size
      · have hkI : (k : Int) < s.size := by omega
        obtain ⟨x, hx⟩ : ∃ x, s[k]'hkl = x := ⟨_, rfl⟩
        have hxl : (bl s)[k]? = some x := by rw [← hx]; exact Lib.data_getElem? s k hkl
        have HX := Lib.hid hxl
        clear hxl
        by_cases h0 : x = 0
        · subst h0
          obtain ⟨hz1, hz2⟩ := zero_first HN.out HX.out
          have HE : Hid (an = ([], 42, k)) := Lib.hid (by
            rw [← HAn.out]; unfold answerL
            rw [if_neg (by rw [hlen]; omega), if_pos hz1, hz2])
          clear hz1 hz2
          go_big_wp2
          go_ret3
          exact ⟨_, [], 42, k, rfl, Below.refl _ _, TkRow.nil _ _ _, HE.out.symm⟩
        · have hx0 : ((x.toNat : Int) == 0) = false := by rw [beq_eq_false_iff_ne]; intro e; apply h0; apply UInt8.toNat_inj.1; show x.toNat = 0; omega
          have H0 := Lib.hid h0
          clear h0
          go_big_wp2
          refine ⟨⟨k + 1, by go_num, by omega, Lib.hid fun j b hj hb => ?_⟩, by simp [RowKit.intOf]; omega⟩
          by_cases e : j = k
          · subst e; rw [HX.out] at hb; cases hb; exact H0.out
          · exact HN.out j b (by omega) hb
      · obtain rfl : k = s.size := by omega
        have hc := zero_none (l := bl s) (fun j b hj => HN.out j b (by omega))
        have HAns : Hid (an = (match toksAt 0 (bl s) with
            | .error (e, p) => ([], e, p)
            | .ok ts => (ts, 0, 0))) := Lib.hid (by
          rw [← HAn.out]; unfold answerL
          rw [if_neg (by rw [hlen]; omega), hc]; rfl)
        clear hc HN HAn
        go_big_wp2
        go_loopw [6, 7] (fun v i wr => ∃ (k : Nat) (L : List (Tok × Value)), i = .int .i64 (k : Nat) ∧ Hid (RowsZ w s k v L wr)) (fun _ i _ => s.size - (RowKit.intOf i).toNat)
        case atStart => exact ⟨0, [], rfl, T0⟩
        case round =>
          clear T0
          obtain ⟨k, L, rfl, HT⟩ := hrel
          obtain ⟨ao, cap, hv⟩ := sliceOf HT.out.row.row
          subst hv
          have hks := HT.out.le
          have hLk := HT.out.size
          by_cases hkl : k < s.size
          · have hkI : (k : Int) < s.size := by omega
            have hone := one04_any s k (by omega) hkl wr
            have hbne : (bl s).drop k ≠ [] := by rw [drop_at hkl]; simp
            cases ho : oneL ((bl s).drop k) with
            | error y =>
              rw [ho] at hone
              have hy0 : ¬ y = 0 := by have := oneL_err ho; omega
              have hyI : ¬ (y : Int) = 0 := by omega
              have hyb : ((y : Int) != 0) = true := by rw [bne_iff_ne]; omega
              have hfin : an = ([], y, k) := by
                have h1 := HAns.out
                have h2 := HT.out.spec
                rw [joinT_err hbne ho] at h2
                rw [← h2] at h1
                exact h1
              have HF := Lib.hid hfin
              have HO := Lib.hid hone
              clear ho hfin hbne hone
              go_big_wp2_with (go_at_call 40; refine HO.out.mono ?_; rintro e w3 ⟨kd, nm, ao2, m2, cap2, sf, d, k3, er, rfl, hb3, ht⟩; have hte : er = (y : Nat) := ht; subst hte; have HB3 := Lib.hid hb3; clear ht hb3)
              go_ret3
              exact ⟨_, [], y, k, rfl, HT.out.below.trans ((HB3.out.trans ((Below.refl w3.heap.size w3).alloc (Nat.le_refl _) _ |>.mono HB3.out.size)).mono HT.out.below.size), TkRow.nil _ _ _, HF.out.symm⟩
            | ok y =>
              obtain ⟨tk, r⟩ := y
              rw [ho] at hone
              have hrl := one_len hbne ho
              rw [List.length_drop, hlen] at hrl
              have hsp := HT.out.spec
              rw [joinT_ok hbne ho, List.length_drop, hlen] at hsp
              have HSp := Lib.hid hsp
              have HO := Lib.hid hone
              obtain ⟨i0, hi0, hz0, hz1, hz2⟩ := info_parts Tryz.infoTokZ
              clear ho hsp hbne hone
              go_big_wp2_with (first
                | (go_at_call 40; refine HO.out.mono ?_; rintro e w3 ⟨kd, nm, ao2, m2, cap2, sf, d, k3, er, rfl, hb3, ht⟩; have hte : er = 0 := ht.1; subst hte; obtain ⟨q, hq1, hq2, hq3⟩ := ht.2.1; subst hq1; have HB3 := Lib.hid hb3; have HTd := Lib.hid ht.2.2; have HQ3 := Lib.hid hq3; have HT5 := Lib.hid (HT.out.row.on (hb3.trans ((((Below.refl w3.heap.size w3).alloc (Nat.le_refl _) (.cells #[.int .u8 ((kd : Nat) : Int), .string nm, .slice ao2 m2 cap2, .bool sf, .string d] 66)).alloc (by simp) (.cells #[.int .u8 ((kd : Nat) : Int), .string nm, .slice ao2 m2 cap2, .bool sf, .string d] 66)).mono hb3.size))); clear ht hb3 hq3)
                | (at_builtin; refine wpList_append_own_at _ rfl _ _ 27 rfl w.heap.size 66 i0 _ 5 72 Tryz.underlying27 hi0 hz0 hz1 hz2 rfl (by decide) _ L.length (tkCells L) rfl HT5.out.row ⟨w3.heap.size + 1, 0, none⟩ 1 1 [.int .u8 ((kd : Nat) : Int), .string nm, .slice ao2 m2 cap2, .bool sf, .string d] rfl ?c1 ?c2 ?c3 ?c4 ?c5 ?c6 ?_))
              case c1 => rfl
              case c2 =>
                have := news_alloc (w3.alloc (.cells #[.int .u8 ((kd : Nat) : Int), .string nm, .slice ao2 m2 cap2, .bool sf, .string d] 66)) [.int .u8 ((kd : Nat) : Int), .string nm, .slice ao2 m2 cap2, .bool sf, .string d] 66
                rwa [show (w3.alloc (.cells #[.int .u8 ((kd : Nat) : Int), .string nm, .slice ao2 m2 cap2, .bool sf, .string d] 66)).heap.size = w3.heap.size + 1 by simp] at this
              case c3 => intro u hu; simp only [List.mem_cons, List.not_mem_nil, or_false] at hu; rcases hu with rfl | rfl | rfl | rfl | rfl <;> rfl
              case c4 => unfold maxLen; omega
              case c5 => omega
              case c6 => have := HB3.out.size; have := HT.out.below.size; simp; omega
              intro v' W hown' hgrow _ _
              have hb5 : Below w3.heap.size w3 ((w3.alloc (.cells #[.int .u8 ((kd : Nat) : Int), .string nm, .slice ao2 m2 cap2, .bool sf, .string d] 66)).alloc (.cells #[.int .u8 ((kd : Nat) : Int), .string nm, .slice ao2 m2 cap2, .bool sf, .string d] 66)) := ((Below.refl w3.heap.size w3).alloc (Nat.le_refl _) _).alloc (by simp) _
              have hB2 := HT.out.below
              have hbW : Below w.heap.size w W := ((hB2.trans (HB3.out.mono hB2.size)).trans (hb5.mono (Nat.le_trans hB2.size HB3.out.size))).grown hgrow (by have := HB3.out.size; have := hb5.size; have := hB2.size; omega) (fun q hq => (World.ownsRow.lt HT5.out.row q hq).1)
              obtain ⟨hk1, hn1, hat, hsf, hd1⟩ := HTd.out
              subst hk1; subst hn1; subst hsf; subst hd1
              have hrow := HT5.out.grew (x := (tk, .slice ao2 m2 cap2)) ((hat.mono hB2.size).on hb5) (by decide) hgrow hown'
              have hql : r.length = s.size - q := by rw [← HQ3.out, List.length_drop, hlen]
              have hTA : Hid (RowsZ w s q v' (L ++ [(tk, .slice ao2 m2 cap2)]) W) := Lib.hid ⟨hbW, hrow, by
                  rw [List.length_append]; simp only [List.length_cons, List.length_nil]; omega, hq2, by
                  rw [HQ3.out, List.map_append, ← HSp.out, show k + (s.size - k - r.length) = q by omega]; rfl⟩
              clear hown' hgrow hbW hrow hat hb5 hB2
              go_big_wp2
              exact ⟨⟨q, _, rfl, hTA⟩, by simp [RowKit.intOf]; omega⟩
          · obtain rfl : k = s.size := by omega
            have hfin : an = (L.map (·.1), 0, 0) := by
              have h1 := HAns.out
              have h2 := HT.out.spec
              rw [List.drop_eq_nil_of_le (by omega), toksAt_nil] at h2
              rw [← h2] at h1
              rw [h1]
              simp [joinT]
            have HF := Lib.hid hfin
            clear hfin
            go_big_wp2
            go_ret3
            exact ⟨_, L, 0, 0, rfl, HT.out.below, HT.out.row, HF.out.symm⟩
end Go.Proofs.YtfjphhmbnhglcaaGreatDoor
namespace Go.Proofs.YtfjphhmbnhglcaaGreatDoor
open Go.RowKit Go.RunKit Go.CharrefKit Go.Lib Go.TokenKit
/-- The document's tokens at a known answer. -/
theorem tokens04_at {s : ByteArray} {ts : List Tok} {er pl n : Nat} (h : answerL (bl s) = (ts, er, pl)) (hn : ts.length = n) (w : World) :
    Calls Tryz.prog 15 #[.string s] w fun e w' => ∃ ao cap L, e = .returned (.tuple #[.slice ao n cap, .int .i64 ((er : Nat) : Int), .int .i64 ((pl : Nat) : Int)]) ∧ Below w.heap.size w w' ∧ TkRow TZk w' w.heap.size (.slice ao n cap) L ∧ TkReads w' ao L ∧ L.map (·.1) = ts := by
  refine (tokens04_any s w).mono ?_
  rintro e w' ⟨v, L, er', pl', rfl, hb, hr, ha⟩
  rw [h] at ha
  simp only [Prod.mk.injEq] at ha
  obtain ⟨h1, h2, h3⟩ := ha
  subst h2; subst h3
  obtain ⟨ao, cap, hv, hrd⟩ := hr.reads
  have hl : L.length = n := by rw [← hn, ← h1, List.length_map]
  subst hv
  rw [hl] at hr ⊢
  exact ⟨ao, cap, L, rfl, hb, hr, hrd, h1⟩
/-- Some attributes of the first answer may have been written over. -/
structure Zeroed (w w1 w3 wr : World) : Prop where
  below : Below w.heap.size w wr
  size : w3.heap.size ≤ wr.heap.size
  same : ∀ g o, w3.heap[g]? = some o → wr.heap[g]? = some o ∨ (g < w1.heap.size ∧ ∃ cs cs', o = .cells cs TAt (0, 0) ∧ cs'.size = cs.size ∧ wr.heap[g]? = some (.cells cs' TAt (0, 0)))
theorem Zeroed.refl {w w1 w3 : World} (h : Below w.heap.size w w3) : Zeroed w w1 w3 w3 := ⟨h, Nat.le_refl _, fun _ _ h => .inl h⟩
theorem Zeroed.set {w w1 w3 wr : World} (h : Zeroed w w1 w3 wr) {g i : Nat} {cs : Array Value} (v : Value) (hg : w3.heap[g]? = some (.cells cs TAt (0, 0))) (h1 : g < w1.heap.size) (h0 : w.heap.size ≤ g) : Zeroed w w1 w3 (wr.setCell ⟨g, i, none⟩ v) := by
  refine ⟨h.below.setCell h0 _, by simpa [World.setCell] using h.size, fun g' o ho => ?_⟩
  by_cases e : g' = g
  · subst e
    rw [hg] at ho
    cases ho
    have hw : ∃ cs', cs'.size = cs.size ∧ wr.heap[g']? = some (.cells cs' TAt (0, 0)) := by
      rcases h.same g' _ hg with hs | ⟨_, c1, c2, e1, e2, e3⟩
      · exact ⟨cs, rfl, hs⟩
      · cases e1; exact ⟨c2, e2, e3⟩
    obtain ⟨c2, e2, e3⟩ := hw
    exact .inr ⟨h1, cs, _, rfl, by rw [Array.size_setIfInBounds]; exact e2, heap_setCell_same wr g' i c2 TAt v e3⟩
  · rcases h.same g' o ho with hs | ⟨e0, c1, c2, e1, e2, e3⟩
    · exact .inl (by rw [heap_setCell_other _ _ _ _ (by exact e)]; exact hs)
    · exact .inr ⟨e0, c1, c2, e1, e2, by rw [heap_setCell_other _ _ _ _ (by exact e)]; exact e3⟩
/-- Rows of another type stay. -/
theorem Zeroed.own {w w1 w3 wr : World} (h : Zeroed w w1 w3 wr) {base size n : Nat} {T : TypeId} {v : Value} {xs : List Value} (hT : T ≠ TAt) (ho : w3.ownsRow base T size v n xs) : wr.ownsRow base T size v n xs := by
  refine ⟨ho.1, ?_⟩
  rcases ho.2 with h1 | ⟨g, cap, cur, h1, h2, h3, h4⟩
  · exact .inl h1
  · refine .inr ⟨g, cap, cur, h1, h2, ?_, h4⟩
    rcases h.same g _ h3 with hs | ⟨_, c1, c2, e1, _⟩
    · exact hs
    · cases e1; exact absurd rfl hT
/-- So do rows behind. -/
theorem Zeroed.keep {w w1 w3 wr : World} (h : Zeroed w w1 w3 wr) {size n : Nat} {T : TypeId} {v : Value} {xs : List Value} (ho : w3.ownsRow w1.heap.size T size v n xs) : wr.ownsRow w1.heap.size T size v n xs := by
  refine ⟨ho.1, ?_⟩
  rcases ho.2 with h1 | ⟨g, cap, cur, h1, h2, h3, h4⟩
  · exact .inl h1
  · refine .inr ⟨g, cap, cur, h1, h2, ?_, h4⟩
    rcases h.same g _ h3 with hs | ⟨e0, _⟩
    · exact hs
    · omega
theorem Zeroed.row {w w1 w3 wr : World} (h : Zeroed w w1 w3 wr) {T : TypeId} {v : Value} {L : List (Tok × Value)} (hr : TkRow T w3 w1.heap.size v L) : TkRow T wr w1.heap.size v L :=
  ⟨h.keep hr.row, fun x hx => h.keep (hr.sub x hx)⟩
/-- The cells of one attribute that may be written. -/
theorem Zeroed.at_ {w w1 w3 wr : World} (h : Zeroed w w1 w3 wr) {g i : Nat} {cs : Array Value} (hg : w3.heap[g]? = some (.cells cs TAt (0, 0))) (hi : i < cs.size) : (∃ v, wr.cell? ⟨g, i, none⟩ = some v) ∧ wr.frozen? ⟨g, i, none⟩ = false := by
  have hw : ∃ cs', cs'.size = cs.size ∧ wr.heap[g]? = some (.cells cs' TAt (0, 0)) := by
    rcases h.same g _ hg with hs | ⟨_, c1, c2, e1, e2, e3⟩
    · exact ⟨cs, rfl, hs⟩
    · cases e1; exact ⟨c2, e2, e3⟩
  obtain ⟨c2, e2, e3⟩ := hw
  refine ⟨⟨c2[i]'(by omega), ?_⟩, frozen_of_row wr g i c2 TAt e3⟩
  rw [cell_of_row wr g i c2 TAt _ e3]
  exact Array.getElem?_eq_getElem _
/-- The first answer's attributes: where they lie. -/
theorem first_row {w w1 w3 : World} {T : TypeId} {v : Value} {L : List (Tok × Value)} (hr : TkRow T w1 w.heap.size v L) (hb : Below w1.heap.size w1 w3) {k : Nat} {x : Tok × Value} (hx : L[k]? = some x) :
    (x.2 = .slice none 0 0 ∧ x.1.attrs.length = 0) ∨ ∃ g cap cs, x.2 = .slice (some ⟨g, 0, none⟩) x.1.attrs.length cap ∧ w3.heap[g]? = some (.cells cs TAt (0, 0)) ∧ g < w1.heap.size ∧ w.heap.size ≤ g ∧ x.1.attrs.length * 2 ≤ cs.size := by
  rcases (hr.sub x (List.mem_of_getElem? hx)).2 with ⟨h1, h2⟩ | ⟨g, cap, cur, h1, h2, h3, h4, _, h6, _⟩
  · exact .inl ⟨h1, h2⟩
  · have hlt := (Array.getElem?_eq_some_iff.1 h3).1
    exact .inr ⟨g, cap, cur, h1, by rw [hb.block g hlt]; exact h3, hlt, h2, by rw [h6]; exact Nat.mul_le_mul_right 2 h4⟩

theorem own_tok {w : World} {base n cap : Nat} {T : TypeId} {ao : Option Addr} {L : List (Tok × Value)} (h : w.ownsRow base T 5 (.slice ao n cap) L.length (tkCells L)) {k : Nat} {x : Tok × Value} (hx : L[k]? = some x) :
    ∃ g, ao = some ⟨g, 0, none⟩ ∧ w.cell? ⟨g, k * 5 + 2, none⟩ = some x.2 := by
  have hk := (List.getElem?_eq_some_iff.1 hx).1
  have h' := h
  rcases h'.2 with ⟨_, hn⟩ | ⟨g, c, cur, e, _⟩
  · omega
  · cases e
    obtain ⟨_, _, h3, _, _⟩ := tkCells_at hx
    exact ⟨g, rfl, by rw [World.ownsRow.cellAt h (k * 5 + 2) (by omega)]; exact h3⟩

set_option maxRecDepth 100000 in
set_option maxHeartbeats 8000000 in
theorem lawReads (s : ByteArray) (w : World) (hM : Maxed w w.heap.size) : Calls Tryz.prog 3 #[.string s] w fun e w' => e = .returned (.bool true) ∧ Below w.heap.size w w' := by
  have HW := Lib.hid fun w1 (hb : Below w.heap.size w w1) => works_any w1 (maxed_on hM hb)
  by_cases hmid : 2000 < s.size ∧ s.size ≤ 65536
  · have h1 : (2000 : Int) < s.size := by omega
    have h2 : (s.size : Int) ≤ 65536 := by omega
    go_enter Tryz.func3, Tryz.ntmps3
    go_big_wp2_with (go_at_call 13; refine (HW.out _ (Below.refl _ _)).mono ?_; rintro e w1 ⟨rfl, hb1⟩)
    go_ret
    exact ⟨rfl, hb1⟩
  obtain ⟨ts, er, pl, ha⟩ : ∃ ts er pl, answerL (bl s) = (ts, er, pl) := ⟨_, _, _, rfl⟩
  obtain ⟨n, hn⟩ : ∃ n, ts.length = n := ⟨_, rfl⟩
  have hle := answer_le ha
  have hnb : n ≤ 65536 := by rw [← hn]; exact hle.1
  have h16 : ∀ t, t ∈ ts → t.attrs.length ≤ 16 := fun t ht => by
    obtain ⟨k, hk⟩ := List.mem_iff_getElem?.1 ht
    exact ((answer_right ha).each k t hk).size
  have H16 := Lib.hid h16
  have HT1 := Lib.hid fun w1 (hb1 : Below w.heap.size w w1) => tokens_at ha hn w1 (maxed_on hM hb1)
  have HT2 := Lib.hid fun w1 => tokens04_at ha hn w1
  have HL := Lib.hid hn
  have hor : ¬ ((2000 : Int) < s.size) ∨ ((2000 : Int) < s.size ∧ ¬ ((s.size : Int) ≤ 65536)) := by omega
  clear hmid ha hn hle h16 hM
  go_enter Tryz.func3, Tryz.ntmps3
  rcases hor with h1 | ⟨h1, h2⟩
  all_goals
    go_big_wp2_with (first
      | (go_at_call 14; refine (HT1.out _ (Below.refl _ _)).mono ?_; rintro e w1 ⟨ao1, cap1, L, rfl, hb1, hrow1, hr1, hL1⟩; have HB1 := Lib.hid hb1; have HRow1 := Lib.hid hrow1; have HF1 := Lib.hid (hrow1.full hr1); have HM1 := Lib.hid hL1; clear hb1 hrow1 hr1 hL1)
      | (go_at_call 15; refine (HT2.out _).mono ?_; rintro e w2 ⟨ao2, cap2, K, rfl, hb2, hrow2, hr2, hL2⟩; have HB2 := Lib.hid hb2; have HRow2 := Lib.hid hrow2; have HF2 := Lib.hid (hrow2.full hr2); have HM2 := Lib.hid hL2; clear hb2 hrow2 hr2 hL2)
      | (go_at_call 16; refine (same_any ao1 ao2 cap1 cap2 n L K ts HL.out (by omega) HM1.out HM2.out H16.out _ (HF1.out.on HB2.out) HF2.out).mono ?_; rintro e w3 ⟨rfl, hb3⟩; have HB3 := Lib.hid hb3; clear hb3))
    have HB13 := Lib.hid (HB2.out.trans (HB3.out.mono HB2.out.size))
    have HB03 := Lib.hid (HB1.out.trans (HB13.out.mono HB1.out.size))
    have HRow3 := Lib.hid (HRow1.out.on HB13.out)
    have HRowB := Lib.hid (HRow2.out.on HB3.out)
    have HZ0 : Hid (Zeroed w w1 w3 w3) := Lib.hid (Zeroed.refl HB03.out)
    have hLn : L.length = n := by rw [← HL.out, ← HM1.out, List.length_map]
    have HLn := Lib.hid hLn
    clear hLn HF1 HF2
    go_loopw [9] (fun v wr => ∃ i : Nat, v = .int .i64 (i : Nat) ∧ i ≤ n ∧ Hid (Zeroed w w1 w3 wr)) (fun v _ => n - (RowKit.intOf v).toNat)
    case atStart => exact ⟨0, rfl, Nat.zero_le _, HZ0⟩
    case round =>
      clear HZ0
      obtain ⟨i, rfl, hi, HZ⟩ := hrel
      by_cases hin : i < n
      · have hinI : (i : Int) < n := by omega
        obtain ⟨x, hx⟩ : ∃ x, L[i]? = some x := ⟨L[i]'(by have := HLn.out; omega), by simp [show i < L.length by have := HLn.out; omega]⟩
        obtain ⟨gt, rfl, c2⟩ := own_tok (HZ.out.own (by decide) HRow3.out.row) hx
        have hfr := first_row HRow1.out HB13.out hx
        obtain ⟨m, hm⟩ : ∃ m, x.1.attrs.length = m := ⟨_, rfl⟩
        rw [hm] at hfr
        have hm16 : m ≤ 16 := by
          rw [← hm]
          refine H16.out x.1 ?_
          rw [← HM1.out]
          exact List.mem_map_of_mem (List.mem_of_getElem? hx)
        obtain ⟨xv, hxv⟩ : ∃ v, x.2 = v := ⟨_, rfl⟩
        rw [hxv] at hfr c2
        clear hx hm hxv
        rcases hfr with ⟨rfl, rfl⟩ | ⟨g, bc, cs, rfl, hg, hg1, hg0, hsz⟩
        · go_big_wp2
          go_loopw [11] (fun v wr => ∃ j : Nat, v = .int .i64 (j : Nat) ∧ Hid (Zeroed w w1 w3 wr)) (fun v _ => (RowKit.intOf v).toNat)
          case atStart => exact ⟨0, rfl, HZ⟩
          case round =>
            clear HZ
            obtain ⟨j, rfl, HZ⟩ := hrel
            have hj0 : ¬ (j : Int) < 0 := by omega
            go_big_wp2
            exact ⟨⟨i + 1, by go_num, by omega, HZ⟩, by simp [RowKit.intOf]; omega⟩
        · have HG := Lib.hid hg
          have HG2 := Lib.hid (And.intro hg1 hg0)
          clear hg hg1 hg0
          go_big_wp2
          go_loopw [11] (fun v wr => ∃ j : Nat, v = .int .i64 (j : Nat) ∧ j ≤ m ∧ Hid (Zeroed w w1 w3 wr)) (fun v _ => m - (RowKit.intOf v).toNat)
          case atStart => exact ⟨0, rfl, Nat.zero_le _, HZ⟩
          case round =>
            clear HZ
            obtain ⟨j, rfl, hj, HZ⟩ := hrel
            by_cases hjm : j < m
            · have hjI : (j : Int) < m := by omega
              obtain ⟨⟨v0, q0⟩, f0⟩ := HZ.out.at_ HG.out (i := j * 2) (by omega)
              obtain ⟨⟨v1, q1⟩, f1⟩ := HZ.out.at_ HG.out (i := j * 2 + 1) (by omega)
              go_big_wp2
              exact ⟨⟨j + 1, by go_num, by omega, Lib.hid ((HZ.out.set _ HG.out HG2.out.1 HG2.out.2).set _ HG.out HG2.out.1 HG2.out.2)⟩, by simp [RowKit.intOf]; omega⟩
            · obtain rfl : j = m := by omega
              go_big_wp2
              exact ⟨⟨i + 1, by go_num, by omega, HZ⟩, by simp [RowKit.intOf]; omega⟩
      · obtain rfl : i = n := by omega
        have HRowC := Lib.hid (HZ.out.row HRowB.out)
        obtain ⟨bo, bc, hbv, hbr⟩ := HRowC.out.reads
        have hKn : K.length = i := by rw [← HL.out, ← HM2.out, List.length_map]
        rw [hKn] at hbv
        obtain ⟨rfl, rfl⟩ : ao2 = bo ∧ cap2 = bc := by simpa using hbv
        have HFb := Lib.hid (HRowC.out.full hbr)
        clear hbv hbr hKn
        go_big_wp2_with (first
          | (go_at_call 14; refine (HT1.out _ HZ.out.below).mono ?_; rintro e w4 ⟨ao4, cap4, M, rfl, hb4, hrow4, hr4, hL4⟩; have HB4 := Lib.hid hb4; have HF4 := Lib.hid (hrow4.full hr4); have HM4 := Lib.hid hL4; clear hb4 hrow4 hr4 hL4)
          | (go_at_call 16; refine (same_any ao4 ao2 cap4 cap2 i M K ts HL.out (by omega) HM4.out HM2.out H16.out _ HF4.out (HFb.out.on HB4.out)).mono ?_; rintro e w5 ⟨rfl, hb5⟩; have HB5 := Lib.hid hb5; have HB05 := Lib.hid ((HZ.out.below.trans (HB4.out.mono HZ.out.below.size)).trans (HB5.out.mono (Nat.le_trans HZ.out.below.size HB4.out.size))); clear hb5)
          | (go_at_call 13; refine (HW.out _ HB05.out).mono ?_; rintro e w6 ⟨rfl, hb6⟩))
        go_ret
        exact ⟨rfl, HB05.out.trans (hb6.mono HB05.out.size)⟩
end Go.Proofs.YtfjphhmbnhglcaaGreatDoor
