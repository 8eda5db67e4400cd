/-
  The document's way of escaping. Conditions: the text is no longer than 2^20 bytes.
-/
import Derived.Test.YtkfmfldkllkcbabDoorSEsc
namespace Go.Proofs.YtkfmfldkllkcbabDoor
open Go.RowKit Go.RunKit Go.UtfKit Go.CharrefKit Go.Lib Go.TokenKit Go.TreeKit Go.SerialKit

/-- What is held at the loop's head. -/
structure OutAt (w0 : World) (attr : Bool) (s : ByteArray) (ans : Bytes) (pos m cap : Nat) (b : Option Addr) (out : Bytes) (wr : World) : Prop where
  row : wr.ownsRow w0.heap.size 5 1 (.slice b m cap) m (byteCells out)
  below : Below w0.heap.size w0 wr
  spec : out ++ escR attr ((bl s).drop pos) = ans
theorem OutAt.on {w0 wr w' : World} {attr : Bool} {s : ByteArray} {ans out : Bytes} {pos m cap : Nat} {b : Option Addr} (h : OutAt w0 attr s ans pos m cap b out wr) (hb : Below wr.heap.size wr w') : OutAt w0 attr s ans pos m cap b out w' :=
  ⟨own_on h.row hb, h.below.trans (hb.mono h.below.size), h.spec⟩
theorem byteCells_app (a b : List UInt8) : byteCells (a ++ b) = byteCells a ++ byteCells b := by simp [byteCells]
theorem OutAt.next {w0 wr W : World} {attr : Bool} {s : ByteArray} {ans out new : Bytes} {pos m cap k m' cap' : Nat} {b b' : Option Addr} (h : OutAt w0 attr s ans pos m cap b out wr) (hs : escR attr ((bl s).drop pos) = new ++ escR attr ((bl s).drop (pos + k)))
    (ho : W.ownsRow w0.heap.size 5 1 (.slice b' m' cap') m' (byteCells (out ++ new))) (hg : wr.grownBy W (Value.slice b m cap).ownBlock) : OutAt w0 attr s ans (pos + k) m' cap' b' (out ++ new) W :=
  ⟨ho, h.below.grown hg h.below.size (fun k hk => (World.ownsRow.lt h.row k hk).1), by rw [← h.spec, hs, List.append_assoc]⟩
theorem OutAt.text {w0 w : World} {attr : Bool} {s : ByteArray} {ans out : Bytes} {pos m cap : Nat} {b : Option Addr} (h : OutAt w0 attr s ans pos m cap b out w) (hp : s.size ≤ pos) : (convert 29 9 (.slice b m cap)).run Tryd.prog w = .ok (.string ⟨ans.toArray⟩) w := by
  have hsp := h.spec
  rw [List.drop_eq_nil_of_le (by rw [bl_length]; exact hp), show escR attr [] = [] from rfl, List.append_nil] at hsp
  subst hsp
  have hr := h.row
  have hl : out.length = m := by have := hr.1; rw [byteCells_length] at this; omega
  rcases hr.2 with ⟨e, e2⟩ | ⟨g, cap3, cur, e, _⟩
  · cases e
    have : out = [] := List.length_eq_zero_iff.1 (by omega)
    rw [this]
    exact run_convert_bytes_nil (P := Tryd.prog) _ 29 5 underBytes underByte _ _ _ underString
  · cases e
    rw [← hl]
    refine run_convert_bytes_back (P := Tryd.prog) w 29 9 5 ⟨g, 0, none⟩ cap _ underBytes underByte underString (fun j hj => ?_)
    rw [add_at, World.ownsRow.cellAt hr j (by omega)]
    simp [byteCells, hj]
theorem esc_byte {attr : Bool} {s : ByteArray} {pos : Nat} {x : UInt8} (hp : pos < s.size) (hx : (bl s)[pos]? = some x) (h : x ≠ 194 ∨ ∀ y, (bl s)[pos + 1]? = some y → y ≠ 160) : escR attr ((bl s).drop pos) = oneE attr x ++ escR attr ((bl s).drop (pos + 1)) := by
  obtain ⟨b, hb, _⟩ := byte_drop hp
  have hbx : b = x := by
    have : ((bl s).drop pos)[0]? = some b := by rw [hb]; rfl
    rw [List.getElem?_drop, Nat.add_zero, hx] at this
    exact (Option.some.inj this).symm
  subst hbx
  rw [hb]
  by_cases h194 : b = 194
  · by_cases hq : pos + 1 < s.size
    · obtain ⟨c, hc, _⟩ := byte_drop hq
      have hc1 : (bl s)[pos + 1]? = some c := by
        have : ((bl s).drop (pos + 1))[0]? = some c := by rw [hc]; rfl
        rwa [List.getElem?_drop, Nat.add_zero] at this
      rw [hc]
      refine escR_not ?_ _
      rcases h with h | h
      · exact absurd h194 h
      · exact h c hc1
    · rw [List.drop_eq_nil_of_le (by rw [bl_length]; omega)]
      show oneE attr b = oneE attr b ++ []
      rw [List.append_nil]
  · exact escR_cons h194 _

set_option maxRecDepth 100000 in
set_option maxHeartbeats 8000000 in
theorem refEscape_any (s : ByteArray) (attr : Bool) (hsz : s.size ≤ 1048576) (w : World) :
    Calls Tryd.prog 8 #[.string s, .bool attr] w fun e w' => e = .returned (.string ⟨(escR attr (bl s)).toArray⟩) ∧ Below w.heap.size w w' := by
  obtain ⟨i0, hi, hz0, hz1, hz2⟩ := info_parts Tryd.infoByte
  obtain ⟨ans, hans⟩ : ∃ a, escR attr (bl s) = a := ⟨_, rfl⟩
  rw [hans]
  have D0 : Hid (OutAt w attr s ans 0 0 0 none [] w) := Lib.hid ⟨World.ownsRow_nil _ _ _ _, Below.refl _ _, by simpa using hans⟩
  clear hans
  go_enter Tryd.func8, Tryd.ntmps8
  go_big_wp2
  go_loopw [5, 6] (fun l i wr => ∃ (pos m cap : Nat) (b : Option Addr) (out : Bytes), l = .slice b m cap ∧ i = .int .i64 ((pos : Nat) : Int) ∧ pos ≤ s.size ∧ m ≤ 6 * pos ∧ Hid (OutAt w attr s ans pos m cap b out wr)) (fun _ i _ => s.size - (RowKit.intOf i).toNat)
  case atStart => exact ⟨0, 0, 0, none, [], rfl, rfl, Nat.zero_le _, by omega, D0⟩
  case round =>
    clear D0
    obtain ⟨pos, m, cap, b, out, rfl, rfl, hp, hm, HD⟩ := hrel
    by_cases hlt : pos < s.size
    · have hltI : (pos : Int) < s.size := by omega
      obtain ⟨x, hx⟩ : ∃ x : UInt8, s[pos]'hlt = x := ⟨_, rfl⟩
      have hxl : (bl s)[pos]? = some x := by rw [← hx]; exact Lib.data_getElem? s pos hlt
      have hone : ∀ (w1 : World) (v : Value) (j : Nat) (u : Value), [v][j]? = some u → (w1.alloc (.cells #[v] 5)).cell? ((⟨w1.heap.size, 0, none⟩ : Addr).add j) = some u := fun w1 v j u hu => by
        obtain rfl : j = 0 := by have := (List.getElem?_eq_some_iff.1 hu).1; simp at this; exact this
        simpa [go_sem] using hu
      have HON := Lib.hid hone
      have HXl := Lib.hid hxl
      have hx256 := x.toNat_lt
      clear hone hxl
      have nat : ∀ {k : Nat}, k < 256 → x ≠ UInt8.ofNat k → ¬ x.toNat = k := fun hk h e => h (UInt8.toNat_inj.1 (by rw [e]; simp; omega))
      by_cases ca : x = 38
      · subst ca
        have HS : Hid (escR attr ((bl s).drop pos) = ampB ++ escR attr ((bl s).drop (pos + 1))) := Lib.hid (esc_byte hlt HXl.out (.inl (by decide)))
        clear nat
        go_big_wp2_with (at_builtin; refine wpList_append_own_string _ rfl _ _ 29 9 rfl w.heap.size 5 i0 underBytes underString hi hz0 hz1 hz2 _ m (byteCells out) rfl HD.out.row _ rfl ?a4 ?a5 ?a6 ?_)
        case a4 => show m + 5 ≤ maxLen; unfold maxLen; omega
        case a5 => show m + 5 ≤ _; omega
        case a6 => exact HD.out.below.size
        intro v' W hown' hgrow _
        obtain ⟨a1, cap2, hvs1⟩ := sliceOf hown'
        subst hvs1
        have HX := Lib.hid (HD.out.next (new := ampB) (k := 1) HS.out (by rw [byteCells_app]; exact hown') hgrow)
        clear hown' hgrow
        go_big_wp2
        exact ⟨⟨pos + 1, m + 5, cap2, a1, out ++ ampB, rfl, by go_num, by omega, by omega, HX⟩, by simp [RowKit.intOf]; omega⟩
      have na : ¬ (x.toNat : Int) = 38 := by have := nat (k := 38) (by omega) ca; omega
      have ba : ((x.toNat : Int) == 38) = false := by rw [beq_eq_false_iff_ne]; exact na
      by_cases cn : x = 194
      · by_cases hq : pos + 1 < s.size
        · have hqI : (pos : Int) + 1 < s.size := by omega
          obtain ⟨y, hy⟩ : ∃ y : UInt8, s[pos + 1]'hq = y := ⟨_, rfl⟩
          have hyl : (bl s)[pos + 1]? = some y := by rw [← hy]; exact Lib.data_getElem? s (pos + 1) hq
          by_cases cy : y = 160
          · have HS : Hid (escR attr ((bl s).drop pos) = nbspB ++ escR attr ((bl s).drop (pos + 2))) := Lib.hid (by
              have h1 : (bl s).drop pos = x :: y :: (bl s).drop (pos + 2) := by
                obtain ⟨h', e'⟩ := List.getElem?_eq_some_iff.1 HXl.out
                obtain ⟨h2, e2⟩ := List.getElem?_eq_some_iff.1 hyl
                rw [List.drop_eq_getElem_cons h', e', List.drop_eq_getElem_cons h2, e2]
              rw [h1, cn, cy, escR, if_pos ⟨rfl, rfl⟩])
            subst cn
            subst cy
            clear nat hyl
            go_big_wp2_with (at_builtin; refine wpList_append_own_string _ rfl _ _ 29 9 rfl w.heap.size 5 i0 underBytes underString hi hz0 hz1 hz2 _ m (byteCells out) rfl HD.out.row _ rfl ?n4 ?n5 ?n6 ?_)
            case n4 => show m + 6 ≤ maxLen; unfold maxLen; omega
            case n5 => show m + 6 ≤ _; omega
            case n6 => exact HD.out.below.size
            intro v' W hown' hgrow _
            obtain ⟨a1, cap2, hvs1⟩ := sliceOf hown'
            subst hvs1
            have HX := Lib.hid (HD.out.next (new := nbspB) (k := 2) HS.out (by rw [byteCells_app]; exact hown') hgrow)
            clear hown' hgrow
            go_big_wp2
            exact ⟨⟨pos + 2, m + 6, cap2, a1, out ++ nbspB, rfl, by go_num, by omega, by omega, HX⟩, by simp [RowKit.intOf]; omega⟩
          · have HS : Hid (escR attr ((bl s).drop pos) = [x] ++ escR attr ((bl s).drop (pos + 1))) := Lib.hid (by
              have h1 := esc_byte (attr := attr) hlt HXl.out (.inr (fun z hz => by rw [hyl] at hz; cases hz; exact cy))
              rw [h1, cn]
              cases attr <;> rfl)
            have ny : ¬ (y.toNat : Int) = 160 := fun e => cy (UInt8.toNat_inj.1 (by simp; omega))
            have byy : ((y.toNat : Int) == 160) = false := by rw [beq_eq_false_iff_ne]; exact ny
            subst cn
            clear nat hyl cy
            have HD2 := Lib.hid (HD.out.on ((Below.refl _ _).alloc (Nat.le_refl _) (.cells #[.int .u8 194] 5)))
            have hs2 : w.heap.size ≤ (wr.alloc (.cells #[.int .u8 194] 5)).heap.size := HD2.out.below.size
            go_big_wp2_with (at_builtin; refine wpList_append_own _ rfl _ _ 29 rfl w.heap.size 5 i0 _ 1 1 underBytes hi hz0 hz1 hz2 rfl (by decide) _ m (byteCells out) rfl HD2.out.row ⟨wr.heap.size, 0, none⟩ 1 1 [.int .u8 194] rfl rfl (HON.out wr _) (by intro u hu; simp at hu; subst hu; rfl) (by unfold maxLen; omega) (by omega) hs2 ?_)
            intro v' W hown' hgrow _
            obtain ⟨a1, cap2, hvs1⟩ := sliceOf hown'
            subst hvs1
            have HX := Lib.hid (HD2.out.next (new := [194]) (k := 1) HS.out (by rw [byteCells_app]; exact hown') hgrow)
            clear hown' hgrow HD2
            go_big_wp2
            exact ⟨⟨pos + 1, m + 1, cap2, a1, out ++ [194], rfl, by go_num, by omega, by omega, HX⟩, by simp [RowKit.intOf]; omega⟩
        · have hqI : ¬ (pos : Int) + 1 < s.size := by omega
          have HS : Hid (escR attr ((bl s).drop pos) = [x] ++ escR attr ((bl s).drop (pos + 1))) := Lib.hid (by
            have h1 := esc_byte (attr := attr) hlt HXl.out (.inr (fun z hz => by have := (List.getElem?_eq_some_iff.1 hz).1; rw [bl_length] at this; omega))
            rw [h1, cn]
            cases attr <;> rfl)
          subst cn
          clear nat
          have HD2 := Lib.hid (HD.out.on ((Below.refl _ _).alloc (Nat.le_refl _) (.cells #[.int .u8 194] 5)))
          have hs2 : w.heap.size ≤ (wr.alloc (.cells #[.int .u8 194] 5)).heap.size := HD2.out.below.size
          go_big_wp2_with (at_builtin; refine wpList_append_own _ rfl _ _ 29 rfl w.heap.size 5 i0 _ 1 1 underBytes hi hz0 hz1 hz2 rfl (by decide) _ m (byteCells out) rfl HD2.out.row ⟨wr.heap.size, 0, none⟩ 1 1 [.int .u8 194] rfl rfl (HON.out wr _) (by intro u hu; simp at hu; subst hu; rfl) (by unfold maxLen; omega) (by omega) hs2 ?_)
          intro v' W hown' hgrow _
          obtain ⟨a1, cap2, hvs1⟩ := sliceOf hown'
          subst hvs1
          have HX := Lib.hid (HD2.out.next (new := [194]) (k := 1) HS.out (by rw [byteCells_app]; exact hown') hgrow)
          clear hown' hgrow HD2
          go_big_wp2
          exact ⟨⟨pos + 1, m + 1, cap2, a1, out ++ [194], rfl, by go_num, by omega, by omega, HX⟩, by simp [RowKit.intOf]; omega⟩
      have nn : ¬ (x.toNat : Int) = 194 := by have := nat (k := 194) (by omega) cn; omega
      have bn : ((x.toNat : Int) == 194) = false := by rw [beq_eq_false_iff_ne]; exact nn
      by_cases cr : x = 13
      · subst cr
        have HS : Hid (escR attr ((bl s).drop pos) = crB ++ escR attr ((bl s).drop (pos + 1))) := Lib.hid (esc_byte hlt HXl.out (.inl (by decide)))
        clear nat
        go_big_wp2_with (at_builtin; refine wpList_append_own_string _ rfl _ _ 29 9 rfl w.heap.size 5 i0 underBytes underString hi hz0 hz1 hz2 _ m (byteCells out) rfl HD.out.row _ rfl ?r4 ?r5 ?r6 ?_)
        case r4 => show m + 5 ≤ maxLen; unfold maxLen; omega
        case r5 => show m + 5 ≤ _; omega
        case r6 => exact HD.out.below.size
        intro v' W hown' hgrow _
        obtain ⟨a1, cap2, hvs1⟩ := sliceOf hown'
        subst hvs1
        have HX := Lib.hid (HD.out.next (new := crB) (k := 1) HS.out (by rw [byteCells_app]; exact hown') hgrow)
        clear hown' hgrow
        go_big_wp2
        exact ⟨⟨pos + 1, m + 5, cap2, a1, out ++ crB, rfl, by go_num, by omega, by omega, HX⟩, by simp [RowKit.intOf]; omega⟩
      have nr : ¬ (x.toNat : Int) = 13 := by have := nat (k := 13) (by omega) cr; omega
      have br : ((x.toNat : Int) == 13) = false := by rw [beq_eq_false_iff_ne]; exact nr
      by_cases ck : x = 60
      · subst ck
        cases attr with
        | false =>
          have HS : Hid (escR false ((bl s).drop pos) = ltB ++ escR false ((bl s).drop (pos + 1))) := Lib.hid (esc_byte hlt HXl.out (.inl (by decide)))
          clear nat
          go_big_wp2_with (at_builtin; refine wpList_append_own_string _ rfl _ _ 29 9 rfl w.heap.size 5 i0 underBytes underString hi hz0 hz1 hz2 _ m (byteCells out) rfl HD.out.row _ rfl ?k4 ?k5 ?k6 ?_)
          case k4 => show m + 4 ≤ maxLen; unfold maxLen; omega
          case k5 => show m + 4 ≤ _; omega
          case k6 => exact HD.out.below.size
          intro v' W hown' hgrow _
          obtain ⟨a1, cap2, hvs1⟩ := sliceOf hown'
          subst hvs1
          have HX := Lib.hid (HD.out.next (new := ltB) (k := 1) HS.out (by rw [byteCells_app]; exact hown') hgrow)
          clear hown' hgrow
          go_big_wp2
          exact ⟨⟨pos + 1, m + 4, cap2, a1, out ++ ltB, rfl, by go_num, by omega, by omega, HX⟩, by simp [RowKit.intOf]; omega⟩
        | true =>
          have HS : Hid (escR true ((bl s).drop pos) = [60] ++ escR true ((bl s).drop (pos + 1))) := Lib.hid (esc_byte hlt HXl.out (.inl (by decide)))
          clear nat
          have HD2 := Lib.hid (HD.out.on ((Below.refl _ _).alloc (Nat.le_refl _) (.cells #[.int .u8 60] 5)))
          have hs2 : w.heap.size ≤ (wr.alloc (.cells #[.int .u8 60] 5)).heap.size := HD2.out.below.size
          go_big_wp2_with (at_builtin; refine wpList_append_own _ rfl _ _ 29 rfl w.heap.size 5 i0 _ 1 1 underBytes hi hz0 hz1 hz2 rfl (by decide) _ m (byteCells out) rfl HD2.out.row ⟨wr.heap.size, 0, none⟩ 1 1 [.int .u8 60] rfl rfl (HON.out wr _) (by intro u hu; simp at hu; subst hu; rfl) (by unfold maxLen; omega) (by omega) hs2 ?_)
          intro v' W hown' hgrow _
          obtain ⟨a1, cap2, hvs1⟩ := sliceOf hown'
          subst hvs1
          have HX := Lib.hid (HD2.out.next (new := [60]) (k := 1) HS.out (by rw [byteCells_app]; exact hown') hgrow)
          clear hown' hgrow HD2
          go_big_wp2
          exact ⟨⟨pos + 1, m + 1, cap2, a1, out ++ [60], rfl, by go_num, by omega, by omega, HX⟩, by simp [RowKit.intOf]; omega⟩
      have nk : ¬ (x.toNat : Int) = 60 := by have := nat (k := 60) (by omega) ck; omega
      have bk : ((x.toNat : Int) == 60) = false := by rw [beq_eq_false_iff_ne]; exact nk
      by_cases cg : x = 62
      · subst cg
        cases attr with
        | false =>
          have HS : Hid (escR false ((bl s).drop pos) = gtB ++ escR false ((bl s).drop (pos + 1))) := Lib.hid (esc_byte hlt HXl.out (.inl (by decide)))
          clear nat
          go_big_wp2_with (at_builtin; refine wpList_append_own_string _ rfl _ _ 29 9 rfl w.heap.size 5 i0 underBytes underString hi hz0 hz1 hz2 _ m (byteCells out) rfl HD.out.row _ rfl ?g4 ?g5 ?g6 ?_)
          case g4 => show m + 4 ≤ maxLen; unfold maxLen; omega
          case g5 => show m + 4 ≤ _; omega
          case g6 => exact HD.out.below.size
          intro v' W hown' hgrow _
          obtain ⟨a1, cap2, hvs1⟩ := sliceOf hown'
          subst hvs1
          have HX := Lib.hid (HD.out.next (new := gtB) (k := 1) HS.out (by rw [byteCells_app]; exact hown') hgrow)
          clear hown' hgrow
          go_big_wp2
          exact ⟨⟨pos + 1, m + 4, cap2, a1, out ++ gtB, rfl, by go_num, by omega, by omega, HX⟩, by simp [RowKit.intOf]; omega⟩
        | true =>
          have HS : Hid (escR true ((bl s).drop pos) = [62] ++ escR true ((bl s).drop (pos + 1))) := Lib.hid (esc_byte hlt HXl.out (.inl (by decide)))
          clear nat
          have HD2 := Lib.hid (HD.out.on ((Below.refl _ _).alloc (Nat.le_refl _) (.cells #[.int .u8 62] 5)))
          have hs2 : w.heap.size ≤ (wr.alloc (.cells #[.int .u8 62] 5)).heap.size := HD2.out.below.size
          go_big_wp2_with (at_builtin; refine wpList_append_own _ rfl _ _ 29 rfl w.heap.size 5 i0 _ 1 1 underBytes hi hz0 hz1 hz2 rfl (by decide) _ m (byteCells out) rfl HD2.out.row ⟨wr.heap.size, 0, none⟩ 1 1 [.int .u8 62] rfl rfl (HON.out wr _) (by intro u hu; simp at hu; subst hu; rfl) (by unfold maxLen; omega) (by omega) hs2 ?_)
          intro v' W hown' hgrow _
          obtain ⟨a1, cap2, hvs1⟩ := sliceOf hown'
          subst hvs1
          have HX := Lib.hid (HD2.out.next (new := [62]) (k := 1) HS.out (by rw [byteCells_app]; exact hown') hgrow)
          clear hown' hgrow HD2
          go_big_wp2
          exact ⟨⟨pos + 1, m + 1, cap2, a1, out ++ [62], rfl, by go_num, by omega, by omega, HX⟩, by simp [RowKit.intOf]; omega⟩
      have ng : ¬ (x.toNat : Int) = 62 := by have := nat (k := 62) (by omega) cg; omega
      have bg : ((x.toNat : Int) == 62) = false := by rw [beq_eq_false_iff_ne]; exact ng
      by_cases cu : x = 34
      · subst cu
        cases attr with
        | true =>
          have HS : Hid (escR true ((bl s).drop pos) = quotB ++ escR true ((bl s).drop (pos + 1))) := Lib.hid (esc_byte hlt HXl.out (.inl (by decide)))
          clear nat
          go_big_wp2_with (at_builtin; refine wpList_append_own_string _ rfl _ _ 29 9 rfl w.heap.size 5 i0 underBytes underString hi hz0 hz1 hz2 _ m (byteCells out) rfl HD.out.row _ rfl ?u4 ?u5 ?u6 ?_)
          case u4 => show m + 6 ≤ maxLen; unfold maxLen; omega
          case u5 => show m + 6 ≤ _; omega
          case u6 => exact HD.out.below.size
          intro v' W hown' hgrow _
          obtain ⟨a1, cap2, hvs1⟩ := sliceOf hown'
          subst hvs1
          have HX := Lib.hid (HD.out.next (new := quotB) (k := 1) HS.out (by rw [byteCells_app]; exact hown') hgrow)
          clear hown' hgrow
          go_big_wp2
          exact ⟨⟨pos + 1, m + 6, cap2, a1, out ++ quotB, rfl, by go_num, by omega, by omega, HX⟩, by simp [RowKit.intOf]; omega⟩
        | false =>
          have HS : Hid (escR false ((bl s).drop pos) = [34] ++ escR false ((bl s).drop (pos + 1))) := Lib.hid (esc_byte hlt HXl.out (.inl (by decide)))
          clear nat
          have HD2 := Lib.hid (HD.out.on ((Below.refl _ _).alloc (Nat.le_refl _) (.cells #[.int .u8 34] 5)))
          have hs2 : w.heap.size ≤ (wr.alloc (.cells #[.int .u8 34] 5)).heap.size := HD2.out.below.size
          go_big_wp2_with (at_builtin; refine wpList_append_own _ rfl _ _ 29 rfl w.heap.size 5 i0 _ 1 1 underBytes hi hz0 hz1 hz2 rfl (by decide) _ m (byteCells out) rfl HD2.out.row ⟨wr.heap.size, 0, none⟩ 1 1 [.int .u8 34] rfl rfl (HON.out wr _) (by intro u hu; simp at hu; subst hu; rfl) (by unfold maxLen; omega) (by omega) hs2 ?_)
          intro v' W hown' hgrow _
          obtain ⟨a1, cap2, hvs1⟩ := sliceOf hown'
          subst hvs1
          have HX := Lib.hid (HD2.out.next (new := [34]) (k := 1) HS.out (by rw [byteCells_app]; exact hown') hgrow)
          clear hown' hgrow HD2
          go_big_wp2
          exact ⟨⟨pos + 1, m + 1, cap2, a1, out ++ [34], rfl, by go_num, by omega, by omega, HX⟩, by simp [RowKit.intOf]; omega⟩
      have nu : ¬ (x.toNat : Int) = 34 := by have := nat (k := 34) (by omega) cu; omega
      have bu : ((x.toNat : Int) == 34) = false := by rw [beq_eq_false_iff_ne]; exact nu
      have HS : Hid (escR attr ((bl s).drop pos) = [x] ++ escR attr ((bl s).drop (pos + 1))) := Lib.hid (by
        have h1 := esc_byte (attr := attr) hlt HXl.out (.inl cn)
        rw [h1]
        congr 1
        unfold oneE
        rw [if_neg ca, if_neg cr, if_neg (fun e => ck e.1), if_neg (fun e => cg e.1), if_neg (fun e => cu e.1)])
      clear nat ca cn cr ck cg cu
      have HD2 := Lib.hid (HD.out.on ((Below.refl _ _).alloc (Nat.le_refl _) (.cells #[.int .u8 ((x.toNat : Nat) : Int)] 5)))
      have hs2 : w.heap.size ≤ (wr.alloc (.cells #[.int .u8 ((x.toNat : Nat) : Int)] 5)).heap.size := HD2.out.below.size
      go_big_wp2_with (at_builtin; refine wpList_append_own _ rfl _ _ 29 rfl w.heap.size 5 i0 _ 1 1 underBytes hi hz0 hz1 hz2 rfl (by decide) _ m (byteCells out) rfl HD2.out.row ⟨wr.heap.size, 0, none⟩ 1 1 [.int .u8 ((x.toNat : Nat) : Int)] rfl rfl (HON.out wr _) (by intro u hu; simp at hu; subst hu; rfl) (by unfold maxLen; omega) (by omega) hs2 ?_)
      intro v' W hown' hgrow _
      obtain ⟨a1, cap2, hvs1⟩ := sliceOf hown'
      subst hvs1
      have HX := Lib.hid (HD2.out.next (new := [x]) (k := 1) HS.out (by rw [byteCells_app]; exact hown') hgrow)
      clear hown' hgrow HD2
      go_big_wp2
      exact ⟨⟨pos + 1, m + 1, cap2, a1, out ++ [x], rfl, by go_num, by omega, by omega, HX⟩, by simp [RowKit.intOf]; omega⟩

    · have hcv := HD.out.text (by omega)
      have hltI : ¬ (pos : Int) < s.size := by omega
      go_big_wp2
      go_ret
      exact ⟨rfl, HD.out.below⟩
end Go.Proofs.YtkfmfldkllkcbabDoor

