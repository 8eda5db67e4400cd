/-
  Letter, Digit and Small: the document's way. Conditions: the text is no longer than 2^19 bytes.
-/
import Derived.Test.YtkfmfldkllkcbaaGreatDoorPKT
namespace Go.Proofs.YtkfmfldkllkcbaaGreatDoor
open Go.RowKit Go.RunKit Go.CharrefKit Go.Lib Go.TokenKit

set_option maxRecDepth 100000 in
set_option maxHeartbeats 1000000 in
theorem letter04_any (b : Nat) (hb : b < 256) (w : World) :
    Calls Tryz.prog 32 #[.int .u8 (b : Nat)] w fun e w' => e = .returned (.bool (isLet b)) ∧ w = w' := by
  by_cases h1 : (97 : Int) ≤ b <;> by_cases h2 : (b : Int) ≤ 122 <;> by_cases h3 : (65 : Int) ≤ b <;> by_cases h4 : (b : Int) ≤ 90
  all_goals (try (exfalso; omega))
  all_goals
    go_enter Tryz.func32, Tryz.ntmps32
    go_big_wp2
    go_ret
    refine ⟨ret1_eq (congrArg Value.bool ?_), rfl⟩
    unfold isLet
    try simp
    try omega
set_option maxRecDepth 100000 in
set_option maxHeartbeats 1000000 in
theorem digit04_any (b : Nat) (hb : b < 256) (w : World) :
    Calls Tryz.prog 33 #[.int .u8 (b : Nat)] w fun e w' => e = .returned (.bool (isNum b)) ∧ w = w' := by
  by_cases h1 : (48 : Int) ≤ b <;> by_cases h2 : (b : Int) ≤ 57
  all_goals (try (exfalso; omega))
  all_goals
    go_enter Tryz.func33, Tryz.ntmps33
    go_big_wp2
    go_ret
    refine ⟨ret1_eq (congrArg Value.bool ?_), rfl⟩
    unfold isNum
    try simp
    try omega

/-- What is held at the loop's head. -/
structure SmAt (w0 : World) (s : ByteArray) (k cap : Nat) (b : Option Addr) (w : World) : Prop where
  row : w.ownsRow w0.heap.size 5 1 (.slice b k cap) k (byteCells (smallL ((bl s).take k)))
  below : Below w0.heap.size w0 w
theorem SmAt.on {w0 : World} {s : ByteArray} {k cap : Nat} {b : Option Addr} {w w' : World} (h : SmAt w0 s k cap b w) (hb : Below w.heap.size w w') : SmAt w0 s k cap b w' :=
  ⟨own_on h.row hb, h.below.trans (hb.mono h.below.size)⟩
theorem SmAt.grown {w0 : World} {s : ByteArray} {k cap : Nat} {b : Option Addr} {w W : World} (h : SmAt w0 s k cap b w) (hg : w.grownBy W (Value.slice b k cap).ownBlock) : Below w0.heap.size w0 W :=
  h.below.grown hg h.below.size (fun k hk => (World.ownsRow.lt h.row k hk).1)
theorem SmAt.text {w0 : World} {s : ByteArray} {k cap : Nat} {b : Option Addr} {w : World} (h : SmAt w0 s k cap b w) (hk : k = s.size) : (convert 42 9 (.slice b k cap)).run Tryz.prog w = .ok (.string ⟨(smallL (bl s)).toArray⟩) w := by
  have hlen := bl_length s
  have hr := h.row
  rw [List.take_of_length_le (by omega)] at hr
  have hl : (smallL (bl s)).length = k := by rw [smallL, List.length_map]; omega
  rcases hr.2 with ⟨e, e2⟩ | ⟨g, cap3, cur, e, _⟩
  · cases e
    have : smallL (bl s) = [] := List.length_eq_zero_iff.1 (by omega)
    rw [this]
    exact run_convert_bytes_nil (P := Tryz.prog) _ 42 5 underBytes underByte _ _ _ underString
  · cases e
    rw [← hl]
    refine run_convert_bytes_back (P := Tryz.prog) w 42 9 5 ⟨g, 0, none⟩ cap _ underBytes underByte underString (fun j hj => ?_)
    rw [add_at]
    rw [World.ownsRow.cellAt hr j (by omega)]
    simp [byteCells, hj]

set_option maxRecDepth 100000 in
set_option maxHeartbeats 4000000 in
theorem refSmall_any (s : ByteArray) (hsz : s.size ≤ 524288) (w : World) :
    Calls Tryz.prog 34 #[.string s] w fun e w' => e = .returned (.string ⟨(smallL (bl s)).toArray⟩) ∧ Below w.heap.size w w' := by
  obtain ⟨i0, hi, hz0, hz1, hz2⟩ := info_parts Tryz.infoByte
  have D0 : Hid (SmAt w s 0 0 none w) := Lib.hid ⟨World.ownsRow_nil _ _ _ _, Below.refl _ _⟩
  go_enter Tryz.func34, Tryz.ntmps34
  go_wp2
  go_loopw [3, 4] (fun l i wr => ∃ (k cap : Nat) (b : Option Addr), l = .slice b k cap ∧ i = .int .i64 k ∧ k ≤ s.size ∧ Hid (SmAt w s k cap b wr)) (fun _ i _ => s.size - (RowKit.intOf i).toNat)
  case atStart => exact ⟨0, 0, none, rfl, rfl, Nat.zero_le _, D0⟩
  case round =>
    clear D0
    obtain ⟨k, cap, b, rfl, rfl, hk, HD⟩ := hrel
    by_cases hlt : k < s.size
    · have hltI : (k : Int) < s.size := by omega
      obtain ⟨x, hx⟩ : ∃ x : UInt8, s[k]'hlt = x := ⟨_, rfl⟩
      have hxl : (bl s)[k]? = some x := by rw [← hx]; exact Lib.data_getElem? s k hlt
      have hcell : byteCells (smallL ((bl s).take (k + 1))) = byteCells (smallL ((bl s).take k)) ++ [.int .u8 ((smallB x).toNat : Int)] := by
        rw [List.take_add_one, hxl]; simp [byteCells, smallL]
      have HC := Lib.hid hcell
      have hone : ∀ (w1 : World) (v : Value) (j : Nat) (u : Value), [v][j]? = some u → (w1.alloc (.cells #[v] 5)).cell? ((⟨w1.heap.size, 0, none⟩ : Addr).add j) = some u := fun w1 v j u hu => by
        obtain rfl : j = 0 := by have := (List.getElem?_eq_some_iff.1 hu).1; simp at this; exact this
        simpa [go_sem] using hu
      have HON := Lib.hid hone
      have HD1 := Lib.hid fun (v : Value) => HD.out.on ((Below.refl _ _).alloc (Nat.le_refl _) (.cells #[v] 5))
      have hx256 := x.toNat_lt
      clear hcell hone hxl
      by_cases hup : 65 ≤ x.toNat ∧ x.toNat ≤ 90
      · have h1 : (65 : Int) ≤ x.toNat := by omega
        have h2 : (x.toNat : Int) ≤ 90 := by omega
        rw [smallB_hit hup.1 hup.2] at HC
        have hw : ((x.toNat : Int) + 32) % 256 = (x.toNat : Int) + 32 := by omega
        have HD2 := Lib.hid (HD1.out (.int .u8 ((x.toNat + 32 : Nat) : Int)))
        have hs2 := HD2.out.below.size
        clear hup
        go_wp2_with (at_builtin; refine wpList_append_own _ rfl _ _ 42 rfl w.heap.size 5 i0 _ 1 1 underBytes hi hz0 hz1 hz2 rfl (by decide) _ k (byteCells (smallL ((bl s).take k))) rfl HD2.out.row ⟨wr.heap.size, 0, none⟩ 1 1 [.int .u8 ((x.toNat + 32 : Nat) : Int)] rfl ?c1 ?c2 ?c3 ?c4 ?c5 ?c6 ?_)
        case c1 => simp
        case c2 => exact HON.out wr _
        case c3 => intro u hu; simp at hu; subst hu; rfl
        case c4 => unfold maxLen; omega
        case c5 => omega
        case c6 => exact hs2
        intro v' W hown' hgrow _
        obtain ⟨a1, cap2, hvs1⟩ := sliceOf hown'
        subst hvs1
        have hbW := HD2.out.grown hgrow
        have HX : Hid (SmAt w s (k + 1) cap2 a1 W) := Lib.hid ⟨by rw [HC.out]; exact hown', hbW⟩
        clear hown' hbW hgrow HD2 HD1
        go_wp2
        exact ⟨⟨k + 1, cap2, a1, rfl, by go_num, by omega, HX⟩, by simp [RowKit.intOf]; omega⟩
      · rw [smallB_miss hup] at HC
        have hor : ¬ ((65 : Int) ≤ x.toNat) ∨ ((65 : Int) ≤ x.toNat ∧ ¬ ((x.toNat : Int) ≤ 90)) := by omega
        have HD2 := Lib.hid (HD1.out (.int .u8 ((x.toNat : Nat) : Int)))
        have hs2 := HD2.out.below.size
        clear hup
        rcases hor with h1 | ⟨h1, h2⟩
        · go_wp2_with (at_builtin; refine wpList_append_own _ rfl _ _ 42 rfl w.heap.size 5 i0 _ 1 1 underBytes hi hz0 hz1 hz2 rfl (by decide) _ k (byteCells (smallL ((bl s).take k))) rfl HD2.out.row ⟨wr.heap.size, 0, none⟩ 1 1 [.int .u8 ((x.toNat : Nat) : Int)] rfl ?d1 ?d2 ?d3 ?d4 ?d5 ?d6 ?_)
          case d3 => rfl
          case d4 => unfold maxLen; omega
          case d5 => omega
          case d6 => simpa [go_sem] using hs2
          intro v' W hown' hgrow _
          obtain ⟨a1, cap2, hvs1⟩ := sliceOf hown'
          subst hvs1
          have hbW := HD2.out.grown hgrow
          have HX : Hid (SmAt w s (k + 1) cap2 a1 W) := Lib.hid ⟨by rw [HC.out]; exact hown', hbW⟩
          clear hown' hbW hgrow HD2 HD1
          go_wp2
          exact ⟨⟨k + 1, cap2, a1, rfl, by go_num, by omega, HX⟩, by simp [RowKit.intOf]; omega⟩
        · go_wp2_with (at_builtin; refine wpList_append_own _ rfl _ _ 42 rfl w.heap.size 5 i0 _ 1 1 underBytes hi hz0 hz1 hz2 rfl (by decide) _ k (byteCells (smallL ((bl s).take k))) rfl HD2.out.row ⟨wr.heap.size, 0, none⟩ 1 1 [.int .u8 ((x.toNat : Nat) : Int)] rfl ?e1 ?e2 ?e3 ?e4 ?e5 ?e6 ?_)
          case e3 => rfl
          case e4 => unfold maxLen; omega
          case e5 => omega
          case e6 => simpa [go_sem] using hs2
          intro v' W hown' hgrow _
          obtain ⟨a1, cap2, hvs1⟩ := sliceOf hown'
          subst hvs1
          have hbW := HD2.out.grown hgrow
          have HX : Hid (SmAt w s (k + 1) cap2 a1 W) := Lib.hid ⟨by rw [HC.out]; exact hown', hbW⟩
          clear hown' hbW hgrow HD2 HD1
          go_wp2
          exact ⟨⟨k + 1, cap2, a1, rfl, by go_num, by omega, HX⟩, by simp [RowKit.intOf]; omega⟩
    · obtain rfl : k = s.size := by omega
      have hcv := HD.out.text rfl
      go_wp2
      go_ret
      exact ⟨rfl, HD.out.below⟩
end Go.Proofs.YtkfmfldkllkcbaaGreatDoor
