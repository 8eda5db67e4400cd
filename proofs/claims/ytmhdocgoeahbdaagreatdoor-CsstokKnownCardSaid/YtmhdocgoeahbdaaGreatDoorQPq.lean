/-
  The printer of package csstok: white space, hashes and texts. Conditions: as for names.
-/
import Derived.Test.YtmhdocgoeahbdaaGreatDoorQPn
namespace Go.CssKit
open Go Go.Lib Go.UtfKit
def isLn (z : Int) : Bool := z == 10 || z == 12 || z == 13
def isQt (z : Int) : Bool := z == 34 || z == 92
/-- A text as it is written behind its first quote. -/
def quoteC (z : Int) : List UInt8 := if isLn z = true then escT z else if isQt z = true then 92 :: encodeRune z else encodeRune z
def quoteW : Chars → List UInt8
  | [] => []
  | z :: r => quoteC z ++ quoteW r
/-- White space, behind this token. -/
def whiteW (t : CT) : List UInt8 := if t.kind = 7 ∨ (t.kind = 12 ∧ t.value = [92]) then [10] else [32]
end Go.CssKit
namespace Go.Proofs.YtmhdocgoeahbdaaGreatDoor
open Go.RowKit Go.RunKit Go.UtfKit Go.Lib Go.CssKit

set_option maxRecDepth 100000 in
set_option maxHeartbeats 8000000 in
theorem quoted_any (w0 : World) (b : Nat) (v : ByteArray) (s : List UInt8) (t : CT) (W : World) (ht : U.Tabs w0) (hv : v.size ≤ 1073741824)
    (hE : ∀ z, z ∈ codes v → isLn z = true → EscAs w0 b t z)
    (hlen : s.length + 1 + 11 * v.size ≤ 70368744177664) (h : PrAt w0 b s t W) :
    Calls Tryz.prog 62 #[.pointer (some ⟨b, 0, none⟩), .string v] W fun e w' => e = .returned (.tuple #[]) ∧ PrAt w0 b (s ++ 34 :: quoteW (codes v)) t w' ∧ KeepP b W w' := by
  have HB := Lib.hid (pbyte_any w0 b 34 s t W (by omega) h)
  have HTabs := Lib.hid ht
  have hcl := codes_len v
  have hok : ∀ z, z ∈ codes v → 0 ≤ z ∧ (z < 55296 ∨ (57343 < z ∧ z ≤ 1114111)) := fun z hz => codes_char hz
  have HEl := Lib.hid (charCells_codes v)
  obtain ⟨cs, hcs⟩ : ∃ x, codes v = x := ⟨_, rfl⟩
  have hpl : (parts v).length = cs.length := by rw [← hcs]; unfold codes; rw [List.length_map]
  rw [hcs] at hcl HEl hok hE ⊢
  obtain ⟨ans, hans⟩ : ∃ x, s ++ 34 :: quoteW cs = x := ⟨_, rfl⟩
  rw [hans]
  have D0 : Hid ((s ++ [34]) ++ quoteW (cs.drop 0) = ans) := Lib.hid (by rw [List.drop_zero, List.append_assoc]; exact hans)
  have hl2 : (s ++ [34]).length + 11 * (cs.length - 0) ≤ 70368744177664 := by simp; omega
  have HEsc := Lib.hid hE
  have HOk := Lib.hid hok
  have hcl2 : cs.length ≤ 1073741824 := by omega
  have HLt0 := Lib.hid h.lt
  have HV := Lib.hid hv
  have HPl := Lib.hid hpl
  clear ht hans hcs hpl hE hok hlen h hcl hv
  go_enter Tryz.func62, Tryz.ntmps62
  go_big_wp2_with (first
    | (go_at_call 60
       go_loud (
         refine HB.out.mono ?_
         clear HB
         rintro e wa ⟨rfl, hp1, hk1⟩
         have HR := Lib.hid (U.runes_any v wa (HTabs.out.on hp1.below) (by have := HV.out; omega))
         rw [HPl.out, HEl.out] at HR
         have HP1 := Lib.hid (And.intro hp1 hk1)
         clear hp1 hk1))
    | (go_at_call 33
       go_loud (
         refine HR.out.mono ?_
         clear HR
         rintro e w1 ⟨v1, rfl, hown, hb⟩
         have HOw := Lib.hid (show OwnC w1 wa.heap.size v1 cs from hown)
         have HB1 := Lib.hid hb
         obtain ⟨ao, acap, hsl, hna, hra⟩ := OwnC.slice (l := cs) hown
         subst hsl
         clear hown hb hna hra)))
  have P0 := Lib.hid (And.intro (HP1.out.1.on HB1.out) (Lib.OthersKept.refl TQ8 (some b) w1))
  have HLt := Lib.hid HP1.out.1.lt
  have HKb : Hid (KeepP b W w1) := Lib.hid (HP1.out.2.trans (keep_below HB1.out))
  clear HP1 HLt0 HEl HPl HV HTabs
  go_loopw [13] (fun i wr => ∃ (k : Nat) (s' : List UInt8), i = .int .i64 ((k : Nat) : Int) ∧ k ≤ cs.length ∧ s'.length + 11 * (cs.length - k) ≤ 70368744177664 ∧ Hid (PrAt w0 b s' t wr ∧ KeepP b w1 wr) ∧ Hid (s' ++ quoteW (cs.drop k) = ans)) (fun i _ => cs.length - (RowKit.intOf i).toNat)
  case atStart => exact ⟨0, _, rfl, Nat.zero_le _, hl2, P0, D0⟩
  case round =>
    clear P0 D0 hl2
    obtain ⟨k, s', rfl, hk, hl', HP, HD⟩ := hrel
    by_cases hlt : k < cs.length
    · obtain ⟨z, hz⟩ := some_at (l := cs) rfl hlt
      have hd : cs.drop k = z :: cs.drop (k + 1) := by rw [List.drop_eq_getElem_cons hlt]; rw [List.getElem?_eq_getElem hlt] at hz; cases hz; rfl
      have hst := HD.out
      rw [hd, quoteW] at hst
      obtain ⟨g, cap2, cur, fr, e1, hsee, hcap, hge, hgb⟩ := OwnC.see HOw.out (by intro e; rw [e] at hlt; simp at hlt)
      simp only [Value.slice.injEq] at e1
      obtain ⟨rfl, _, rfl⟩ := e1
      have hgb2 : g ≠ b := by have := HLt.out; omega
      have hsr := hsee.kept hgb hgb2 HP.out.2
      have hcell : wr.cell? ⟨g, k, none⟩ = some (.int .i32 z) := by
        have := hsr.cell k z hz
        rwa [Nat.zero_add] at this
      have hltI : (k : Int) < cs.length := by omega
      have hz1 := HOk.out z (List.mem_of_getElem? hz)
      have hle := escT_len z
      have hle2 := enc_len z
      have HEz := Lib.hid (fun hm => HEsc.out z (List.mem_of_getElem? hz) hm s' wr (by omega) HP.out.1)
      have HW := Lib.hid (fun s2 (h2 : s2.length ≤ s'.length + 1) W2 (hp : PrAt w0 b s2 t W2) => prune_any w0 b z (by omega) (by omega) s2 t W2 (by omega) hp)
      have HK := Lib.hid HP.out
      clear hd hsee hge hgb hgb2 hsr hz HP HD
      unfold quoteC at hst
      by_cases h1 : isLn z = true
      · rw [if_pos h1] at hst
        have HS : Hid ((s' ++ escT z) ++ quoteW (cs.drop (k + 1)) = ans) := Lib.hid (by rw [List.append_assoc]; exact hst)
        have HE := Lib.hid (HEz.out h1)
        have hl2 : (s' ++ escT z).length + 11 * (cs.length - (k + 1)) ≤ 70368744177664 := by rw [List.length_append]; omega
        have hzz : z = 10 ∨ z = 12 ∨ z = 13 := by unfold isLn at h1; simpa [or_assoc] using h1
        clear hst HEz HW h1 hle hle2 hz1
        rcases hzz with rfl | rfl | rfl
        all_goals
          go_big_wp2_with (go_at_call 86; refine HE.out.mono ?_; clear HE; rintro e w2 ⟨rfl, hp2, hk2⟩; have HP2 := Lib.hid (And.intro hp2 (HK.out.2.trans hk2)); clear hp2 hk2)
          exact ⟨⟨k + 1, _, by go_num, by omega, hl2, HP2, HS⟩, by simp [RowKit.intOf]; omega⟩
      · rw [if_neg h1] at hst
        have b10 : (z == 10) = false := by unfold isLn at h1; simp at h1; rw [beq_eq_false_iff_ne]; exact h1.1.1
        have b12 : (z == 12) = false := by unfold isLn at h1; simp at h1; rw [beq_eq_false_iff_ne]; exact h1.1.2
        have b13 : (z == 13) = false := by unfold isLn at h1; simp at h1; rw [beq_eq_false_iff_ne]; exact h1.2
        by_cases h2 : isQt z = true
        · rw [if_pos h2] at hst
          have HS : Hid (((s' ++ [92]) ++ encodeRune z) ++ quoteW (cs.drop (k + 1)) = ans) := Lib.hid (by rw [List.append_assoc, List.append_assoc]; exact hst)
          have hl2 : ((s' ++ [92]) ++ encodeRune z).length + 11 * (cs.length - (k + 1)) ≤ 70368744177664 := by rw [List.length_append, List.length_append]; simp; omega
          have HY := Lib.hid (pbyte_any w0 b 92 s' t wr (by omega) HK.out.1)
          have hzz : z = 34 ∨ z = 92 := by unfold isQt at h2; simpa using h2
          clear hst HEz h1 h2 hle hle2 hz1
          rcases hzz with rfl | rfl
          all_goals
            go_big_wp2_with (first
              | (go_at_call 60; refine HY.out.mono ?_; clear HY; rintro e w2 ⟨rfl, hp2, hk2⟩; have HX := Lib.hid (HW.out (s' ++ [92]) (by simp) w2 hp2); have HK2 := Lib.hid (HK.out.2.trans hk2); clear hp2 hk2)
              | (go_at_call 87; refine HX.out.mono ?_; clear HX; rintro e w3 ⟨⟨n3, rfl⟩, hp3, hk3⟩; have HP2 := Lib.hid (And.intro hp3 (HK2.out.trans hk3)); clear hp3 hk3))
            exact ⟨⟨k + 1, _, by go_num, by omega, hl2, HP2, HS⟩, by simp [RowKit.intOf]; omega⟩
        · rw [if_neg h2] at hst
          have b34 : (z == 34) = false := by unfold isQt at h2; simp at h2; rw [beq_eq_false_iff_ne]; exact h2.1
          have b92 : (z == 92) = false := by unfold isQt at h2; simp at h2; rw [beq_eq_false_iff_ne]; exact h2.2
          have HS : Hid ((s' ++ encodeRune z) ++ quoteW (cs.drop (k + 1)) = ans) := Lib.hid (by rw [List.append_assoc]; exact hst)
          have hl2 : (s' ++ encodeRune z).length + 11 * (cs.length - (k + 1)) ≤ 70368744177664 := by rw [List.length_append]; omega
          have HX := Lib.hid (HW.out s' (by omega) wr HK.out.1)
          clear hst HEz h1 h2 HW
          go_big_wp2_with (go_at_call 87; refine HX.out.mono ?_; clear HX; rintro e w3 ⟨⟨n3, rfl⟩, hp3, hk3⟩; have HP2 := Lib.hid (And.intro hp3 (HK.out.2.trans hk3)); clear hp3 hk3)
          exact ⟨⟨k + 1, _, by go_num, by omega, hl2, HP2, HS⟩, by simp [RowKit.intOf]; omega⟩
    · have hkl : k = cs.length := by omega
      subst hkl
      have hst := HD.out
      rw [List.drop_length, quoteW, List.append_nil] at hst
      subst hst
      go_wp2
      go_end0
      exact ⟨rfl, HP.out.1, HKb.out.trans HP.out.2⟩
set_option maxRecDepth 100000 in
set_option maxHeartbeats 2000000 in
theorem white_any (w0 : World) (b : Nat) (s : List UInt8) (t : CT) (W : World) (hlen : s.length + 1 ≤ 70368744177664) (h : PrAt w0 b s t W) :
    Calls Tryz.prog 57 #[.pointer (some ⟨b, 0, none⟩)] W fun e w' => e = .returned (.tuple #[]) ∧ PrAt w0 b (s ++ whiteW t) t w' ∧ KeepP b W w' := by
  have H10 := Lib.hid (pbyte_any w0 b 10 s t W hlen h)
  have H32 := Lib.hid (pbyte_any w0 b 32 s t W hlen h)
  obtain ⟨pa, bv, hB, hT⟩ := h.ex
  obtain ⟨⟨x0, x1, x2, x3, x4, x5⟩, _⟩ := pr6 hB.blk
  unfold whiteW
  obtain ⟨kd, vl, un, idb⟩ := t
  simp only at x2 x3 ⊢
  clear h hB hT x0 x1 x4 x5
  by_cases h7 : kd = 7
  · rw [if_pos (.inl h7)]
    subst h7
    clear H32
    go_enter Tryz.func57, Tryz.ntmps57
    go_big_wp2_with (go_at_call 60; refine H10.out.mono ?_; clear H10; rintro e w2 ⟨rfl, hp2⟩; have HP := Lib.hid hp2; clear hp2)
    all_goals ((try simp only [Exit.inBlock, Exit.then]); refine bodyPost_ret (results_none rfl _ _ _) rfl ?_)
    all_goals exact ⟨rfl, HP.out⟩
  · have b7 : ((kd : Int) == 7) = false := by rw [beq_eq_false_iff_ne]; omega
    by_cases h12 : kd = 12
    · subst h12
      by_cases hv : vl = [92]
      · rw [if_pos (.inr ⟨rfl, hv⟩)]
        subst hv
        clear H32
        go_enter Tryz.func57, Tryz.ntmps57
        go_big_wp2_with (go_at_call 60; refine H10.out.mono ?_; clear H10; rintro e w2 ⟨rfl, hp2⟩; have HP := Lib.hid hp2; clear hp2)
        all_goals ((try simp only [Exit.inBlock, Exit.then]); refine bodyPost_ret (results_none rfl _ _ _) rfl ?_)
        all_goals exact ⟨rfl, HP.out⟩
      · rw [if_neg (by simp [hv])]
        have bv1 : (vl == [92]) = false := by rw [beq_eq_false_iff_ne]; exact hv
        have bv2 : ((⟨vl.toArray⟩ : ByteArray).toList == [92]) = false := by rw [beq_eq_false_iff_ne]; intro e; exact hv (by simpa using e)
        clear H10
        go_enter Tryz.func57, Tryz.ntmps57
        go_big_wp2_with (go_at_call 60; refine H32.out.mono ?_; clear H32; rintro e w2 ⟨rfl, hp2⟩; have HP := Lib.hid hp2; clear hp2)
        all_goals go_end0
        all_goals exact ⟨rfl, HP.out⟩
    · have b12 : ((kd : Int) == 12) = false := by rw [beq_eq_false_iff_ne]; omega
      rw [if_neg (by omega)]
      clear H10
      go_enter Tryz.func57, Tryz.ntmps57
      go_big_wp2_with (go_at_call 60; refine H32.out.mono ?_; clear H32; rintro e w2 ⟨rfl, hp2⟩; have HP := Lib.hid hp2; clear hp2)
      all_goals go_end0
      all_goals exact ⟨rfl, HP.out⟩
end Go.Proofs.YtmhdocgoeahbdaaGreatDoor
