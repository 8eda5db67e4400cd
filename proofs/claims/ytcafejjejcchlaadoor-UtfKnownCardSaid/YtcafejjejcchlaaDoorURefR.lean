/-
  The document's Runes: the characters of the parts. Conditions: the text is no longer than 2^40 bytes.
-/
import Derived.Test.YtcafejjejcchlaaDoorUCut3
import Derived.Test.YtcafejjejcchlaaDoorURunes
namespace Go.Proofs.YtcafejjejcchlaaDoor
open Go.RowKit Go.RunKit Go.UtfKit Go.Lib

set_option maxRecDepth 100000 in
set_option maxHeartbeats 1000000 in
theorem refRunes_any (s : ByteArray) (w : World) (hsz : s.size + 1 ≤ 1099511627776) :
    Calls Tryd.prog 21 #[.string s] w fun e w' => ∃ v, e = .returned v ∧ w'.ownsRow w.heap.size 21 1 v (parts s).length (charCells (parts s)) ∧ Below w.heap.size w w' := by
  obtain ⟨i0, hi, hz0, hz1, hz2⟩ := info_parts Tryd.infoInt32
  have D0 : Hid (([] : List Part) ++ partsFrom s 0 = parts s ∧ w.ownsRow w.heap.size 21 1 (.slice none 0 0) 0 (charCells []) ∧ Below w.heap.size w w) := Lib.hid ⟨rfl, World.ownsRow_nil _ _ _ _, Below.refl _ _⟩
  go_enter Tryd.func21, Tryd.ntmps21
  go_wp2
  go_loopw [3, 4] (fun l i wr => ∃ (pos cap : Nat) (a : Option Addr) (d : List Part), l = .slice a d.length cap ∧ i = .int .i64 pos ∧ pos ≤ s.size ∧ Hid (d ++ partsFrom s pos = parts s ∧ wr.ownsRow w.heap.size 21 1 (.slice a d.length cap) d.length (charCells d) ∧ Below w.heap.size w wr)) (fun _ i _ => s.size - (intOf i).toNat)
  case atStart => exact ⟨0, 0, none, [], rfl, rfl, Nat.zero_le _, D0⟩
  case round =>
    clear D0
    obtain ⟨pos, cap, a, d, rfl, rfl, hpos, HD⟩ := hrel
    by_cases hlt : pos < s.size
    · have HC := Lib.hid (cut_at s pos hlt wr)
      have HL := Lib.hid (cutAt_len s pos hlt)
      have HE : Hid (d ++ cutAt s pos :: partsFrom s (pos + (cutAt s pos).len) = parts s) := Lib.hid (by rw [← partsFrom_step s pos hlt]; exact HD.out.1)
      generalize cutAt s pos = p at *
      have hlen : d.length + 1 ≤ 1099511627776 := by
        have h1 := parts_len s (s.size - 0) 0
        change (parts s).length ≤ _ at h1
        rw [← HE.out] at h1
        simp at h1; omega
      go_wp2_with (first
        | (go_at_call 19; refine HC.out.mono ?_; rintro e w1 ⟨rfl, hb1⟩; unfold partCells; have HO := Lib.hid (World.ownsRow.alloc (World.ownsRow.alloc (ownsRow_beside (n0 := 0) HD.out.2.1 (Beside.of_below hb1 (Nat.zero_le _))) (.cells #[.int .i32 (p.char : Nat), .int .i64 (p.len : Nat), .bool p.ok] 47)) (.cells #[.int .i32 (p.char : Nat)] 21)))
        | (at_builtin; refine wpList_append_own _ rfl _ _ 28 rfl w.heap.size 21 i0 _ 1 4 Tryd.underRunes hi hz0 hz1 hz2 rfl (by decide) _ d.length (charCells d) rfl HO.out ⟨w1.heap.size + 1, 0, none⟩ 1 1 [.int .i32 (p.char : Nat)] rfl ?c1 ?c2 ?c3 ?c4 ?c5 ?c6 ?_))
      case c1 => rfl
      case c2 =>
        intro j u hu
        cases j with
        | zero => simpa [go_sem] using hu
        | succ j => simp at hu
      case c3 => intro u hu; simp at hu; subst hu; rfl
      case c4 => unfold maxLen; omega
      case c5 => omega
      case c6 => have := HD.out.2.2.size; have := hb1.size; simp; omega
      intro v' W hown' hgrow _
      obtain ⟨a1, cap1, hvs1⟩ := slice_of hown'
      subst hvs1
      have hz := HD.out.2.2.size
      have hz1 := hb1.size
      have hbW : Below w.heap.size w W := (((HD.out.2.2.trans (hb1.mono hz)).alloc (by omega) _).alloc (by simp; omega) _).grown hgrow (by simp; omega) (fun k hk => by have := (World.ownsRow.lt HD.out.2.1 k hk).1; omega)
      have hne : some w1.heap.size ≠ (Value.slice a d.length cap).ownBlock := by
        intro e
        have := (World.ownsRow.lt HD.out.2.1 w1.heap.size e.symm).2
        omega
      have hblk : W.heap[w1.heap.size]? = some (Obj.cells #[.int .i32 (p.char : Nat), .int .i64 (p.len : Nat), .bool p.ok] 47 (0, 0)) := by
        rw [hgrow.block _ (by simp; omega) hne, Below.heap_alloc _ _ _ (by simp)]
        exact heap_alloc_new w1 _
      have hcell : W.cell? ⟨w1.heap.size, 1, none⟩ = some (.int .i64 (p.len : Nat)) := by rw [cell_of_row _ _ _ _ _ _ hblk]; rfl
      have hL := HL.out
      have HW := Lib.hid (And.intro hown' hbW)
      clear hown' hbW hgrow hblk HO hne
      go_wp2
      exact ⟨⟨pos + p.len, cap1, a1, d ++ [p], by simp, by go_num, by omega, Lib.hid ⟨by rw [List.append_assoc]; exact HE.out, by simpa [charCells] using HW.out.1, HW.out.2⟩⟩, by simp [intOf]; omega⟩
    · have he : d = parts s := by
        have := HD.out.1
        rw [partsFrom_end s _ (by omega), List.append_nil] at this
        exact this
      subst he
      go_wp2
      go_ret
      exact ⟨_, rfl, HD.out.2.1, HD.out.2.2⟩
end Go.Proofs.YtcafejjejcchlaaDoor
