/-
  The document's cut of a text's first part is 'cutAt', at whatever place of a text. No conditions.
-/
import Derived.Test.YtkfmfldkllkcbabDoorUCutW
import Derived.Test.YtkfmfldkllkcbabDoorUCutM
import Derived.Test.YtkfmfldkllkcbabDoorUEach
namespace Go.Proofs.YtkfmfldkllkcbabDoor.U
open Go.RowKit Go.RunKit Go.UtfKit Go.Lib

set_option maxRecDepth 100000 in
set_option maxHeartbeats 1000000 in
theorem cut_few (s : ByteArray) (w : World) (hs : 0 < s.size) (b0 : Nat) (e0 : (s[0]'hs).toNat = b0) (hlt : b0 < 256) (hz : sizeR b0 = 0 ∨ sizeR b0 = 1) :
    Calls Tryd.prog 18 #[.string s] w fun e w' => e = .returned (.agg (partCells (cutAt s 0))) ∧ Below w.heap.size w w' := by
  have hS := Lib.hid (size_any b0 hlt)
  have E0 : byteAt s 0 = b0 := (byteAt_get s 0 hs).trans e0
  rcases hz with hz | hz
  · rw [hz] at hS
    obtain ⟨a, b⟩ := sizeR_none hz
    have E : Hid (cutAt s 0 = ⟨65533, 1, false⟩) := Lib.hid (by
      rw [cutAt_zero, E0]
      unfold cutN
      rcases b with b | ⟨b, c, d, e⟩
      · rw [if_neg a, if_pos b]
      · rw [if_neg a, if_neg b, if_neg c, if_neg d, if_neg e])
    clear E0 a b
    go_enter Tryd.func18, Tryd.ntmps18
    go_wp2_with (go_at_call 30; refine (hS.out _).mono ?_; rintro e w' ⟨rfl, rfl⟩)
    refine bodyPost_ret (part_results rfl _ _ w.heap.size (.int .i32 65533) (.int .i64 1) (.bool false) rfl (heap_alloc_new w _)) rfl ?_
    rw [E.out]
    exact ⟨rfl, (Below.refl _ _).alloc (Nat.le_refl _) _⟩
  · rw [hz] at hS
    have a := sizeR_one hz
    have E : Hid (cutAt s 0 = ⟨b0, 1, true⟩) := Lib.hid (by
      rw [cutAt_zero, E0]
      unfold cutN
      rw [if_pos a])
    clear E0 a
    go_enter Tryd.func18, Tryd.ntmps18
    go_wp2_with (go_at_call 30; refine (hS.out _).mono ?_; rintro e w' ⟨rfl, rfl⟩)
    refine bodyPost_ret (part_results rfl _ _ w.heap.size (.int .i32 (b0 : Nat)) (.int .i64 1) (.bool true) rfl (heap_alloc_new w _)) rfl ?_
    rw [E.out]
    exact ⟨rfl, (Below.refl _ _).alloc (Nat.le_refl _) _⟩

/-- THE CUT. -/
theorem cut_any (s : ByteArray) (w : World) (hs : 0 < s.size) :
    Calls Tryd.prog 18 #[.string s] w fun e w' => e = .returned (.agg (partCells (cutAt s 0))) ∧ Below w.heap.size w w' := by
  have E0 := byteAt_get s 0 hs
  have hlt := byteAt_lt s 0
  by_cases hn : sizeR (byteAt s 0) = 2 ∨ sizeR (byteAt s 0) = 3 ∨ sizeR (byteAt s 0) = 4
  · refine (cut_more s w hs _ _ E0.symm rfl hn hlt).mono ?_
    rintro e w' ⟨h, hb⟩
    refine ⟨?_, hb⟩
    rcases h with ⟨i, h1, h2, h3, h4, rfl⟩ | ⟨h1, rfl⟩
    · rw [cut_bad rfl hn h1 h2 h3 h4]; rfl
    · rw [cut_good rfl hn h1]; rfl
  · refine cut_few s w hs _ E0.symm hlt ?_
    have : sizeR (byteAt s 0) ≤ 4 := by
      unfold sizeR
      repeat' split
      all_goals omega
    omega

theorem cutAt_drop (s : ByteArray) (pos : Nat) : cutAt (s.extract pos s.size) 0 = cutAt s pos := by
  unfold cutAt
  rw [byteAt_drop, byteAt_drop, byteAt_drop, byteAt_drop]
  have : (s.extract pos s.size).size - 0 = s.size - pos := by simp
  rw [this]
  simp only [Nat.zero_add, Nat.add_zero]
theorem cut_at (s : ByteArray) (pos : Nat) (hp : pos < s.size) (w : World) :
    Calls Tryd.prog 18 #[.string (s.extract pos s.size)] w fun e w' => e = .returned (.agg (partCells (cutAt s pos))) ∧ Below w.heap.size w w' := by
  have := cut_any (s.extract pos s.size) w (by simp; omega)
  rwa [cutAt_drop] at this
end Go.Proofs.YtkfmfldkllkcbabDoor.U

