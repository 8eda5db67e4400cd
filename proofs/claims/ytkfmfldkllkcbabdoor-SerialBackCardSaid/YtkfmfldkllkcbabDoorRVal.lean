/-
  isPlain, isAttrName of package tree, by contract. Conditions: the library's two tables hold what its text lays.
-/
import Derived.Test.YtkfmfldkllkcbabDoorRValM
import Derived.Test.YtkfmfldkllkcbabDoorShelf2
namespace Go.Proofs.YtkfmfldkllkcbabDoor
open Go.RowKit Go.RunKit Go.CharrefKit Go.Lib Go.TokenKit Go.TreeKit

/-- The library's two tables, as utf8.ValidString asks for them. -/
def VTabs (w : World) : Prop := Lib.Utf8Tabs (Tryd.lays196_ren.g 3) (Tryd.lays196_ren.g 4) w
theorem VTabs.on {w w' : World} (h : VTabs w) (hb : Below w.heap.size w w') : VTabs w' := by
  refine ⟨fun c hc => ?_, fun i hi => ?_⟩
  · have := h.1 c hc
    rw [hb.cell (World.block_lt_of_cell? _ _ this)]; exact this
  · have := h.2 i hi
    exact ⟨by rw [hb.cell (World.block_lt_of_cell? _ _ this.1)]; exact this.1, by rw [hb.cell (World.block_lt_of_cell? _ _ this.2)]; exact this.2⟩

set_option maxRecDepth 100000 in
set_option maxHeartbeats 1000000 in
theorem isPlain_any (s : ByteArray) (w : World) (hs : s.size ≤ 9223372036854775807) (hv : VTabs w) :
    Calls Tryd.prog 66 #[.string s] w fun e w' => e = .returned (.bool (wellL s)) ∧ Below w.heap.size w w' := by
  rw [plain_eq]
  have hV := Tryd.utf8_ValidString s w hs hv
  change Calls Tryd.prog 72 #[.string s] w fun e w' => e = .returned (.bool (Lib.validD (bl s))) ∧ Below w.heap.size w w' at hV
  have hI := fun W => Tryd.strings_IndexByte s 0 W
  change ∀ W, Calls Tryd.prog 19 #[.string s, .int .u8 0] W fun e w' => e = .returned (.int .i64 (Lib.indexByte (bl s) 0)) ∧ w' = W at hI
  obtain ⟨v, hvv⟩ : ∃ v, Lib.validD (bl s) = v := ⟨_, rfl⟩
  obtain ⟨x, hx⟩ : ∃ x, Lib.indexByte (bl s) 0 = x := ⟨_, rfl⟩
  rw [hvv] at hV ⊢
  rw [hx] at hI ⊢
  have HV := Lib.hid hV
  have HI := Lib.hid hI
  clear hV hI hvv hx hv
  cases v with
  | false =>
    rw [Bool.false_and]
    go_enter Tryd.func66, Tryd.ntmps66
    go_big_wp2_with (go_at_call 72; refine HV.out.mono ?_; rintro e w1 ⟨rfl, hb1⟩)
    go_ret
    exact ⟨rfl, hb1⟩
  | true =>
    rw [Bool.true_and]
    by_cases hx : x < 0
    · have hd : decide (x < 0) = true := decide_eq_true hx
      rw [hd]
      go_enter Tryd.func66, Tryd.ntmps66
      go_big_wp2_with (first
        | (go_at_call 72; refine HV.out.mono ?_; rintro e w1 ⟨rfl, hb1⟩)
        | (go_at_call 19; refine (HI.out _).mono ?_; rintro e w2 ⟨rfl, rfl⟩))
      go_ret
      exact ⟨rfl, hb1⟩
    · have hd : decide (x < 0) = false := decide_eq_false hx
      have hxI : (x < 0) = False := eq_false hx
      rw [hd]
      go_enter Tryd.func66, Tryd.ntmps66
      go_big_wp2_with (first
        | (go_at_call 72; refine HV.out.mono ?_; rintro e w1 ⟨rfl, hb1⟩)
        | (go_at_call 19; refine (HI.out _).mono ?_; rintro e w2 ⟨rfl, rfl⟩))
      go_ret
      exact ⟨rfl, hb1⟩

set_option maxRecDepth 100000 in
set_option maxHeartbeats 1000000 in
theorem isAttrName_any (s : ByteArray) (w : World) :
    Calls Tryd.prog 69 #[.string s] w fun e w' => e = .returned (.bool (attrNameL (bl s))) ∧ Below w.heap.size w w' := by
  have hT := fun W => trimLeft_any s ⟨signsN.toArray⟩ W (by decide) (fun j b hb => by have := List.all_eq_true.1 (show signsN.all (fun b => decide (b.toNat < 128)) = true by decide) b (List.mem_of_getElem? hb); simpa using this)
  rw [bl_of signsN] at hT
  obtain ⟨t, ht⟩ : ∃ t, Lib.trimLeftS (bl s) signsN = t := ⟨_, rfl⟩
  have hta := trim_all (bl s)
  rw [ht] at hT hta
  have hlist := Lib.toList_data s
  by_cases h0 : bl s = []
  · have e0 : s.toList.isEmpty = true := by rw [hlist]; show (bl s).isEmpty = true; rw [h0]; rfl
    have e1 : (s.toList == []) = true := by rw [hlist]; exact beq_iff_eq.2 h0
    have e2 : (s.toList != []) = false := by rw [bne_eq_false_iff_eq, hlist]; exact h0
    have ea : attrNameL (bl s) = false := by rw [h0]; rfl
    rw [ea]
    clear hT hta hlist h0 ea
    go_enter Tryd.func69, Tryd.ntmps69
    go_big_wp2
    go_ret
    exact ⟨rfl, Below.refl _ _⟩
  · have hemp : (bl s).isEmpty = false := by cases hb : bl s with
      | nil => exact absurd hb h0
      | cons b r => rfl
    have e0 : s.toList.isEmpty = false := by rw [hlist]; exact hemp
    have e1 : (s.toList == []) = false := by rw [hlist]; exact beq_eq_false_iff_ne.2 h0
    have e2 : (s.toList != []) = true := by rw [bne_iff_ne, hlist]; exact h0
    have HT := Lib.hid hT
    by_cases hn : t = []
    · subst hn
      have ea : attrNameL (bl s) = true := by unfold attrNameL; rw [hemp, hta.mp rfl]; rfl
      rw [ea]
      clear hT hta hlist h0 ea hemp ht
      go_enter Tryd.func69, Tryd.ntmps69
      go_big_wp2_with (go_at_call 74; refine (HT.out _).mono ?_; rintro e w1 ⟨rfl, hb1⟩)
      go_ret
      exact ⟨rfl, hb1⟩
    · have ea : attrNameL (bl s) = false := by
        unfold attrNameL
        rw [hemp, Bool.not_false, Bool.true_and, Bool.eq_false_iff]
        intro hc
        exact hn (hta.mpr hc)
      rw [ea]
      obtain ⟨x, hx⟩ : ∃ x : ByteArray, ⟨t.toArray⟩ = x := ⟨_, rfl⟩
      have hxl : x.toList = t := by rw [← hx, Lib.toList_data]
      have f0 : x.toList.isEmpty = false := by rw [hxl]; cases t with
        | nil => exact absurd rfl hn
        | cons b r => rfl
      have f1 : (x.toList == []) = false := by rw [hxl]; exact beq_eq_false_iff_ne.2 hn
      rw [hx] at HT
      clear hT hta hlist h0 ea hemp ht hxl hx
      go_enter Tryd.func69, Tryd.ntmps69
      go_big_wp2_with (go_at_call 74; refine (HT.out _).mono ?_; rintro e w1 ⟨rfl, hb1⟩)
      go_ret
      exact ⟨rfl, hb1⟩
end Go.Proofs.YtkfmfldkllkcbabDoor

