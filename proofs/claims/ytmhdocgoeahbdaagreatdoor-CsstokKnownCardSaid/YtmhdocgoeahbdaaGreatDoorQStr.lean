/-
  String of utf, of characters wherever they lie. No conditions.
-/
import Derived.Test.YtmhdocgoeahbdaaGreatDoorQTook
import Derived.Test.YtmhdocgoeahbdaaGreatDoorUWorks
import Derived.Test.YtmhdocgoeahbdaaGreatDoorUStr
namespace Go.Proofs.YtmhdocgoeahbdaaGreatDoor
open Go.RowKit Go.RunKit Go.Lib Go.CssKit

theorem add_off (g o j : Nat) : (⟨g, o, none⟩ : Addr).add j = ⟨g, o + j, none⟩ := by
  unfold Addr.add
  by_cases h : j = 0
  · subst h; rfl
  · simp [h]
theorem bytesC_eq (zs : List Int) : runesBytes zs = ⟨(bytesC zs).toArray⟩ := U.runesBytes_eq zs
set_option maxRecDepth 100000 in
set_option maxHeartbeats 1000000 in
theorem str7_any (ao : Option Addr) (n cap : Nat) (zs : List Int) (w : World) (hl : zs.length = n) (hn : ao = none → zs = [])
    (hr : ∀ a, ao = some a → ∃ g o, a = ⟨g, o, none⟩ ∧ ∀ j z, zs[j]? = some z → w.cell? ⟨g, o + j, none⟩ = some (.int .i32 z)) :
    Calls Tryz.prog 94 #[.slice ao n cap] w fun e w' => e = .returned (.string ⟨(bytesC zs).toArray⟩) ∧ w = w' := by
  cases ao with
  | none =>
    obtain rfl := hn rfl
    have hcv := run_convert_runes_nil (P := Tryz.prog) w 41 9 21 n cap U.Tryz.underRunes U.underRune U.underString
    clear hn hr hl
    go_enter Tryz.func94, Tryz.ntmps94
    go_wp2
    go_ret
    exact ⟨rfl, rfl⟩
  | some a =>
    obtain ⟨g, o, rfl, hc⟩ := hr a rfl
    subst hl
    rw [← bytesC_eq]
    refine U.string_any ⟨g, o, none⟩ cap zs w fun j hj => ?_
    rw [add_off, hc j _ (List.getElem?_eq_getElem hj)]
    simp [hj]
end Go.Proofs.YtmhdocgoeahbdaaGreatDoor
