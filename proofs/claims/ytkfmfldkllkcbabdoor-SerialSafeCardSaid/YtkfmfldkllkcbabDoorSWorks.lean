/-
  The chapter's second example, of documents. Conditions: the library's two tables hold what its text lays.
-/
import Derived.Test.YtkfmfldkllkcbabDoorSSer
namespace Go.SerialKit
open Go Go.Lib Go.TokenKit Go.TreeKit
def wk6T : List NI := [⟨0, [], [], [], -1, [1, 3]⟩, ⟨1, [112], [([99, 108, 97, 115, 115], [120, 34, 121])], [], 0, [2]⟩, ⟨2, [], [], [49, 32, 62, 32, 48], 1, []⟩, ⟨1, [98, 114], [], [], 0, []⟩]
end Go.SerialKit
namespace Go.Proofs.YtkfmfldkllkcbabDoor
open Go.RowKit Go.RunKit Go.UtfKit Go.CharrefKit Go.Lib Go.TokenKit Go.TreeKit Go.SerialKit

theorem wk6_ser : serialL wk6T = ([60, 112, 32, 99, 108, 97, 115, 115, 61, 34, 120, 38, 113, 117, 111, 116, 59, 121, 34, 62, 49, 32, 38, 103, 116, 59, 32, 48, 60, 47, 112, 62, 60, 98, 114, 62], 0) := by kernel_rfl
theorem wk6_esc : escR false (bl ⟨#[97, 32, 60, 32, 98, 32, 38, 32, 99]⟩) = [97, 32, 38, 108, 116, 59, 32, 98, 32, 38, 97, 109, 112, 59, 32, 99] := by kernel_rfl

theorem wk6_in (w : World) (ti ta tn : TypeId) : TreeIn ((((w.alloc (.cells #[.int .i64 1, .int .i64 3] ti)).alloc (.cells #[.string ⟨#[99, 108, 97, 115, 115]⟩, .string ⟨#[120, 34, 121]⟩] ta)).alloc (.cells #[.int .i64 2] ti)).alloc
      (.cells #[.int .u8 0, .string ⟨#[]⟩, .slice none 0 0, .string ⟨#[]⟩, .int .i64 (-1), .slice (some ⟨w.heap.size, 0, none⟩) 2 2, .int .u8 1, .string ⟨#[112]⟩, .slice (some ⟨w.heap.size + 1, 0, none⟩) 1 1, .string ⟨#[]⟩, .int .i64 0, .slice (some ⟨w.heap.size + 1 + 1, 0, none⟩) 1 1,
        .int .u8 2, .string ⟨#[]⟩, .slice none 0 0, .string ⟨#[49, 32, 62, 32, 48]⟩, .int .i64 1, .slice none 0 0, .int .u8 1, .string ⟨#[98, 114]⟩, .slice none 0 0, .string ⟨#[]⟩, .int .i64 0, .slice none 0 0] tn)) (w.heap.size + 1 + 1 + 1) 0 wk6T ∧
    Below w.heap.size w ((((w.alloc (.cells #[.int .i64 1, .int .i64 3] ti)).alloc (.cells #[.string ⟨#[99, 108, 97, 115, 115]⟩, .string ⟨#[120, 34, 121]⟩] ta)).alloc (.cells #[.int .i64 2] ti)).alloc
      (.cells #[.int .u8 0, .string ⟨#[]⟩, .slice none 0 0, .string ⟨#[]⟩, .int .i64 (-1), .slice (some ⟨w.heap.size, 0, none⟩) 2 2, .int .u8 1, .string ⟨#[112]⟩, .slice (some ⟨w.heap.size + 1, 0, none⟩) 1 1, .string ⟨#[]⟩, .int .i64 0, .slice (some ⟨w.heap.size + 1 + 1, 0, none⟩) 1 1,
        .int .u8 2, .string ⟨#[]⟩, .slice none 0 0, .string ⟨#[49, 32, 62, 32, 48]⟩, .int .i64 1, .slice none 0 0, .int .u8 1, .string ⟨#[98, 114]⟩, .slice none 0 0, .string ⟨#[]⟩, .int .i64 0, .slice none 0 0] tn)) := by
  have b1 : Below w.heap.size w (w.alloc (.cells #[.int .i64 1, .int .i64 3] ti)) := (Below.refl _ _).alloc (Nat.le_refl _) _
  have l1 := heap_alloc_new w (.cells #[.int .i64 1, .int .i64 3] ti)
  have s1 : (w.alloc (.cells #[.int .i64 1, .int .i64 3] ti)).heap.size = w.heap.size + 1 := by simp
  obtain ⟨n, hn⟩ : ∃ n, w.heap.size = n := ⟨_, rfl⟩
  rw [hn] at l1 s1 ⊢
  generalize w.alloc (.cells #[.int .i64 1, .int .i64 3] ti) = w1 at *
  have b2 : Below w1.heap.size w1 (w1.alloc (.cells #[.string ⟨#[99, 108, 97, 115, 115]⟩, .string ⟨#[120, 34, 121]⟩] ta)) := (Below.refl _ _).alloc (Nat.le_refl _) _
  have l2 := heap_alloc_new w1 (.cells #[.string ⟨#[99, 108, 97, 115, 115]⟩, .string ⟨#[120, 34, 121]⟩] ta)
  have s2 : (w1.alloc (.cells #[.string ⟨#[99, 108, 97, 115, 115]⟩, .string ⟨#[120, 34, 121]⟩] ta)).heap.size = n + 1 + 1 := by simp [s1]
  rw [s1] at l2
  generalize w1.alloc (.cells #[.string ⟨#[99, 108, 97, 115, 115]⟩, .string ⟨#[120, 34, 121]⟩] ta) = w2 at *
  have b3 : Below w2.heap.size w2 (w2.alloc (.cells #[.int .i64 2] ti)) := (Below.refl _ _).alloc (Nat.le_refl _) _
  have l3 := heap_alloc_new w2 (.cells #[.int .i64 2] ti)
  have s3 : (w2.alloc (.cells #[.int .i64 2] ti)).heap.size = n + 1 + 1 + 1 := by simp [s2]
  rw [s2] at l3
  generalize w2.alloc (.cells #[.int .i64 2] ti) = w3 at *
  obtain ⟨cs, hcs⟩ : ∃ cs : Array Value, #[.int .u8 0, .string ⟨#[]⟩, .slice none 0 0, .string ⟨#[]⟩, .int .i64 (-1), .slice (some ⟨n, 0, none⟩) 2 2, .int .u8 1, .string ⟨#[112]⟩, .slice (some ⟨n + 1, 0, none⟩) 1 1, .string ⟨#[]⟩, .int .i64 0, .slice (some ⟨n + 1 + 1, 0, none⟩) 1 1,
        .int .u8 2, .string ⟨#[]⟩, .slice none 0 0, .string ⟨#[49, 32, 62, 32, 48]⟩, .int .i64 1, .slice none 0 0, .int .u8 1, .string ⟨#[98, 114]⟩, .slice none 0 0, .string ⟨#[]⟩, .int .i64 0, .slice none 0 0] = cs := ⟨_, rfl⟩
  rw [hcs]
  have b4 : Below w3.heap.size w3 (w3.alloc (.cells cs tn)) := (Below.refl _ _).alloc (Nat.le_refl _) _
  have l4 := heap_alloc_new w3 (.cells cs tn)
  rw [s3] at l4
  generalize w3.alloc (.cells cs tn) = w4 at *
  have m1 : w4.heap[n]? = some (.cells #[.int .i64 1, .int .i64 3] ti) := by rw [b4.block _ (by omega), b3.block _ (by omega), b2.block _ (by omega)]; exact l1
  have m2 : w4.heap[n + 1]? = some (.cells #[.string ⟨#[99, 108, 97, 115, 115]⟩, .string ⟨#[120, 34, 121]⟩] ta) := by rw [b4.block _ (by omega), b3.block _ (by omega)]; exact l2
  have m3 : w4.heap[n + 1 + 1]? = some (.cells #[.int .i64 2] ti) := by rw [b4.block _ (by omega)]; exact l3
  have hb : Below n w w4 := ((b1.trans (b2.mono (by omega))).trans (b3.mono (by omega))).trans (b4.mono (by omega)) |> fun h => by rw [hn] at h; exact h
  refine ⟨⟨?_⟩, hb⟩
  have hc := fun j => cell_of_row w4 (n + 1 + 1 + 1) j _ _ _ l4
  have c1 := fun j => cell_of_row w4 n j _ _ _ m1
  have c2 := fun j => cell_of_row w4 (n + 1) j _ _ _ m2
  have c3 := fun j => cell_of_row w4 (n + 1 + 1) j _ _ _ m3
  rw [← hcs] at hc
  have e0 : AttrsIn w4 none [] := ⟨fun j a h => by cases h⟩
  have z0 : IntsIn w4 none [] := ⟨fun j a h => by cases h⟩
  have k0 : IntsIn w4 (some ⟨n, 0, none⟩) [1, 3] := ⟨fun j a h => by
    match j, h with
    | 0, h => obtain rfl := Option.some.inj (show some (1 : Int) = some a from h); exact ⟨n, 0, rfl, (c1 _).trans rfl⟩
    | 1, h => obtain rfl := Option.some.inj (show some (3 : Int) = some a from h); exact ⟨n, 0, rfl, (c1 _).trans rfl⟩⟩
  have k1 : IntsIn w4 (some ⟨n + 1 + 1, 0, none⟩) [2] := ⟨fun j a h => by
    match j, h with
    | 0, h => obtain rfl := Option.some.inj (show some (2 : Int) = some a from h); exact ⟨n + 1 + 1, 0, rfl, (c3 _).trans rfl⟩⟩
  have a1 : AttrsIn w4 (some ⟨n + 1, 0, none⟩) [([99, 108, 97, 115, 115], [120, 34, 121])] := ⟨fun j a h => by
    match j, h with
    | 0, h => obtain rfl := Option.some.inj (show some (([99, 108, 97, 115, 115], [120, 34, 121]) : At) = some a from h); exact ⟨n + 1, 0, rfl, (c2 _).trans rfl, (c2 _).trans rfl⟩⟩
  intro k x hx
  match k, hx with
  | 0, hx =>
    obtain rfl := Option.some.inj (show some (⟨0, [], [], [], -1, [1, 3]⟩ : NI) = some x from hx)
    exact ⟨(hc _).trans rfl, (hc _).trans rfl, ⟨none, 0, (hc _).trans rfl, e0, by decide, by decide⟩, (hc _).trans rfl, (hc _).trans rfl, ⟨_, 2, (hc _).trans rfl, k0, by decide⟩, by decide, fun a ha => by cases ha⟩
  | 1, hx =>
    obtain rfl := Option.some.inj (show some (⟨1, [112], [([99, 108, 97, 115, 115], [120, 34, 121])], [], 0, [2]⟩ : NI) = some x from hx)
    exact ⟨(hc _).trans rfl, (hc _).trans rfl, ⟨_, 1, (hc _).trans rfl, a1, by decide, by decide⟩, (hc _).trans rfl, (hc _).trans rfl, ⟨_, 1, (hc _).trans rfl, k1, by decide⟩, by decide, fun a ha => by
      rcases List.mem_cons.1 ha with rfl | ha
      · exact (by decide : (3 : Nat) ≤ 9223372036854775807)
      · cases ha⟩
  | 2, hx =>
    obtain rfl := Option.some.inj (show some (⟨2, [], [], [49, 32, 62, 32, 48], 1, []⟩ : NI) = some x from hx)
    exact ⟨(hc _).trans rfl, (hc _).trans rfl, ⟨none, 0, (hc _).trans rfl, e0, by decide, by decide⟩, (hc _).trans rfl, (hc _).trans rfl, ⟨_, 0, (hc _).trans rfl, z0, by decide⟩, by decide, fun a ha => by cases ha⟩
  | 3, hx =>
    obtain rfl := Option.some.inj (show some (⟨1, [98, 114], [], [], 0, []⟩ : NI) = some x from hx)
    exact ⟨(hc _).trans rfl, (hc _).trans rfl, ⟨none, 0, (hc _).trans rfl, e0, by decide, by decide⟩, (hc _).trans rfl, (hc _).trans rfl, ⟨_, 0, (hc _).trans rfl, z0, by decide⟩, by decide, fun a ha => by cases ha⟩

set_option maxRecDepth 100000 in
set_option maxHeartbeats 2000000 in
theorem works06_any (w : World) (hv : VTabs w) : Calls Tryd.prog 10 #[] w fun e w' => e = .returned (.bool true) ∧ Below w.heap.size w w' := by
  have HW := Lib.hid (wk6_in w 3 35 33)
  have HS := Lib.hid fun (W : World) (g : Nat) (h : TreeIn W g 0 wk6T) (hb : Below w.heap.size w W) => serialize_any g 0 4 4 wk6T W rfl (by decide) (by decide) h (hv.on hb) (fun x hx a ha => by
    have hall : (wk6T.all fun x => x.attrs.all fun a => decide (a.1.length ≤ 1048576)) = true := by decide
    simpa using List.all_eq_true.1 (List.all_eq_true.1 hall x hx) a ha)
  have HE := Lib.hid fun W => escText_any ⟨#[97, 32, 60, 32, 98, 32, 38, 32, 99]⟩ (by decide) W
  rw [wk6_ser] at HS
  rw [wk6_esc] at HE
  clear hv
  go_enter Tryd.func10, Tryd.ntmps10
  go_big_wp2_with (first
    | (go_at_call 17
       go_loud (
         refine (HS.out _ _ HW.out.1 HW.out.2).mono ?_
         rintro e w1 ⟨rfl, hb1⟩
         have HB1 := Lib.hid (HW.out.2.trans (hb1.mono HW.out.2.size))
         clear hb1))
    | (go_at_call 7
       go_loud (
         refine (HE.out _).mono ?_
         rintro e w2 ⟨rfl, hb2⟩
         have HB2 := Lib.hid (HB1.out.trans (hb2.mono HB1.out.size))
         clear hb2)))
  go_ret
  exact ⟨rfl, HB2.out⟩
end Go.Proofs.YtkfmfldkllkcbabDoor

