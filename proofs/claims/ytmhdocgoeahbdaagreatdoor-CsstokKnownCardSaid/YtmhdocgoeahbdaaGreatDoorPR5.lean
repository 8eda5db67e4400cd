/-
  The law CsstokBack at known texts: rows 0 to 6 of the chapter's edges. No conditions.
  The law CsstokBack at known texts: rows 7 to 13 of the chapter's edges. No conditions.
  The law CsstokBack at known texts: rows 14 to 20 of the chapter's edges. No conditions.
  The law CsstokBack at known texts: rows 21 to 27 of the chapter's edges. No conditions.
  The law CsstokBack at known texts: rows 28 to 34 of the chapter's edges. No conditions.
  The law CsstokBack at known texts: rows 35 to 41 of the chapter's edges. No conditions.
  The law CsstokBack at known texts: rows 42 to 48 of the chapter's edges. No conditions.
  The law CsstokBack at known texts: rows 49 to 55 of the chapter's edges. No conditions.
  What the law CsstokKnown asks of known texts. Conditions: the library's tables hold what its text lays.
  The law CsstokKnown: the examples of the chapter, and edges. Conditions: the library's tables hold what its text lays.
  The library's tables out of a row's condition that lists more variables: the place of a bit. No conditions.
-/
import Derived.Test.YtmhdocgoeahbdaaGreatDoorPR4
import Derived.Deep.DeepCutAuto
namespace Go.Proofs.YtmhdocgoeahbdaaGreatDoor
open Go.Lib Go.CssKit
set_option maxRecDepth 1000000 in
theorem edges_0 : ((edgesL.drop 0).take 7).all rowB = true := by kernel_rfl
end Go.Proofs.YtmhdocgoeahbdaaGreatDoor
namespace Go.Proofs.YtmhdocgoeahbdaaGreatDoor
open Go.Lib Go.CssKit
set_option maxRecDepth 1000000 in
theorem edges_1 : ((edgesL.drop 7).take 7).all rowB = true := by kernel_rfl
end Go.Proofs.YtmhdocgoeahbdaaGreatDoor
namespace Go.Proofs.YtmhdocgoeahbdaaGreatDoor
open Go.Lib Go.CssKit
set_option maxRecDepth 1000000 in
theorem edges_2 : ((edgesL.drop 14).take 7).all rowB = true := by kernel_rfl
end Go.Proofs.YtmhdocgoeahbdaaGreatDoor
namespace Go.Proofs.YtmhdocgoeahbdaaGreatDoor
open Go.Lib Go.CssKit
set_option maxRecDepth 1000000 in
theorem edges_3 : ((edgesL.drop 21).take 7).all rowB = true := by kernel_rfl
end Go.Proofs.YtmhdocgoeahbdaaGreatDoor
namespace Go.Proofs.YtmhdocgoeahbdaaGreatDoor
open Go.Lib Go.CssKit
set_option maxRecDepth 1000000 in
theorem edges_4 : ((edgesL.drop 28).take 7).all rowB = true := by kernel_rfl
end Go.Proofs.YtmhdocgoeahbdaaGreatDoor
namespace Go.Proofs.YtmhdocgoeahbdaaGreatDoor
open Go.Lib Go.CssKit
set_option maxRecDepth 1000000 in
theorem edges_5 : ((edgesL.drop 35).take 7).all rowB = true := by kernel_rfl
end Go.Proofs.YtmhdocgoeahbdaaGreatDoor
namespace Go.Proofs.YtmhdocgoeahbdaaGreatDoor
open Go.Lib Go.CssKit
set_option maxRecDepth 1000000 in
theorem edges_6 : ((edgesL.drop 42).take 7).all rowB = true := by kernel_rfl
end Go.Proofs.YtmhdocgoeahbdaaGreatDoor
namespace Go.Proofs.YtmhdocgoeahbdaaGreatDoor
open Go.Lib Go.CssKit
set_option maxRecDepth 1000000 in
theorem edges_7 : ((edgesL.drop 49).take 7).all rowB = true := by kernel_rfl
end Go.Proofs.YtmhdocgoeahbdaaGreatDoor
namespace Go.Proofs.YtmhdocgoeahbdaaGreatDoor
open Go.RowKit Go.RunKit Go.UtfKit Go.Lib Go.CssKit

theorem kn_0 : toksC (charsOf ⟨#[97, 45, 98, 40, 49, 46, 53, 101, 51, 112, 120, 44, 32, 34, 120, 92, 50, 50, 34, 32, 41]⟩) = [⟨3, [97, 45, 98], [], false⟩, ⟨10, [49, 46, 53, 101, 51], [112, 120], false⟩, ⟨11, [44], [], false⟩, ⟨1, [], [], false⟩, ⟨6, [120, 34], [], false⟩, ⟨1, [], [], false⟩, ⟨11, [41], [], false⟩] := by kernel_rfl
theorem kn_1 : toksC (charsOf ⟨#[35, 49, 97, 32, 35, 92, 51, 49, 32, 97, 32, 64, 109, 101, 100, 105, 97, 32, 45, 45, 62, 32, 45, 49, 37, 32, 43, 46, 53]⟩) = [⟨5, [49, 97], [], false⟩, ⟨1, [], [], false⟩, ⟨5, [49, 97], [], true⟩, ⟨1, [], [], false⟩, ⟨4, [109, 101, 100, 105, 97], [], false⟩, ⟨1, [], [], false⟩, ⟨14, [], [], false⟩, ⟨1, [], [], false⟩, ⟨9, [45, 49], [], false⟩, ⟨1, [], [], false⟩, ⟨8, [43, 46, 53], [], false⟩] := by kernel_rfl
theorem kn_2 : toksC (charsOf ⟨#[34, 97, 10, 32, 98, 47, 42, 32, 42, 47, 99]⟩) = [⟨7, [97], [], false⟩, ⟨1, [], [], false⟩, ⟨2, [98], [], false⟩, ⟨2, [99], [], false⟩] := by kernel_rfl
theorem kn_3 : toksC (charsOf ⟨#[49, 101, 32, 49, 101, 51, 32, 49, 101, 45, 120, 32, 92, 10]⟩) = [⟨10, [49], [101], false⟩, ⟨1, [], [], false⟩, ⟨8, [49, 101, 51], [], false⟩, ⟨1, [], [], false⟩, ⟨10, [49], [101, 45, 120], false⟩, ⟨1, [], [], false⟩, ⟨12, [92], [], false⟩, ⟨1, [], [], false⟩] := by kernel_rfl
theorem kn_4 : toksC (charsOf ⟨#[34, 97, 92, 10, 98, 92]⟩) = [⟨6, [97, 98], [], false⟩] := by kernel_rfl
theorem kn_5 : toksC (charsOf ⟨#[92]⟩) = [⟨2, [239, 191, 189], [], false⟩] := by kernel_rfl
theorem kn_6 : toksC (charsOf ⟨#[45, 45, 120, 45, 45, 32, 45, 45, 62]⟩) = [⟨2, [45, 45, 120, 45, 45], [], false⟩, ⟨1, [], [], false⟩, ⟨14, [], [], false⟩] := by kernel_rfl
theorem kn_7 : toksC (charsOf ⟨#[45]⟩) = [⟨12, [45], [], false⟩] := by kernel_rfl
theorem kn_8 : toksC (charsOf ⟨#[0, 12, 13, 10]⟩) = [⟨2, [239, 191, 189], [], false⟩, ⟨1, [], [], false⟩] := by kernel_rfl
theorem kn_9 : toksC (charsOf ⟨#[47, 42]⟩) = [] := by kernel_rfl
theorem kn_10 : toksC (charsOf ⟨#[]⟩) = [] := by kernel_rfl
theorem kn_11 : toksC (charsOf ⟨#[215, 144, 92, 48, 48, 48, 48, 48, 52, 49, 98]⟩) = [⟨2, [215, 144, 4, 49, 98], [], false⟩] := by kernel_rfl
theorem kn_print : printC [⟨0, [], [], false⟩, ⟨99, [120], [], false⟩, ⟨2, [49, 32, 1], [], false⟩] = [92, 51, 49, 32, 92, 50, 48, 32, 92, 49, 32] := by kernel_rfl
theorem edges_small : (edgesL.all fun a => decide (a.length ≤ 100)) = true := by kernel_rfl
theorem edge_at {m : Nat} (h : m < 8) : edgesL[m * 7]? = edgesK[m]? := by
  match m, h with
  | 0, _ => rfl
  | 1, _ => rfl
  | 2, _ => rfl
  | 3, _ => rfl
  | 4, _ => rfl
  | 5, _ => rfl
  | 6, _ => rfl
  | 7, _ => rfl
  | n + 8, h => omega
theorem in_chunk {i o : Nat} {a : List UInt8} (h : edgesL[i]? = some a) (h1 : o ≤ i) (h2 : i < o + 7) : a ∈ (edgesL.drop o).take 7 := by
  refine List.mem_of_getElem? (i := i - o) ?_
  rw [List.getElem?_take_of_lt (by omega), List.getElem?_drop, show o + (i - o) = i by omega]
  exact h
theorem rows_all {i : Nat} {a : List UInt8} (h : edgesL[i]? = some a) : rowB a = true := by
  have hi : i < 52 := (List.getElem?_eq_some_iff.1 h).1
  rcases (by omega : i / 7 = 0 ∨ i / 7 = 1 ∨ i / 7 = 2 ∨ i / 7 = 3 ∨ i / 7 = 4 ∨ i / 7 = 5 ∨ i / 7 = 6 ∨ i / 7 = 7) with e | e | e | e | e | e | e | e
  · exact List.all_eq_true.1 edges_0 a (in_chunk h (by omega) (by omega))
  · exact List.all_eq_true.1 edges_1 a (in_chunk h (by omega) (by omega))
  · exact List.all_eq_true.1 edges_2 a (in_chunk h (by omega) (by omega))
  · exact List.all_eq_true.1 edges_3 a (in_chunk h (by omega) (by omega))
  · exact List.all_eq_true.1 edges_4 a (in_chunk h (by omega) (by omega))
  · exact List.all_eq_true.1 edges_5 a (in_chunk h (by omega) (by omega))
  · exact List.all_eq_true.1 edges_6 a (in_chunk h (by omega) (by omega))
  · exact List.all_eq_true.1 edges_7 a (in_chunk h (by omega) (by omega))
theorem pair_ok {i m : Nat} {a b : List UInt8} (ha : edgesL[i]? = some a) (hb : edgesL[m * 7]? = some b) (hm : m < 8) : backB (a ++ b) = true ∧ backB (a ++ 32 :: b) = true := by
  have h := rows_all ha
  unfold rowB at h
  rw [edge_at hm] at hb
  have := List.all_eq_true.1 h b (List.mem_of_getElem? hb)
  simpa only [Bool.and_eq_true] using this
theorem small_at {i : Nat} {a : List UInt8} (ha : edgesL[i]? = some a) : a.length ≤ 100 := by
  have := List.all_eq_true.1 edges_small a (List.mem_of_getElem? ha)
  simpa using this
theorem lit_see (W : World) (ts : List CT) : TksSee (W.alloc (.cells (tokCells ts).toArray TTc)) (some ⟨W.heap.size, 0, none⟩) ts := by
  intro W' hb k x hx
  refine ⟨W.heap.size, rfl, ?_⟩
  have hc : ∀ j v, j < 4 → (tokC x)[j]? = some v → W'.cell? ⟨W.heap.size, k * 4 + j, none⟩ = some v := fun j v hj hv => by
    have h2 : (W.alloc (.cells (tokCells ts).toArray TTc)).cell? ⟨W.heap.size, k * 4 + j, none⟩ = some v := by
      rw [World.cell?_alloc_at _ _ _ _ rfl, List.getElem?_toArray, tokCells_at ts k j x hx hj]
      exact hv
    rw [hb.cell (World.block_lt_of_cell? _ _ h2)]
    exact h2
  exact ⟨hc 0 _ (by omega) rfl, hc 1 _ (by omega) rfl, hc 2 _ (by omega) rfl, hc 3 _ (by omega) rfl⟩
theorem kinds_lit {s : ByteArray} {want : List CT} (hk : toksC (charsOf s) = want) (hs : s.size ≤ 4000) {n : Nat} (hn : want.length = n) (h32 : n ≤ 4294967296) {cs : Array Value} (hcs : cs = (tokCells want).toArray) {w W : World} (ht : U.Tabs w) (hb : Below w.heap.size w W) :
    Calls Tryz.prog 16 #[.string s, .slice (some ⟨W.heap.size, 0, none⟩) n n] (W.alloc (.cells cs TTc)) fun e w' => e = .returned (.bool true) ∧ Below W.heap.size W w' := by
  subst hn
  subst hcs
  have hb1 : Below W.heap.size W (W.alloc (.cells (tokCells want).toArray TTc)) := (Below.refl _ _).alloc (Nat.le_refl _) _
  have h := kinds_any s want (some ⟨W.heap.size, 0, none⟩) want.length (W.alloc (.cells (tokCells want).toArray TTc)) (ht.on (hb.trans (hb1.mono hb.size))) hs h32 (lit_see W want)
  rw [decide_eq_true hk] at h
  exact h.mono fun e w' hh => ⟨hh.1, hb1.trans (hh.2.mono hb1.size)⟩
theorem kinds_nil {s : ByteArray} (hk : toksC (charsOf s) = []) (hs : s.size ≤ 4000) {w W : World} (ht : U.Tabs w) (hb : Below w.heap.size w W) :
    Calls Tryz.prog 16 #[.string s, .slice none 0 0] W fun e w' => e = .returned (.bool true) ∧ Below W.heap.size W w' := by
  have h := kinds_any s [] none 0 W (ht.on hb) hs (by decide) (fun W' _ k x hx => by simp at hx)
  rw [decide_eq_true hk] at h
  exact h
/-- A world of the law: the white token stands in its block. -/
def KnW (w W : World) : Prop := Below w.heap.size w W ∧ W.heap[w.heap.size]? = some (.cells #[.int .u8 1, .string ⟨#[]⟩, .string ⟨#[]⟩, .bool false] TTc (0, 0))
theorem KnW.on {w W W' : World} (h : KnW w W) (hb : Below W.heap.size W W') : KnW w W' :=
  ⟨h.1.trans (hb.mono h.1.size), (hb.block _ (Array.getElem?_eq_some_iff.1 h.2).1).trans h.2⟩
/-- The row of the edges' texts. -/
def EdgesIn (B : Nat) (W : World) : Prop := ∀ j x, edgesL[j]? = some x → W.cell? ⟨B, j, none⟩ = some (.string ⟨x.toArray⟩)
theorem EdgesIn.on {B : Nat} {W W' : World} (h : EdgesIn B W) (hb : Below W.heap.size W W') : EdgesIn B W' := fun j x hx => by
  rw [hb.cell (World.block_lt_of_cell? _ _ (h j x hx))]
  exact h j x hx
theorem edges_laid (W : World) : EdgesIn W.heap.size (W.alloc (.cells (edgesL.map fun a => Value.string ⟨a.toArray⟩).toArray 9)) := fun j x hx => by
  rw [World.cell?_alloc_at _ _ _ _ rfl, List.getElem?_toArray, List.getElem?_map, hx]; rfl

theorem print_lit {want : List CT} {out : List UInt8} (hk : printC want = out) (hs : smallB want = true) {n : Nat} (hn : want.length = n) {cs : Array Value} (hcs : cs = (tokCells want).toArray) {w W : World} (ht : U.Tabs w) (hd : DeB w) (hb : Below w.heap.size w W) :
    Calls Tryz.prog 12 #[.slice (some ⟨W.heap.size, 0, none⟩) n n] (W.alloc (.cells cs TTc)) fun e w' => e = .returned (.string ⟨out.toArray⟩) ∧ Below W.heap.size W w' := by
  subst hn
  subst hcs
  subst hk
  have hb1 : Below W.heap.size W (W.alloc (.cells (tokCells want).toArray TTc)) := (Below.refl _ _).alloc (Nat.le_refl _) _
  exact (print_small hs (some ⟨W.heap.size, 0, none⟩) want.length (W.alloc (.cells (tokCells want).toArray TTc)) (ht.on (hb.trans (hb1.mono hb.size))) (hd.on (hb.trans (hb1.mono hb.size))) (lit_see W want)).mono fun e w' hh => ⟨hh.1, hb1.trans (hh.2.mono hb1.size)⟩
theorem print_nil {w W : World} (ht : U.Tabs w) (hd : DeB w) (hb : Below w.heap.size w W) :
    Calls Tryz.prog 12 #[.slice none 0 0] W fun e w' => e = .returned (.string ⟨#[]⟩) ∧ Below W.heap.size W w' :=
  print_small (l := []) (by decide) none 0 W (ht.on hb) (hd.on hb) (fun W' _ k x hx => by simp at hx)
theorem back_pair {xb yb : ByteArray} {a b : List UInt8} (hx : xb.data.toList = a) (hy : yb.data.toList = b) (hs : xb.size ≤ 100) (hs2 : yb.size ≤ 100) (hp : backB (a ++ b) = true ∧ backB (a ++ 32 :: b) = true) {w W : World} (ht : U.Tabs w) (hd : DeB w) (hb : Below w.heap.size w W) :
    (Calls Tryz.prog 17 #[.string (xb ++ yb)] W fun e w' => e = .returned (.bool true) ∧ Below W.heap.size W w') ∧ (Calls Tryz.prog 17 #[.string (xb ++ ⟨#[32]⟩ ++ yb)] W fun e w' => e = .returned (.bool true) ∧ Below W.heap.size W w') := by
  refine ⟨back_any _ W (ht.on hb) (hd.on hb) (by rw [ByteArray.size_append]; omega) ?_, back_any _ W (ht.on hb) (hd.on hb) (by rw [ByteArray.size_append, ByteArray.size_append]; have : (⟨#[32]⟩ : ByteArray).size = 1 := rfl; omega) ?_⟩
  · have e : (xb ++ yb).data.toList = a ++ b := by rw [← hx, ← hy]; simp
    rw [e]; exact hp.1
  · have e : (xb ++ ⟨#[32]⟩ ++ yb).data.toList = a ++ 32 :: b := by rw [← hx, ← hy]; simp
    rw [e]; exact hp.2

end Go.Proofs.YtmhdocgoeahbdaaGreatDoor
namespace Go.Proofs.YtmhdocgoeahbdaaGreatDoor
open Go.RowKit Go.RunKit Go.UtfKit Go.Lib Go.CssKit

set_option maxRecDepth 100000 in
set_option maxHeartbeats 8000000 in
theorem lawKnown (w : World) (ht : U.Tabs w) (hd : DeB w) :
    Calls Tryz.prog 6 #[] w fun e w' => e = .returned (.bool true) ∧ Below w.heap.size w w' := by
  have HT := Lib.hid ht
  have HDe := Lib.hid hd
  have HK : Hid (KnW w (w.alloc (.cells #[.int .u8 1, .string ⟨#[]⟩, .string ⟨#[]⟩, .bool false] TTc))) := Lib.hid ⟨(Below.refl _ _).alloc (Nat.le_refl _) _, heap_alloc_new w _⟩
  clear ht hd
  go_enter Tryz.func6, Tryz.ntmps6
  go_upto_region 2 with (fail)
  generalize w.alloc (.cells #[.int .u8 1, .string ⟨#[]⟩, .string ⟨#[]⟩, .bool false] TTc) = W0 at *
  go_cut [2] (fun v wd => v = .bool true ∧ Hid (KnW w wd))
  case first =>
    obtain ⟨z0, z1, z2, z3⟩ := box4 HK.out.2
    go_big_wp2_with (first
      | (go_at_call_of 16 (Value.string ⟨#[97, 45, 98, 40, 49, 46, 53, 101, 51, 112, 120, 44, 32, 34, 120, 92, 50, 50, 34, 32, 41]⟩); refine (kinds_lit kn_0 (by decide) (n := 7) rfl (by decide) rfl HT.out HK.out.1).mono ?_; rintro e w1 ⟨rfl, hb⟩; replace HK := Lib.hid (HK.out.on hb); (try clear z0 z1 z2 z3); obtain ⟨z0, z1, z2, z3⟩ := box4 HK.out.2; clear hb))
    go_meet
    exact ⟨rfl, HK⟩
  case rest =>
  clear HK
  obtain ⟨rfl, HK⟩ := hcut
  go_upto_region 3 with (fail)
  go_cut [3] (fun v wd => v = .bool true ∧ Hid (KnW w wd))
  case first =>
    obtain ⟨z0, z1, z2, z3⟩ := box4 HK.out.2
    go_big_wp2_with (first
      | (go_at_call_of 16 (Value.string ⟨#[35, 49, 97, 32, 35, 92, 51, 49, 32, 97, 32, 64, 109, 101, 100, 105, 97, 32, 45, 45, 62, 32, 45, 49, 37, 32, 43, 46, 53]⟩); refine (kinds_lit kn_1 (by decide) (n := 11) rfl (by decide) rfl HT.out HK.out.1).mono ?_; rintro e w1 ⟨rfl, hb⟩; replace HK := Lib.hid (HK.out.on hb); (try clear z0 z1 z2 z3); obtain ⟨z0, z1, z2, z3⟩ := box4 HK.out.2; clear hb))
    go_meet
    exact ⟨rfl, HK⟩
  case rest =>
  clear HK
  obtain ⟨rfl, HK⟩ := hcut
  go_upto_region 4 with (fail)
  go_cut [4] (fun v wd => v = .bool true ∧ Hid (KnW w wd))
  case first =>
    obtain ⟨z0, z1, z2, z3⟩ := box4 HK.out.2
    go_big_wp2_with (first
      | (go_at_call_of 16 (Value.string ⟨#[34, 97, 10, 32, 98, 47, 42, 32, 42, 47, 99]⟩); refine (kinds_lit kn_2 (by decide) (n := 4) rfl (by decide) rfl HT.out HK.out.1).mono ?_; rintro e w1 ⟨rfl, hb⟩; replace HK := Lib.hid (HK.out.on hb); (try clear z0 z1 z2 z3); obtain ⟨z0, z1, z2, z3⟩ := box4 HK.out.2; clear hb)
      | (go_at_call_of 16 (Value.string ⟨#[49, 101, 32, 49, 101, 51, 32, 49, 101, 45, 120, 32, 92, 10]⟩); refine (kinds_lit kn_3 (by decide) (n := 8) rfl (by decide) rfl HT.out HK.out.1).mono ?_; rintro e w1 ⟨rfl, hb⟩; replace HK := Lib.hid (HK.out.on hb); (try clear z0 z1 z2 z3); obtain ⟨z0, z1, z2, z3⟩ := box4 HK.out.2; clear hb))
    go_meet
    exact ⟨rfl, HK⟩
  case rest =>
  clear HK
  obtain ⟨rfl, HK⟩ := hcut
  go_upto_region 5 with (fail)
  go_cut [5] (fun v wd => v = .bool true ∧ Hid (KnW w wd))
  case first =>
    obtain ⟨z0, z1, z2, z3⟩ := box4 HK.out.2
    go_big_wp2_with (first
      | (go_at_call_of 16 (Value.string ⟨#[34, 97, 92, 10, 98, 92]⟩); refine (kinds_lit kn_4 (by decide) (n := 1) rfl (by decide) rfl HT.out HK.out.1).mono ?_; rintro e w1 ⟨rfl, hb⟩; replace HK := Lib.hid (HK.out.on hb); (try clear z0 z1 z2 z3); obtain ⟨z0, z1, z2, z3⟩ := box4 HK.out.2; clear hb)
      | (go_at_call_of 16 (Value.string ⟨#[92]⟩); refine (kinds_lit kn_5 (by decide) (n := 1) rfl (by decide) rfl HT.out HK.out.1).mono ?_; rintro e w1 ⟨rfl, hb⟩; replace HK := Lib.hid (HK.out.on hb); (try clear z0 z1 z2 z3); obtain ⟨z0, z1, z2, z3⟩ := box4 HK.out.2; clear hb)
      | (go_at_call_of 16 (Value.string ⟨#[45, 45, 120, 45, 45, 32, 45, 45, 62]⟩); refine (kinds_lit kn_6 (by decide) (n := 3) rfl (by decide) rfl HT.out HK.out.1).mono ?_; rintro e w1 ⟨rfl, hb⟩; replace HK := Lib.hid (HK.out.on hb); (try clear z0 z1 z2 z3); obtain ⟨z0, z1, z2, z3⟩ := box4 HK.out.2; clear hb)
      | (go_at_call_of 16 (Value.string ⟨#[45]⟩); refine (kinds_lit kn_7 (by decide) (n := 1) rfl (by decide) rfl HT.out HK.out.1).mono ?_; rintro e w1 ⟨rfl, hb⟩; replace HK := Lib.hid (HK.out.on hb); (try clear z0 z1 z2 z3); obtain ⟨z0, z1, z2, z3⟩ := box4 HK.out.2; clear hb)
      | (go_at_call_of 16 (Value.string ⟨#[0, 12, 13, 10]⟩); refine (kinds_lit kn_8 (by decide) (n := 2) rfl (by decide) rfl HT.out HK.out.1).mono ?_; rintro e w1 ⟨rfl, hb⟩; replace HK := Lib.hid (HK.out.on hb); (try clear z0 z1 z2 z3); obtain ⟨z0, z1, z2, z3⟩ := box4 HK.out.2; clear hb)
      | (go_at_call_of 16 (Value.string ⟨#[47, 42]⟩); refine (kinds_nil kn_9 (by decide) HT.out HK.out.1).mono ?_; rintro e w1 ⟨rfl, hb⟩; replace HK := Lib.hid (HK.out.on hb); (try clear z0 z1 z2 z3); obtain ⟨z0, z1, z2, z3⟩ := box4 HK.out.2; clear hb)
      | (go_at_call_of 16 (Value.string ⟨#[]⟩); refine (kinds_nil kn_10 (by decide) HT.out HK.out.1).mono ?_; rintro e w1 ⟨rfl, hb⟩; replace HK := Lib.hid (HK.out.on hb); (try clear z0 z1 z2 z3); obtain ⟨z0, z1, z2, z3⟩ := box4 HK.out.2; clear hb)
      | (go_at_call_of 16 (Value.string ⟨#[215, 144, 92, 48, 48, 48, 48, 48, 52, 49, 98]⟩); refine (kinds_lit kn_11 (by decide) (n := 1) rfl (by decide) rfl HT.out HK.out.1).mono ?_; rintro e w1 ⟨rfl, hb⟩; replace HK := Lib.hid (HK.out.on hb); (try clear z0 z1 z2 z3); obtain ⟨z0, z1, z2, z3⟩ := box4 HK.out.2; clear hb))
    go_meet
    exact ⟨rfl, HK⟩
  case rest =>
  clear HK
  obtain ⟨rfl, HK⟩ := hcut
  go_upto_region 6 with (fail)
  have HE0 := Lib.hid (edges_laid wc)
  have HB6 : Hid (Below w.heap.size w (wc.alloc (.cells (edgesL.map fun a => Value.string ⟨a.toArray⟩).toArray 9))) := Lib.hid (HK.out.1.trans (((Below.refl _ _).alloc (Nat.le_refl _) _).mono HK.out.1.size))
  clear HK
  go_cut [6] (fun v wd => ∃ B : Nat, v = .slice (some ⟨B, 0, none⟩) 52 52 ∧ Hid (EdgesIn B wd) ∧ Hid (Below w.heap.size w wd))
  case first =>
    go_big_wp2
    go_meet
    exact ⟨wc.heap.size, rfl, HE0, HB6⟩
  case rest =>
  clear HE0 HB6
  obtain ⟨B, rfl, HE, HB⟩ := hcut
  go_big_wp2
  go_loopw [7, 8] (fun v _ wr => ∃ i : Nat, v = .int .i64 ((i : Nat) : Int) ∧ i ≤ 52 ∧ Hid (EdgesIn B wr) ∧ Hid (Below w.heap.size w wr)) (fun v _ _ => 52 - (RowKit.intOf v).toNat)
  case atStart => exact ⟨0, rfl, by omega, HE, HB⟩
  case round =>
    clear HE HB
    obtain ⟨i, rfl, hi, HE, HB⟩ := hrel
    by_cases hil : i < 52
    · have hilI : (i : Int) < 52 := by omega
      have hi0 : (0 : Int) ≤ i := by omega
      obtain ⟨a, ha⟩ : ∃ a, edgesL[i]? = some a := ⟨edgesL[i]'hil, List.getElem?_eq_getElem hil⟩
      have HAa := Lib.hid ha
      clear ha
      go_big_wp2
      go_loopw [8] (fun v wr => ∃ m j : Nat, v = .int .i64 ((j : Nat) : Int) ∧ m ≤ 8 ∧ Hid (j = m * 7) ∧ Hid (EdgesIn B wr) ∧ Hid (Below w.heap.size w wr)) (fun v _ => 57 - (RowKit.intOf v).toNat)
      case atStart => exact ⟨0, 0, rfl, by omega, Lib.hid rfl, HE, HB⟩
      case round =>
        clear HE HB
        obtain ⟨m, j, rfl, hm, HJ, HE, HB⟩ := hrel
        by_cases hml : m < 8
        · have hj52 : j < 52 := by have := HJ.out; omega
          have hjI : (j : Int) < 52 := by omega
          have hj0 : (0 : Int) ≤ j := by omega
          obtain ⟨b, hb⟩ : ∃ b, edgesL[j]? = some b := ⟨edgesL[j]'hj52, List.getElem?_eq_getElem hj52⟩
          have hp := pair_ok HAa.out (by rw [← HJ.out]; exact hb) hml
          have hsa := small_at HAa.out
          have hsb := small_at hb
          have c0 := HE.out i a HAa.out
          have c1 := HE.out j b hb
          obtain ⟨xb, hxb⟩ : ∃ s : ByteArray, (⟨a.toArray⟩ : ByteArray) = s := ⟨_, rfl⟩
          obtain ⟨yb, hyb⟩ : ∃ s : ByteArray, (⟨b.toArray⟩ : ByteArray) = s := ⟨_, rfl⟩
          rw [hxb] at c0
          rw [hyb] at c1
          have hxs : xb.size ≤ 100 := by rw [← hxb]; show a.toArray.size ≤ 100; simpa using hsa
          have hys : yb.size ≤ 100 := by rw [← hyb]; show b.toArray.size ≤ 100; simpa using hsb
          have hxl : xb.data.toList = a := by rw [← hxb]
          have hyl : yb.data.toList = b := by rw [← hyb]
          have HR := Lib.hid (fun q : Over wr => lawReads (xb ++ yb) q.out (HT.out.on (HB.out.trans (q.below.mono HB.out.size))))
          have HB1 := Lib.hid (fun q : Over wr => (back_pair hxl hyl hxs hys hp HT.out HDe.out (HB.out.trans (q.below.mono HB.out.size))).1)
          have HB2 := Lib.hid (fun q : Over wr => (back_pair hxl hyl hxs hys hp HT.out HDe.out (HB.out.trans (q.below.mono HB.out.size))).2)
          have d0 : ∀ q : Over wr, q.out.cell? ⟨B, i, none⟩ = some (.string xb) := fun q => q.cell c0
          have d1 : ∀ q : Over wr, q.out.cell? ⟨B, j, none⟩ = some (.string yb) := fun q => q.cell c1
          have t1 : (9223372036854775807 < xb.size + yb.size) = False := eq_false (by omega)
          have t2 : (9223372036854775807 < xb.size + 1) = False := eq_false (by omega)
          have t3 : (9223372036854775807 < xb.size + 1 + yb.size) = False := eq_false (by omega)
          clear hp hsa hsb c0 c1 hxb hyb hxl hyl hb
          go_big_wp2
          refine wp_region_below (by kernel_rfl) (by kernel_rfl) ?_
          repeat (go_big_quiet_step (first
            | (go_at_call 3; exact calls_over (HR.out _))
            | (go_at_call_of 17 (Value.string (xb ++ yb)); exact calls_over (HB1.out _))
            | (go_at_call 17; exact calls_over (HB2.out _))))
          refine wpQuiet_nil ?_
          intro _ hw'
          obtain ⟨q, hw''⟩ := hw'
          subst hw''
          clear d0 d1 t1 t2 t3
          go_big_wp2
          exact ⟨⟨m + 1, j + 7, by go_num, by omega, Lib.hid (by rw [HJ.out]; omega), Lib.hid (HE.out.on q.below), Lib.hid (HB.out.trans (q.below.mono HB.out.size))⟩, by simp [RowKit.intOf]; omega⟩
        · have hjI : ¬ (j : Int) < 52 := by have := HJ.out; omega
          go_big_wp2
          exact ⟨⟨i + 1, by go_num, by omega, HE, HB⟩, by simp [RowKit.intOf]; omega⟩
    · have hilI : ¬ (i : Int) < 52 := by omega
      clear HE
      go_big_wp2_with (first
        | (go_at_call_of 12 (Value.slice none 0 0); refine (print_nil HT.out HDe.out HB.out).mono ?_; rintro e w2 ⟨rfl, hb⟩; replace HB := Lib.hid (HB.out.trans (hb.mono HB.out.size)); clear hb)
        | (go_at_call 12; refine (print_lit kn_print (by decide) rfl rfl HT.out HDe.out HB.out).mono ?_; rintro e w1 ⟨rfl, hb⟩; replace HB := Lib.hid (HB.out.trans (hb.mono HB.out.size)); clear hb)
        | (go_at_call 7; refine (works7_any _ (HT.out.on HB.out)).mono ?_; rintro e w3 ⟨rfl, hb⟩; replace HB := Lib.hid (HB.out.trans (hb.mono HB.out.size)); clear hb))
      go_ret
      exact ⟨rfl, HB.out⟩
end Go.Proofs.YtmhdocgoeahbdaaGreatDoor
namespace Go.Proofs.YtmhdocgoeahbdaaGreatDoor
open Go.RowKit Go.RunKit Go.UtfKit Go.Lib Go.CssKit Go.ChangeShapes Go.WideShapes Go.ChangeAt

def debL : List Int := [0, 1, 56, 2, 57, 49, 28, 3, 61, 58, 42, 50, 38, 29, 17, 4, 62, 47, 59, 36, 45, 43, 51, 22, 53, 39, 33, 30, 24, 18, 12, 5, 63, 55, 48, 27, 60, 41, 37, 16, 46, 35, 44, 21, 52, 32, 23, 11, 54, 26, 40, 15, 34, 20, 31, 10, 25, 14, 19, 9, 13, 8, 7, 6]
theorem gDeb : Tryz.prog.globalNamed "math/bits.deBruijn64tab" = some 6 := by kernel_rfl
theorem tDeb : (Tryz.prog.globals[6]?).map (·.type) = some 142 := by kernel_rfl
theorem uDeb : Tryz.prog.underlying 142 = some (.array 64 5) := by kernel_rfl
theorem debData : (Rows.laid_math_bits_deBruijn64tab : DataW Unit) = tabData .u8 debL := by kernel_rfl
theorem deb_of {W : World} (h : laidMet Tryz.prog [("math/bits.deBruijn64tab", Rows.laid_math_bits_deBruijn64tab)] W) : DeB W := by
  obtain ⟨ps, ⟨g0, t0, cs0, f0, p0, q0, hg0, ht0, hv0, hd0, _⟩, _⟩ := h
  obtain rfl := Option.some.inj (gDeb.symm.trans hg0)
  obtain rfl := Option.some.inj (tDeb.symm.trans ht0)
  rw [debData] at hd0
  have e1 := cells_of_tab uDeb U.uByte (by kernel_rfl) (by kernel_rfl) hd0
  unfold DeB
  rw [World.var?_cell hg0 hv0 15]
  have e2 : cs0 = (debL.map fun z => Value.int .u8 z).toArray := by rw [← e1]
  rw [e2]
  rfl
/-- What the laws of package csstok ask of the library's tables. -/
def TD (w : World) : Prop := U.Tabs w ∧ DeB w
theorem tabsd_more {W : World} {l : List (String × DataW Unit)} (e : (l.filter fun x => x.1 == "unicode/utf8.acceptRanges" || x.1 == "unicode/utf8.first") = [("unicode/utf8.acceptRanges", Rows.laid_unicode_utf8_acceptRanges), ("unicode/utf8.first", Rows.laid_unicode_utf8_first)])
    (e2 : (l.filter fun x => x.1 == "math/bits.deBruijn64tab") = [("math/bits.deBruijn64tab", Rows.laid_math_bits_deBruijn64tab)]) (h : laidMet Tryz.prog l W) : TD W := by
  refine ⟨tabs_more e h, ?_⟩
  have := laidMet.filter (fun x => x.1 == "math/bits.deBruijn64tab") h
  rw [e2] at this
  exact deb_of this
end Go.Proofs.YtmhdocgoeahbdaaGreatDoor
