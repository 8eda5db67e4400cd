/-
  begin, end of package serial: what stands ahead of a node's children, and behind. Conditions: names are no longer than 2^20 bytes; a text is not empty.
  isElement of package tree: an element's attributes; the library's ContainsFunc over its closure. Conditions: the library's two tables hold what its text lays.
-/
import Derived.Test.YtnfkndaggcklkaaGreatDoorPA18
import Derived.Test.YtnfkndaggcklkaaGreatDoorPA17
namespace Go.SerialKit
open Go Go.Lib Go.TokenKit Go.TreeKit
def attrsPut (d : Bytes × Bool) : List At → Bytes × Bool
  | [] => d
  | a :: r => attrsPut (putT (putE true (putT d (32 :: a.1 ++ [61, 34])) a.2) [34]) r
def beginL (d : Bytes × Bool) (x : NI) : Bytes × Bool :=
  if x.kind = 2 then putE false d x.data
  else if x.kind = 1 then putT (attrsPut (putT d (60 :: x.name)) x.attrs) [62]
  else d
def isVoidB (n : Bytes) : Bool := n == [98, 114] || n == [119, 98, 114] || n == [104, 114]
def endD (d : Bytes × Bool) (x : NI) : Bytes × Bool := if x.kind = 1 ∧ isVoidB x.name = false then putT d (60 :: 47 :: x.name ++ [62]) else d
/-- What is asked of a node that is written. -/
structure Mild (x : NI) : Prop where
  name : x.name.length ≤ 1000
  attrs : ∀ a, a ∈ x.attrs → a.1.length ≤ 1048576
  data : x.kind = 2 → x.data ≠ []
theorem putT_len {d : Bytes × Bool} (h : d.1.length ≤ 65536) (s : Bytes) : (putT d s).1.length ≤ 65536 := by
  unfold putT
  split
  · exact h
  · simp only [List.length_append]; omega
theorem putE_len {attr : Bool} {d : Bytes × Bool} (h : d.1.length ≤ 65536) (s : Bytes) : (putE attr d s).1.length ≤ 65536 := by
  unfold putE
  split
  · exact h
  · exact putT_len h _
theorem putT_ne {d : Bytes × Bool} (h : d.1 ≠ []) (s : Bytes) : (putT d s).1 ≠ [] := by
  unfold putT
  split
  · exact h
  · exact fun e => h (List.append_eq_nil_iff.1 e).1
theorem putE_ne {attr : Bool} {d : Bytes × Bool} (h : d.1 ≠ []) (s : Bytes) : (putE attr d s).1 ≠ [] := by
  unfold putE
  split
  · exact h
  · exact putT_ne h _
theorem putT_some {d : Bytes × Bool} {s : Bytes} (hs : s ≠ []) (hl : s.length ≤ 65536) : (putT d s).1 ≠ [] := by
  unfold putT
  split
  · intro e
    simp only at e
    rename_i h
    rw [e] at h
    simp at h
    omega
  · exact fun e => hs (List.append_eq_nil_iff.1 e).2
theorem attrsPut_len : ∀ (l : List At) {d : Bytes × Bool}, d.1.length ≤ 65536 → (attrsPut d l).1.length ≤ 65536
  | [], _, h => h
  | _ :: r, _, h => attrsPut_len r (putT_len (putE_len (putT_len h _) _) _)
theorem attrsPut_ne : ∀ (l : List At) {d : Bytes × Bool}, d.1 ≠ [] → (attrsPut d l).1 ≠ []
  | [], _, h => h
  | _ :: r, _, h => attrsPut_ne r (putT_ne (putE_ne (putT_ne h _) _) _)
theorem beginL_len {d : Bytes × Bool} (h : d.1.length ≤ 65536) (x : NI) : (beginL d x).1.length ≤ 65536 := by
  unfold beginL
  split
  · exact putE_len h _
  · split
    · exact putT_len (attrsPut_len _ (putT_len h _)) _
    · exact h
theorem endD_len {d : Bytes × Bool} (h : d.1.length ≤ 65536) (x : NI) : (endD d x).1.length ≤ 65536 := by
  unfold endD
  split
  · exact putT_len h _
  · exact h
end Go.SerialKit
namespace Go.Proofs.YtnfkndaggcklkaaGreatDoor
open Go.RowKit Go.RunKit Go.UtfKit Go.CharrefKit Go.Lib Go.TokenKit Go.TreeKit Go.SerialKit

set_option maxRecDepth 100000 in
set_option maxHeartbeats 1000000 in
theorem isVoid06_any (s : ByteArray) (w : World) : Calls Tryz.prog 90 #[.string s] w fun e w' => e = .returned (.bool (isVoidB (bl s))) ∧ w = w' := by
  have hlist := Lib.toList_data s
  have hbn : ∀ v : Bytes, ¬ bl s = v → (s.toList == v) = false := fun v h => by rw [hlist]; exact beq_eq_false_iff_ne.2 h
  have HBn := Lib.hid hbn
  clear hbn hlist
  by_cases h1 : bl s = [98, 114]
  · obtain rfl : s = ⟨#[98, 114]⟩ := bl_eq h1
    show Calls _ _ _ _ fun e w' => e = .returned (.bool true) ∧ _
    go_enter Tryz.func90, Tryz.ntmps90
    go_big_wp2
    go_ret
    exact ⟨rfl, rfl⟩
  have n1 := HBn.out _ h1
  by_cases h2 : bl s = [119, 98, 114]
  · obtain rfl : s = ⟨#[119, 98, 114]⟩ := bl_eq h2
    show Calls _ _ _ _ fun e w' => e = .returned (.bool true) ∧ _
    clear n1
    go_enter Tryz.func90, Tryz.ntmps90
    go_big_wp2
    go_ret
    exact ⟨rfl, rfl⟩
  have n2 := HBn.out _ h2
  by_cases h3 : bl s = [104, 114]
  · obtain rfl : s = ⟨#[104, 114]⟩ := bl_eq h3
    show Calls _ _ _ _ fun e w' => e = .returned (.bool true) ∧ _
    clear n1 n2
    go_enter Tryz.func90, Tryz.ntmps90
    go_big_wp2
    go_ret
    exact ⟨rfl, rfl⟩
  have n3 := HBn.out _ h3
  have e : isVoidB (bl s) = false := by unfold isVoidB; rw [beq_eq_false_iff_ne.2 h1, beq_eq_false_iff_ne.2 h2, beq_eq_false_iff_ne.2 h3]; rfl
  rw [e]
  clear h1 h2 h3 e
  go_enter Tryz.func90, Tryz.ntmps90
  go_big_wp2
  go_ret
  exact ⟨rfl, rfl⟩

set_option maxRecDepth 100000 in
set_option maxHeartbeats 2000000 in
theorem end06_any (w0 : World) (b g m : Nat) (x : NI) (d : Bytes × Bool) (W : World) (hm : Mild x) (hl : d.1.length ≤ 65536) (hx : NodeIn w0 g m x) (h : DocAt w0 b d W) :
    Calls Tryz.prog 55 #[.pointer (some ⟨b, 0, none⟩), .pointer (some ⟨g, m, none⟩)] W fun e w' => e = .returned (.tuple #[]) ∧ DocAt w0 b (endD d x) w' ∧ KeepD b W w' := by
  have hn := hx.on h.below
  have ck := hn.kind
  have cn := hn.name
  have hnl := hm.name
  have hV := fun W1 => isVoid06_any ⟨x.name.toArray⟩ W1
  rw [bl_of x.name] at hV
  have hbn : bl ⟨x.name.toArray⟩ = x.name := bl_of x.name
  have hns : (⟨x.name.toArray⟩ : ByteArray).size = x.name.length := by simp [ByteArray.size]
  obtain ⟨k, hk⟩ : ∃ k, x.kind = k := ⟨_, rfl⟩
  obtain ⟨ns, hns2⟩ : ∃ ns : ByteArray, ⟨x.name.toArray⟩ = ns := ⟨_, rfl⟩
  obtain ⟨v, hv⟩ : ∃ v, isVoidB x.name = v := ⟨_, rfl⟩
  rw [hk] at ck
  rw [hns2] at cn hV hbn hns
  rw [hv] at hV
  have HV := Lib.hid hV
  have HD := Lib.hid h
  clear hn hx hV hns2 hm h
  by_cases h1 : k = 1
  · subst h1
    cases v with
    | true =>
      have e : endD d x = d := by unfold endD; rw [if_neg (fun e => by rw [hv] at e; exact absurd e.2 (by decide))]
      rw [e]
      clear e hk hv hbn
      go_enter Tryz.func55, Tryz.ntmps55
      go_big_wp2_with (go_at_call 90; refine (HV.out _).mono ?_; rintro e w1 ⟨rfl, rfl⟩)
      go_end0
      exact ⟨rfl, HD.out, Lib.OthersKept.refl _ _ _⟩
    | false =>
      have e : endD d x = putT d (60 :: 47 :: x.name ++ [62]) := by unfold endD; rw [if_pos ⟨hk, hv⟩]
      rw [e]
      have hput := put_any w0 b (⟨#[60, 47]⟩ ++ ns ++ ⟨#[62]⟩) d W (.inr (by rw [bl_join, bl_join, hbn]; simp [show bl (⟨#[60, 47]⟩ : ByteArray) = [60, 47] from rfl])) hl (by
        rw [ByteArray.size_append, ByteArray.size_append, hns]
        show 2 + x.name.length + 1 ≤ _
        omega) HD.out
      rw [bl_join, bl_join, hbn, show bl (⟨#[60, 47]⟩ : ByteArray) = [60, 47] from rfl, show bl (⟨#[62]⟩ : ByteArray) = [62] from rfl] at hput
      have HP := Lib.hid hput
      have s1 : ¬ (9223372036854775807 : Int) < 2 + (ns.size : Int) := by omega
      have s2 : ¬ (9223372036854775807 : Int) < 2 + (ns.size : Int) + 1 := by omega
      clear e hk hv hbn hput
      go_enter Tryz.func55, Tryz.ntmps55
      go_big_wp2_with (first
        | (go_at_call 90; refine (HV.out _).mono ?_; rintro e w1 ⟨rfl, rfl⟩)
        | (go_at_call 89; refine HP.out.mono ?_; rintro e w2 ⟨rfl, hD2, hK2⟩; have HD2 := Lib.hid (And.intro hD2 hK2); clear hD2 hK2))
      go_end0
      exact ⟨rfl, HD2.out.1, HD2.out.2⟩
  · have e : endD d x = d := by unfold endD; rw [if_neg (fun e => h1 (by rw [← hk]; exact e.1))]
    rw [e]
    have h1I : ¬ ((k : Nat) : Int) = 1 := by omega
    have h1B : (((k : Nat) : Int) == 1) = false := by rw [beq_eq_false_iff_ne]; omega
    clear e hk hv hbn
    go_enter Tryz.func55, Tryz.ntmps55
    go_big_wp2
    go_end0
    exact ⟨rfl, HD.out, Lib.OthersKept.refl _ _ _⟩

set_option maxRecDepth 100000 in
set_option maxHeartbeats 8000000 in
theorem begin2_any (w0 : World) (b g m : Nat) (x : NI) (d : Bytes × Bool) (W : World) (hm : Mild x) (hl : d.1.length ≤ 65536) (hx : NodeIn w0 g m x) (h : DocAt w0 b d W) (hk : x.kind = 2) :
    Calls Tryz.prog 54 #[.pointer (some ⟨b, 0, none⟩), .pointer (some ⟨g, m, none⟩)] W fun e w' => e = .returned (.tuple #[]) ∧ DocAt w0 b (beginL d x) w' ∧ KeepD b W w' := by
  have hn := hx.on h.below
  have ck := hn.kind
  have HX := Lib.hid hx
  have HM := Lib.hid hm
  have HD := Lib.hid h
  rw [hk] at ck
  have cd := hn.data
  have hdata := hm.data hk
  have hbd : bl ⟨x.data.toArray⟩ = x.data := bl_of x.data
  have hput := putEscaped_any w0 b false 32 (enters_of Tryz.func32 (by kernel_rfl) rfl) (Lib.hid fun s hs w => escText_any s hs w) ⟨x.data.toArray⟩ d W (.inr (by rw [hbd]; exact hdata)) hl h
  rw [hbd] at hput
  have e : beginL d x = putE false d x.data := by unfold beginL; rw [if_pos hk]
  rw [e]
  have HP := Lib.hid hput
  generalize (⟨x.data.toArray⟩ : ByteArray) = ds at *
  clear e hk hbd hput hn hx hm h hdata
  go_enter Tryz.func54, Tryz.ntmps54
  go_big_wp2_with (go_at_call 88; refine HP.out.mono ?_; rintro e w2 ⟨rfl, hD2, hK2⟩; have HD2 := Lib.hid (And.intro hD2 hK2); clear hD2 hK2)
  go_end0
  exact ⟨rfl, HD2.out.1, HD2.out.2⟩
set_option maxRecDepth 100000 in
set_option maxHeartbeats 8000000 in
theorem begin1_any (w0 : World) (b g m : Nat) (x : NI) (d : Bytes × Bool) (W : World) (hm : Mild x) (hl : d.1.length ≤ 65536) (hx : NodeIn w0 g m x) (h : DocAt w0 b d W) (hk : x.kind = 1) :
    Calls Tryz.prog 54 #[.pointer (some ⟨b, 0, none⟩), .pointer (some ⟨g, m, none⟩)] W fun e w' => e = .returned (.tuple #[]) ∧ DocAt w0 b (beginL d x) w' ∧ KeepD b W w' := by
  have hn := hx.on h.below
  have ck := hn.kind
  have HX := Lib.hid hx
  have HM := Lib.hid hm
  have HD := Lib.hid h
  rw [hk] at ck
  have e : beginL d x = putT (attrsPut (putT d (60 :: x.name)) x.attrs) [62] := by unfold beginL; rw [if_neg (by omega), if_pos hk]
  rw [e]
  have cn := hn.name
  have hnl := hm.name
  have hbn : bl ⟨x.name.toArray⟩ = x.name := bl_of x.name
  have hns : (⟨x.name.toArray⟩ : ByteArray).size = x.name.length := by simp [ByteArray.size]
  obtain ⟨ns, hns2⟩ : ∃ ns : ByteArray, ⟨x.name.toArray⟩ = ns := ⟨_, rfl⟩
  rw [hns2] at cn hbn hns
  have hput := put_any w0 b (⟨#[60]⟩ ++ ns) d W (.inr (by rw [bl_join, hbn]; simp [show bl (⟨#[60]⟩ : ByteArray) = [60] from rfl])) hl (by
    rw [ByteArray.size_append, hns]
    show 1 + x.name.length ≤ _
    omega) h
  rw [bl_join, hbn, show bl (⟨#[60]⟩ : ByteArray) = [60] from rfl, List.singleton_append] at hput
  have HP := Lib.hid hput
  have s1 : ¬ (9223372036854775807 : Int) < 1 + (ns.size : Int) := by omega
  have hne0 : (putT d (60 :: x.name)).1 ≠ [] := putT_some (by simp) (by simp only [List.length_cons]; omega)
  have hl0 := putT_len hl (60 :: x.name)
  obtain ⟨d1, hd1⟩ : ∃ d1, putT d (60 :: x.name) = d1 := ⟨_, rfl⟩
  rw [hd1] at HP hne0 hl0
  rw [hd1]
  obtain ⟨ao, cap, hc2, hA, _, hlim⟩ := hx.attrs
  have HA := Lib.hid hA
  have HML := Lib.hid hm.attrs
  obtain ⟨n, hnn⟩ : ∃ n, x.attrs.length = n := ⟨_, rfl⟩
  have HNn := Lib.hid hnn
  rw [hnn] at hc2 hlim
  have HC2 := Lib.hid hc2
  have HS0 := Lib.hid (And.intro hne0 hl0)
  obtain ⟨d2, hd2⟩ : ∃ d2, attrsPut d1 x.attrs = d2 := ⟨_, rfl⟩
  rw [hd2]
  have D0 : Hid (attrsPut d1 (x.attrs.drop 0) = d2) := Lib.hid hd2
  have hend : Hid (d2.1 ≠ [] ∧ d2.1.length ≤ 65536) := Lib.hid (by rw [← hd2]; exact ⟨attrsPut_ne _ hne0, attrsPut_len _ hl0⟩)
  clear e hk hbn hput hn hx hm h hns2 hd1 hd2 hne0 hl0 hA hnn hnl hc2
  go_enter Tryz.func54, Tryz.ntmps54
  go_big_wp2_with (go_at_call 89
                   go_loud (
                     refine HP.out.mono ?_
                     rintro e w2 ⟨rfl, hD2, hK2⟩
                     have c2 : w2.cell? ⟨g, m + 2, none⟩ = some (.slice ao n cap) := by rw [hD2.below.cell (World.block_lt_of_cell? _ _ HC2.out)]; exact HC2.out
                     have HD2 := Lib.hid hD2
                     have HK2 := Lib.hid hK2
                     clear hD2 hK2))
  go_loopw [32] (fun a wr => ∃ (j : Nat) (dj : Bytes × Bool), a = .int .i64 ((j : Nat) : Int) ∧ j ≤ n ∧ Hid (DocAt w0 b dj wr) ∧ Hid (KeepD b W wr) ∧ Hid (attrsPut dj (x.attrs.drop j) = d2) ∧ Hid (dj.1 ≠ [] ∧ dj.1.length ≤ 65536)) (fun a _ => n - (RowKit.intOf a).toNat)
  case atStart => exact ⟨0, d1, rfl, Nat.zero_le _, HD2, HK2, D0, HS0⟩
  case round =>
    clear HD2 HK2 D0 HS0 HP c2 cn ck
    obtain ⟨j, dj, rfl, hj, HDj, HKj, HE, HSj⟩ := hrel
    by_cases hlt : j < n
    · have hltI : (j : Int) < (n : Int) := by omega
      have hjl : j < x.attrs.length := by have := HNn.out; omega
      have hla : x.attrs[j]? = some (x.attrs.getD j ([], [])) := by
        rw [List.getD_eq_getElem?_getD, List.getElem?_eq_getElem hjl]
        rfl
      have hdr : x.attrs.drop j = x.attrs.getD j ([], []) :: x.attrs.drop (j + 1) := by
        rw [List.drop_eq_getElem_cons hjl, List.getD_eq_getElem?_getD, List.getElem?_eq_getElem hjl]
        rfl
      rw [hdr] at HE
      have hal := HML.out _ (List.mem_of_getElem? hla)
      obtain ⟨gk, ok, hko, hc1, hc2⟩ := (HA.out.on HDj.out.below).at_ j _ hla
      subst hko
      obtain ⟨a1, ha1⟩ : ∃ a1, (x.attrs.getD j ([], [])).1 = a1 := ⟨_, rfl⟩
      obtain ⟨a2, ha2⟩ : ∃ a2, (x.attrs.getD j ([], [])).2 = a2 := ⟨_, rfl⟩
      have hE2 : attrsPut (putT (putE true (putT dj (32 :: a1 ++ [61, 34])) a2) [34]) (x.attrs.drop (j + 1)) = d2 := by rw [← ha1, ← ha2]; exact HE.out
      have HE2 := Lib.hid hE2
      rw [ha1] at hc1 hal
      rw [ha2] at hc2
      have hb1 : bl ⟨a1.toArray⟩ = a1 := bl_of a1
      have hb2 : bl ⟨a2.toArray⟩ = a2 := bl_of a2
      have hz1 : (⟨a1.toArray⟩ : ByteArray).size = a1.length := by simp [ByteArray.size]
      obtain ⟨s1, hs1⟩ : ∃ s1 : ByteArray, ⟨a1.toArray⟩ = s1 := ⟨_, rfl⟩
      obtain ⟨s2, hs2⟩ : ∃ s2 : ByteArray, ⟨a2.toArray⟩ = s2 := ⟨_, rfl⟩
      rw [hs1] at hc1 hb1 hz1
      rw [hs2] at hc2 hb2
      have hbw : Below wr.heap.size wr (wr.alloc (.cells #[.string s1, .string s2] 40)) := (Below.refl _ _).alloc (Nat.le_refl _) _
      have hl2 := heap_alloc_new wr (.cells #[.string s1, .string s2] 40)
      have z0 : (wr.alloc (.cells #[.string s1, .string s2] 40)).cell? ⟨wr.heap.size, 0, none⟩ = some (.string s1) := by rw [cell_of_row _ _ 0 _ _ _ hl2]; rfl
      have hbne : wr.heap.size ≠ b := by
        obtain ⟨_, _, hB, _⟩ := HDj.out.ex
        have := (Array.getElem?_eq_some_iff.1 hB.blk).1
        omega
      have hp1 := put_any w0 b (⟨#[32]⟩ ++ s1 ++ ⟨#[61, 34]⟩) dj (wr.alloc (.cells #[.string s1, .string s2] 40)) (.inl HSj.out.1) HSj.out.2 (by
        rw [ByteArray.size_append, ByteArray.size_append, hz1]
        show 1 + a1.length + 2 ≤ _
        omega) (HDj.out.on hbw)
      rw [bl_join, bl_join, hb1, show bl (⟨#[32]⟩ : ByteArray) = [32] from rfl, show bl (⟨#[61, 34]⟩ : ByteArray) = [61, 34] from rfl, show ([32] ++ a1 ++ [61, 34] : Bytes) = 32 :: a1 ++ [61, 34] from rfl] at hp1
      have hne1 := putT_ne HSj.out.1 (32 :: a1 ++ [61, 34])
      have hle1 := putT_len HSj.out.2 (32 :: a1 ++ [61, 34])
      obtain ⟨e1, he1⟩ : ∃ e1, putT dj (32 :: a1 ++ [61, 34]) = e1 := ⟨_, rfl⟩
      rw [he1] at hp1 hne1 hle1 HE2
      have hp2 := fun (W1 : World) (h1 : DocAt w0 b e1 W1) => putEscaped_any w0 b true 33 (enters_of Tryz.func33 (by kernel_rfl) rfl) (Lib.hid fun s hs w => escAttr_any s hs w) s2 e1 W1 (.inl hne1) hle1 h1
      rw [hb2] at hp2
      have hne2 := putE_ne (attr := true) hne1 a2
      have hle2 := putE_len (attr := true) hle1 a2
      obtain ⟨e2, he2⟩ : ∃ e2, putE true e1 a2 = e2 := ⟨_, rfl⟩
      rw [he2] at hp2 hne2 hle2 HE2
      have hp3 := fun (W1 : World) (h1 : DocAt w0 b e2 W1) => put_any w0 b ⟨#[34]⟩ e2 W1 (.inl hne2) hle2 (by decide) h1
      rw [show bl (⟨#[34]⟩ : ByteArray) = [34] from rfl] at hp3
      have HS3 : Hid ((putT e2 [34]).1 ≠ [] ∧ (putT e2 [34]).1.length ≤ 65536) := Lib.hid ⟨putT_ne hne2 _, putT_len hle2 _⟩
      have HP1 := Lib.hid hp1
      have HP2 := Lib.hid hp2
      have HP3 := Lib.hid hp3
      have HZ := Lib.hid (And.intro hl2 hbne)
      have HKw := Lib.hid (HKj.out.trans (KeepD.of_below hbw))
      have t1 : ¬ (9223372036854775807 : Int) < 1 + (s1.size : Int) := by omega
      have t2 : ¬ (9223372036854775807 : Int) < 1 + (s1.size : Int) + 2 := by omega
      clear hp1 hp2 hp3 hbw hl2 hbne hE2 hla hdr hal ha1 ha2 hb1 hb2 hz1 hs1 hs2 hne1 hle1 hne2 hle2 he1 he2 hjl
      go_big_wp2_with (first
        | (go_at_call 89
           go_loud (
             refine HP1.out.mono ?_
             clear HP1
             rintro e w2 ⟨rfl, hD2, hK2⟩
             have hrow := hK2 _ _ HZ.out.1 (fun e => HZ.out.2 (Option.some.inj e)) (fun c fz e => by cases e)
             have y1 : w2.cell? ⟨wr.heap.size, 1, none⟩ = some (.string s2) := by rw [cell_of_row _ _ 1 _ _ _ hrow]; rfl
             have HD2 := Lib.hid (And.intro hD2 (HKw.out.trans hK2))
             clear hD2 hK2 hrow))
        | (go_at_call 88
           go_loud (
             refine (HP2.out _ HD2.out.1).mono ?_
             clear HP2
             rintro e w3 ⟨rfl, hD3, hK3⟩
             have HD3 := Lib.hid (And.intro hD3 (HD2.out.2.trans hK3))
             clear hD3 hK3))
        | (go_at_call 89
           go_loud (
             refine (HP3.out _ HD3.out.1).mono ?_
             rintro e w4 ⟨rfl, hD4, hK4⟩
             have HD4 := Lib.hid (And.intro hD4 (HD3.out.2.trans hK4))
             clear hD4 hK4)))
      exact ⟨⟨j + 1, putT e2 [34], by go_num, by omega, Lib.hid HD4.out.1, Lib.hid HD4.out.2, HE2, HS3⟩, by simp [RowKit.intOf]; omega⟩
    · have hjn : j = n := by omega
      have hdn : x.attrs.drop j = [] := List.drop_eq_nil_of_le (by have := HNn.out; omega)
      rw [hdn] at HE
      have hdj : dj = d2 := HE.out
      have hp4 := put_any w0 b ⟨#[62]⟩ dj wr (.inl HSj.out.1) HSj.out.2 (by decide) HDj.out
      rw [show bl (⟨#[62]⟩ : ByteArray) = [62] from rfl, hdj] at hp4
      have HP4 := Lib.hid hp4
      have hltI : ¬ (j : Int) < (n : Int) := by omega
      clear hp4 hdn hdj hjn
      go_big_wp2_with (go_at_call 89; refine HP4.out.mono ?_; rintro e w5 ⟨rfl, hD5, hK5⟩; have HD5 := Lib.hid (And.intro hD5 (HKj.out.trans hK5)); clear hD5 hK5)
      go_end0
      exact ⟨rfl, HD5.out.1, HD5.out.2⟩
set_option maxRecDepth 100000 in
set_option maxHeartbeats 8000000 in
theorem begin0_any (w0 : World) (b g m : Nat) (x : NI) (d : Bytes × Bool) (W : World) (hm : Mild x) (_hl : d.1.length ≤ 65536) (hx : NodeIn w0 g m x) (h : DocAt w0 b d W) (h2 : ¬ x.kind = 2) (h1 : ¬ x.kind = 1) :
    Calls Tryz.prog 54 #[.pointer (some ⟨b, 0, none⟩), .pointer (some ⟨g, m, none⟩)] W fun e w' => e = .returned (.tuple #[]) ∧ DocAt w0 b (beginL d x) w' ∧ KeepD b W w' := by
  have hn := hx.on h.below
  have ck := hn.kind
  have HX := Lib.hid hx
  have HM := Lib.hid hm
  have HD := Lib.hid h
  obtain ⟨k, hk⟩ : ∃ k, x.kind = k := ⟨_, rfl⟩
  rw [hk] at ck h1 h2
  have h2I : ¬ ((k : Nat) : Int) = 2 := by omega
  have h2B : (((k : Nat) : Int) == 2) = false := by rw [beq_eq_false_iff_ne]; omega
  have h1I : ¬ ((k : Nat) : Int) = 1 := by omega
  have h1B : (((k : Nat) : Int) == 1) = false := by rw [beq_eq_false_iff_ne]; omega
  have e : beginL d x = d := by unfold beginL; rw [if_neg (by omega), if_neg (by omega)]
  rw [e]
  clear e hk hn hx hm h
  go_enter Tryz.func54, Tryz.ntmps54
  go_big_wp2
  go_end0
  exact ⟨rfl, HD.out, Lib.OthersKept.refl _ _ _⟩
theorem begin06_any (w0 : World) (b g m : Nat) (x : NI) (d : Bytes × Bool) (W : World) (hm : Mild x) (hl : d.1.length ≤ 65536) (hx : NodeIn w0 g m x) (h : DocAt w0 b d W) :
    Calls Tryz.prog 54 #[.pointer (some ⟨b, 0, none⟩), .pointer (some ⟨g, m, none⟩)] W fun e w' => e = .returned (.tuple #[]) ∧ DocAt w0 b (beginL d x) w' ∧ KeepD b W w' := by
  by_cases h2 : x.kind = 2
  · exact begin2_any w0 b g m x d W hm hl hx h h2
  · by_cases h1 : x.kind = 1
    · exact begin1_any w0 b g m x d W hm hl hx h h1
    · exact begin0_any w0 b g m x d W hm hl hx h h2 h1
end Go.Proofs.YtnfkndaggcklkaaGreatDoor

namespace Go.Proofs.YtnfkndaggcklkaaGreatDoor
open Go.RowKit Go.RunKit Go.CharrefKit Go.Lib Go.TokenKit Go.TreeKit

/-- May this attribute stand where it does? -/
def okAt (l : List At) (i : Nat) : Bool := match l[i]? with
  | some a => !((l.take i).any fun b => b.1 == a.1) && attrNameL a.1 && wellL ⟨a.2.toArray⟩
  | none => true
def attrsOkB (l : List At) : Bool := (List.range l.length).all (okAt l)
def isElementB (x : NI) : Bool := x.data.isEmpty && decide (x.attrs.length ≤ 16) && attrsOkB x.attrs

set_option maxRecDepth 100000 in
set_option maxHeartbeats 1000000 in
/-- The closure: has an attribute the name? -/
theorem elem1_any (n v an : ByteArray) (ga : Nat) (w : World) (hc : w.cell? ⟨ga, 0, none⟩ = some (.string an)) :
    Calls Tryz.prog 125 (#[.agg #[.string n, .string v]] ++ #[.pointer (some ⟨ga, 0, none⟩)]) w fun e w' => e = .returned (.bool (bl n == bl an)) ∧ Below w.heap.size w w' := by
  have hb : Below w.heap.size w (w.alloc (.cells #[.string n, .string v] 40)) := (Below.refl _ _).alloc (Nat.le_refl _) _
  have hc2 : (w.alloc (.cells #[.string n, .string v] 40)).cell? ⟨ga, 0, none⟩ = some (.string an) := by rw [hb.cell (World.block_lt_of_cell? _ _ hc)]; exact hc
  have hne : ¬ ga = w.heap.size := by have := World.block_lt_of_cell? _ _ hc; simp only at this; omega
  by_cases he : n = an
  · subst he
    rw [BEq.rfl]
    go_enter Tryz.func125, Tryz.ntmps125
    go_big_wp2
    go_ret
    refine ⟨ret1_eq (congrArg Value.bool ?_), hb⟩
    simp
  · have hne2 : ¬ bl n = bl an := fun e => he (bl_eq e)
    have h1 : (bl n == bl an) = false := beq_eq_false_iff_ne.2 hne2
    have h2 : (n.toList == an.toList) = false := by rw [Lib.toList_data, Lib.toList_data]; exact h1
    rw [h1]
    clear hne2 h1
    go_enter Tryz.func125, Tryz.ntmps125
    go_big_wp2
    go_ret
    exact ⟨rfl, hb⟩

/-- Where the first attribute of a name stands. -/
def nameIdx (l : List At) (an : Bytes) : Nat → Int
  | 0 => -1
  | f + 1 => if (l.getD (l.length - (f + 1)) ([], [])).1 = an then ((l.length - (f + 1) : Nat) : Int) else nameIdx l an f
theorem nameIdx_hit (l : List At) (an : Bytes) : ∀ f, f ≤ l.length → (0 ≤ nameIdx l an f ↔ ((l.drop (l.length - f)).any fun b => b.1 == an) = true)
  | 0, _ => by simp [nameIdx]
  | f + 1, h => by
    have hlt : l.length - (f + 1) < l.length := by omega
    have hd : l.drop (l.length - (f + 1)) = l.getD (l.length - (f + 1)) ([], []) :: l.drop (l.length - f) := by
      rw [List.drop_eq_getElem_cons hlt, List.getD_eq_getElem?_getD, List.getElem?_eq_getElem hlt, show l.length - (f + 1) + 1 = l.length - f by omega]
      rfl
    rw [hd, List.any_cons]
    unfold nameIdx
    by_cases he : (l.getD (l.length - (f + 1)) ([], [])).1 = an
    · rw [if_pos he, he, BEq.rfl, Bool.true_or]
      simp
    · rw [if_neg he, show ((l.getD (l.length - (f + 1)) ([], [])).1 == an) = false from beq_eq_false_iff_ne.2 he, Bool.false_or]
      exact nameIdx_hit l an f (by omega)

set_option maxRecDepth 100000 in
set_option maxHeartbeats 2000000 in
theorem indexFunc_any (ao : Option Addr) (cap n ga : Nat) (l : List At) (an : ByteArray) (w : World) (hn : n = l.length) (hn2 : n ≤ 65536) (h : AttrsIn w ao l) (hc : w.cell? ⟨ga, 0, none⟩ = some (.string an)) :
    Calls Tryz.prog 154 #[.slice ao n cap, .func (.func 125) #[] #[.pointer (some ⟨ga, 0, none⟩)]] w fun e w' => e = .returned (.int .i64 (nameIdx l (bl an) n)) ∧ Below w.heap.size w w' := by
  have HI := Lib.hid h
  have HCc := Lib.hid hc
  have hnH := Lib.hid hn
  have eg : ∀ args w, (callFunc 125 args).run Tryz.prog w = .ok (.enter 125 args) w := enters_of Tryz.func125 (by kernel_rfl) rfl
  have HB0 := Lib.hid (Below.refl w.heap.size w)
  obtain ⟨ans, hans⟩ : ∃ a, nameIdx l (bl an) n = a := ⟨_, rfl⟩
  rw [hans]
  have D0 : Hid (nameIdx l (bl an) (n - 0) = ans) := Lib.hid hans
  clear h hc hn hans
  go_enter Tryz.func154, Tryz.ntmps154
  go_big_wp2
  go_loopw [8] (fun a wr => ∃ j : Nat, a = .int .i64 ((j : Nat) : Int) ∧ j ≤ n ∧ Hid (nameIdx l (bl an) (n - j) = ans) ∧ Hid (Below w.heap.size w wr)) (fun a _ => n - (RowKit.intOf a).toNat)
  case atStart => exact ⟨0, rfl, Nat.zero_le _, D0, HB0⟩
  case round =>
    clear D0 HB0
    obtain ⟨j, rfl, hj, HE, HB⟩ := hrel
    by_cases hlt : j < n
    · have hltI : (j : Int) < (n : Int) := by omega
      obtain ⟨f, hf⟩ : ∃ f, n - j = f + 1 := ⟨n - j - 1, by omega⟩
      have hla : l[j]? = some (l.getD j ([], [])) := by
        rw [List.getD_eq_getElem?_getD, List.getElem?_eq_getElem (by have := hnH.out; omega)]
        rfl
      obtain ⟨gk, ok, hko, hc1, hc2⟩ := (HI.out.on HB.out).at_ j _ hla
      have hC := Lib.hid (elem1_any ⟨(l.getD j ([], [])).1.toArray⟩ ⟨(l.getD j ([], [])).2.toArray⟩ an ga wr (by rw [HB.out.cell (World.block_lt_of_cell? _ _ HCc.out)]; exact HCc.out))
      rw [hf] at HE
      unfold nameIdx at HE
      rw [show l.length - (f + 1) = j by have := hnH.out; omega] at HE
      subst hko
      rw [bl_of] at hC
      obtain ⟨a1, ha1⟩ : ∃ a1, (l.getD j ([], [])).1 = a1 := ⟨_, rfl⟩
      obtain ⟨a2, ha2⟩ : ∃ a2, (l.getD j ([], [])).2 = a2 := ⟨_, rfl⟩
      rw [ha1] at hc1 hC HE
      rw [ha2] at hc2 hC
      clear hla ha1 ha2
      by_cases he : a1 = bl an
      · rw [if_pos he] at HE
        rw [show (a1 == bl an) = true from beq_iff_eq.2 he] at hC
        generalize (⟨a1.toArray⟩ : ByteArray) = s1 at *
        clear he
        go_big_wp2_with (go_at_fn 125; refine hC.out.mono ?_; rintro e w1 ⟨rfl, hb1⟩)
        go_ret
        exact ⟨ret1_eq (congrArg (Value.int .i64) HE.out), HB.out.trans (hb1.mono HB.out.size)⟩
      · rw [if_neg he] at HE
        rw [show (a1 == bl an) = false from beq_eq_false_iff_ne.2 he] at hC
        generalize (⟨a1.toArray⟩ : ByteArray) = s1 at *
        clear he
        go_big_wp2_with (go_at_fn 125; refine hC.out.mono ?_; rintro e w1 ⟨rfl, hb1⟩)
        exact ⟨⟨j + 1, by go_num, by omega, by rw [show n - (j + 1) = f by omega]; exact HE, Lib.hid (HB.out.trans (hb1.mono HB.out.size))⟩, by simp [RowKit.intOf]; omega⟩
    · obtain rfl : j = n := by omega
      rw [Nat.sub_self] at HE
      have hltI : ((j : Int) < (j : Int)) = False := eq_false (by omega)
      go_big_wp2
      go_ret
      exact ⟨ret1_eq (congrArg (Value.int .i64) HE.out), HB.out⟩

set_option maxRecDepth 100000 in
set_option maxHeartbeats 1000000 in
theorem containsFunc_any (ao : Option Addr) (cap n ga : Nat) (l : List At) (an : ByteArray) (w : World) (hn : n = l.length) (hn2 : n ≤ 65536) (h : AttrsIn w ao l) (hc : w.cell? ⟨ga, 0, none⟩ = some (.string an)) :
    Calls Tryz.prog 124 #[.slice ao n cap, .func (.func 125) #[] #[.pointer (some ⟨ga, 0, none⟩)]] w fun e w' => e = .returned (.bool (l.any fun b => b.1 == bl an)) ∧ Below w.heap.size w w' := by
  have hI := indexFunc_any ao cap n ga l an w hn hn2 h hc
  have hh := nameIdx_hit l (bl an) l.length (Nat.le_refl _)
  rw [Nat.sub_self, List.drop_zero, ← hn] at hh
  obtain ⟨x, hx⟩ : ∃ x, nameIdx l (bl an) n = x := ⟨_, rfl⟩
  obtain ⟨v, hv⟩ : ∃ v, (l.any fun b => b.1 == bl an) = v := ⟨_, rfl⟩
  rw [hx] at hI hh
  rw [hv] at hh ⊢
  have HI := Lib.hid hI
  clear hI hx hv h hc hn
  cases v with
  | true =>
    have h0 : (0 : Int) ≤ x := hh.2 rfl
    clear hh
    go_enter Tryz.func124, Tryz.ntmps124
    go_big_wp2_with (go_at_call 154; refine HI.out.mono ?_; rintro e w1 ⟨rfl, hb1⟩)
    go_ret
    exact ⟨rfl, hb1⟩
  | false =>
    have h0 : x < 0 := by
      by_cases e : (0 : Int) ≤ x
      · have := hh.1 e; cases this
      · omega
    have h0F : ((0 : Int) ≤ x) = False := eq_false (by omega)
    clear hh
    go_enter Tryz.func124, Tryz.ntmps124
    go_big_wp2_with (go_at_call 154; refine HI.out.mono ?_; rintro e w1 ⟨rfl, hb1⟩)
    go_ret
    exact ⟨rfl, hb1⟩
theorem AttrsIn.take {w : World} {ao : Option Addr} {l : List At} (h : AttrsIn w ao l) (n : Nat) : AttrsIn w ao (l.take n) := ⟨fun j a ha => by
  rw [List.getElem?_take] at ha
  split at ha
  · exact h.at_ j a ha
  · cases ha⟩
theorem okAt_eq {l : List At} {j : Nat} {a : At} (h : l[j]? = some a) : okAt l j = (!((l.take j).any fun b => b.1 == a.1) && attrNameL a.1 && wellL ⟨a.2.toArray⟩) := by unfold okAt; rw [h]
theorem attrsOk_no {l : List At} {j : Nat} (hj : j < l.length) (h : okAt l j = false) : attrsOkB l = false := by
  unfold attrsOkB
  rw [Bool.eq_false_iff]
  intro hc
  have := List.all_eq_true.1 hc j (List.mem_range.2 hj)
  rw [h] at this
  cases this

set_option maxRecDepth 100000 in
set_option maxHeartbeats 4000000 in
theorem isElement_any (g m : Nat) (x : NI) (w : World) (h : NodeIn w g m x) (hv : VTabs w) :
    Calls Tryz.prog 82 #[.pointer (some ⟨g, m, none⟩)] w fun e w' => e = .returned (.bool (isElementB x)) ∧ Below w.heap.size w w' := by
  have HNode := Lib.hid h
  have c3 := h.data
  obtain ⟨ao, cap, c2, hA, hcap, hlong⟩ := h.attrs
  have HA := Lib.hid hA
  have HL := Lib.hid fun a (ha : a ∈ x.attrs) => h.long.2 a ha
  have HV := Lib.hid hv
  clear h hv hA
  obtain ⟨k, nm, l, dt, up, kids⟩ := x
  simp only at c3 c2 HA HL hcap hlong
  unfold isElementB
  simp only
  by_cases h3 : dt = []
  · obtain ⟨q1, q2, q3⟩ := toList_nil h3
    subst h3
    obtain ⟨n, hn⟩ : ∃ n, l.length = n := ⟨_, rfl⟩
    rw [hn] at c2 hcap hlong
    rw [hn]
    have hnH := Lib.hid hn
    have HC2 := Lib.hid c2
    by_cases h16 : 16 < n
    · have hI : (16 : Int) < (n : Int) := by omega
      rw [show decide (n ≤ 16) = false from decide_eq_false (by omega), Bool.and_false, Bool.false_and]
      clear hn h16
      go_enter Tryz.func82, Tryz.ntmps82
      go_big_wp2
      go_ret
      exact ⟨rfl, Below.refl _ _⟩
    · have hI : ((16 : Int) < (n : Int)) = False := eq_false (by omega)
      have hn16 : n ≤ 16 := by omega
      rw [show decide (n ≤ 16) = true from decide_eq_true hn16]
      show Calls _ _ _ _ fun e w' => e = .returned (.bool (attrsOkB l)) ∧ _
      clear hn h16
      have HB0 := Lib.hid (Below.refl w.heap.size w)
      have D0 : Hid (∀ i, i < 0 → okAt l i = true) := Lib.hid fun i hi => by omega
      go_enter Tryz.func82, Tryz.ntmps82
      go_big_wp2
      go_loopw [24] (fun a wr => ∃ j : Nat, a = .int .i64 ((j : Nat) : Int) ∧ j ≤ n ∧ Hid (∀ i, i < j → okAt l i = true) ∧ Hid (Below w.heap.size w wr)) (fun a _ => n - (RowKit.intOf a).toNat)
      case atStart => exact ⟨0, rfl, Nat.zero_le _, D0, HB0⟩
      case round =>
        clear D0 HB0 c2 c3
        obtain ⟨j, rfl, hj, HE, HB⟩ := hrel
        by_cases hlt : j < n
        · have hltI : (j : Int) < (n : Int) := by omega
          have hjc : (j : Int) ≤ (cap : Int) := by omega
          have hjl : j < l.length := by have := hnH.out; omega
          have hla : l[j]? = some (l.getD j ([], [])) := by
            rw [List.getD_eq_getElem?_getD, List.getElem?_eq_getElem hjl]
            rfl
          have hok := okAt_eq hla
          have hsz := HL.out _ (List.mem_of_getElem? hla)
          obtain ⟨gk, ok, hko, hc1, hc2⟩ := (HA.out.on HB.out).at_ j _ hla
          subst hko
          obtain ⟨a1, ha1⟩ : ∃ a1, (l.getD j ([], [])).1 = a1 := ⟨_, rfl⟩
          obtain ⟨a2, ha2⟩ : ∃ a2, (l.getD j ([], [])).2 = a2 := ⟨_, rfl⟩
          rw [ha1] at hc1 hok
          rw [ha2] at hc2 hok hsz
          have hN := fun W => isAttrName_any ⟨a1.toArray⟩ W
          rw [bl_of a1] at hN
          have hbl : bl ⟨a1.toArray⟩ = a1 := bl_of a1
          obtain ⟨s1, hs1⟩ : ∃ s1 : ByteArray, ⟨a1.toArray⟩ = s1 := ⟨_, rfl⟩
          obtain ⟨s2, hs2⟩ : ∃ s2 : ByteArray, ⟨a2.toArray⟩ = s2 := ⟨_, rfl⟩
          have hsz2 : s2.size ≤ 9223372036854775807 := by rw [← hs2]; simpa [ByteArray.size] using hsz
          rw [hs1] at hc1 hN hbl
          rw [hs2] at hc2 hok
          have hb2 : Below wr.heap.size wr (wr.alloc (.cells #[.string s1, .string s2] 40)) := (Below.refl _ _).alloc (Nat.le_refl _) _
          have hl2 := heap_alloc_new wr (.cells #[.string s1, .string s2] 40)
          have z0 : (wr.alloc (.cells #[.string s1, .string s2] 40)).cell? ⟨wr.heap.size, 0, none⟩ = some (.string s1) := by rw [cell_of_row _ _ 0 _ _ _ hl2]; rfl
          have z1 : (wr.alloc (.cells #[.string s1, .string s2] 40)).cell? ⟨wr.heap.size, 1, none⟩ = some (.string s2) := by rw [cell_of_row _ _ 1 _ _ _ hl2]; rfl
          have c2r : (wr.alloc (.cells #[.string s1, .string s2] 40)).cell? ⟨g, m + 2, none⟩ = some (.slice (some ⟨gk, ok, none⟩) n cap) := by
            have hbw := HB.out.trans (hb2.mono HB.out.size)
            rw [hbw.cell (World.block_lt_of_cell? _ _ HC2.out)]; exact HC2.out
          have hC := containsFunc_any (some ⟨gk, ok, none⟩) cap j wr.heap.size (l.take j) s1 (wr.alloc (.cells #[.string s1, .string s2] 40)) (by rw [List.length_take]; omega) (by omega) (((HA.out.on HB.out).on hb2).take j) z0
          rw [hbl] at hC
          obtain ⟨tw, htw⟩ : ∃ tw, ((l.take j).any fun b => b.1 == a1) = tw := ⟨_, rfl⟩
          obtain ⟨an, han⟩ : ∃ an, attrNameL a1 = an := ⟨_, rfl⟩
          obtain ⟨pl, hpl⟩ : ∃ pl, wellL s2 = pl := ⟨_, rfl⟩
          rw [htw] at hC hok
          rw [han] at hN hok
          rw [hpl] at hok
          have HC := Lib.hid hC
          have HN := Lib.hid hN
          have HO := Lib.hid hok
          have HP := Lib.hid fun W (hb : Below w.heap.size w W) => hpl ▸ isPlain_any s2 W hsz2 (HV.out.on hb)
          have HZ := Lib.hid (And.intro z0 z1)
          have HB2 := Lib.hid (HB.out.trans (hb2.mono HB.out.size))
          have NO : Hid (okAt l j = false → attrsOkB l = false) := Lib.hid fun h => attrsOk_no hjl h
          have YES : Hid (okAt l j = true → ∀ i, i < j + 1 → okAt l i = true) := Lib.hid fun h i hi => by
            by_cases e : i = j
            · subst e; exact h
            · exact HE.out i (by omega)
          clear hC hN hok hb2 hl2 z0 z1 hla hsz ha1 ha2 hs1 hs2 hbl htw han hpl hsz2 hjl
          cases tw with
          | true =>
            have HAns := Lib.hid (NO.out (by rw [HO.out]; rfl))
            go_big_wp2_with (go_at_call 124; refine HC.out.mono ?_; rintro e w3 ⟨rfl, hb3⟩)
            go_ret
            exact ⟨ret1_eq (congrArg Value.bool HAns.out.symm), HB2.out.trans (hb3.mono HB2.out.size)⟩
          | false =>
            cases an with
            | false =>
              have HAns := Lib.hid (NO.out (by rw [HO.out]; rfl))
              go_big_wp2_with (first
                | (go_at_call 124
                   refine HC.out.mono ?_
                   rintro e w3 ⟨rfl, hb3⟩
                   have d0 : w3.cell? ⟨wr.heap.size, 0, none⟩ = some (.string s1) := by rw [hb3.cell (World.block_lt_of_cell? _ _ HZ.out.1)]; exact HZ.out.1
                   have HB3 := Lib.hid (HB2.out.trans (hb3.mono HB2.out.size))
                   clear hb3)
                | (go_at_call 126; refine (HN.out _).mono ?_; rintro e w4 ⟨rfl, hb4⟩))
              go_ret
              exact ⟨ret1_eq (congrArg Value.bool HAns.out.symm), HB3.out.trans (hb4.mono HB3.out.size)⟩
            | true =>
              cases pl with
              | false =>
                have HAns := Lib.hid (NO.out (by rw [HO.out]; rfl))
                go_big_wp2_with (first
                  | (go_at_call 124
                     refine HC.out.mono ?_
                     rintro e w3 ⟨rfl, hb3⟩
                     have d0 : w3.cell? ⟨wr.heap.size, 0, none⟩ = some (.string s1) := by rw [hb3.cell (World.block_lt_of_cell? _ _ HZ.out.1)]; exact HZ.out.1
                     have d1 : Hid (w3.cell? ⟨wr.heap.size, 1, none⟩ = some (.string s2)) := Lib.hid (by rw [hb3.cell (World.block_lt_of_cell? _ _ HZ.out.2)]; exact HZ.out.2)
                     have HB3 := Lib.hid (HB2.out.trans (hb3.mono HB2.out.size))
                     clear hb3)
                  | (go_at_call 126
                     refine (HN.out _).mono ?_
                     rintro e w4 ⟨rfl, hb4⟩
                     have d4 : w4.cell? ⟨wr.heap.size, 1, none⟩ = some (.string s2) := by rw [hb4.cell (World.block_lt_of_cell? _ _ d1.out)]; exact d1.out
                     have HB4 := Lib.hid (HB3.out.trans (hb4.mono HB3.out.size))
                     clear hb4)
                  | (go_at_call 123; refine (HP.out _ HB4.out).mono ?_; rintro e w5 ⟨rfl, hb5⟩))
                go_ret
                exact ⟨ret1_eq (congrArg Value.bool HAns.out.symm), HB4.out.trans (hb5.mono HB4.out.size)⟩
              | true =>
                have HAns := Lib.hid (YES.out (by rw [HO.out]; rfl))
                go_big_wp2_with (first
                  | (go_at_call 124
                     refine HC.out.mono ?_
                     rintro e w3 ⟨rfl, hb3⟩
                     have d0 : w3.cell? ⟨wr.heap.size, 0, none⟩ = some (.string s1) := by rw [hb3.cell (World.block_lt_of_cell? _ _ HZ.out.1)]; exact HZ.out.1
                     have d1 : Hid (w3.cell? ⟨wr.heap.size, 1, none⟩ = some (.string s2)) := Lib.hid (by rw [hb3.cell (World.block_lt_of_cell? _ _ HZ.out.2)]; exact HZ.out.2)
                     have HB3 := Lib.hid (HB2.out.trans (hb3.mono HB2.out.size))
                     clear hb3)
                  | (go_at_call 126
                     refine (HN.out _).mono ?_
                     rintro e w4 ⟨rfl, hb4⟩
                     have d4 : w4.cell? ⟨wr.heap.size, 1, none⟩ = some (.string s2) := by rw [hb4.cell (World.block_lt_of_cell? _ _ d1.out)]; exact d1.out
                     have HB4 := Lib.hid (HB3.out.trans (hb4.mono HB3.out.size))
                     clear hb4)
                  | (go_at_call 123; refine (HP.out _ HB4.out).mono ?_; rintro e w5 ⟨rfl, hb5⟩))
                exact ⟨⟨j + 1, by go_num, by omega, HAns, Lib.hid (HB4.out.trans (hb5.mono HB4.out.size))⟩, by simp [RowKit.intOf]; omega⟩
        · obtain rfl : j = n := by omega
          have HAns : Hid (attrsOkB l = true) := Lib.hid (List.all_eq_true.2 fun i hi => HE.out i (by have := List.mem_range.1 hi; have := hnH.out; omega))
          have hltI : ((j : Int) < (j : Int)) = False := eq_false (by omega)
          go_big_wp2
          go_ret
          exact ⟨ret1_eq (congrArg Value.bool HAns.out.symm), HB.out⟩
  · obtain ⟨q1, q2, q3⟩ := toList_ne h3
    rw [empty_ne h3, Bool.false_and, Bool.false_and]
    obtain ⟨ds, hds⟩ : ∃ ds : ByteArray, ⟨dt.toArray⟩ = ds := ⟨_, rfl⟩
    rw [hds] at c3 q1 q2 q3
    clear hds
    clear h3
    go_enter Tryz.func82, Tryz.ntmps82
    go_big_wp2
    go_ret
    exact ⟨rfl, Below.refl _ _⟩
end Go.Proofs.YtnfkndaggcklkaaGreatDoor

