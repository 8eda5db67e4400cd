/-
  The printer of package csstok: one token. Conditions: as for names.
-/
import Derived.Test.YtmhdocgoeahbdaaGreatDoorQPq
import Derived.Deep.RegionLaw
namespace Go.CssKit
open Go Go.Lib Go.UtfKit
def valC (x : CT) : Chars := codes ⟨x.value.toArray⟩
def unitC (x : CT) : Chars := codes ⟨x.unit.toArray⟩
/-- Which characters of a name are escaped. -/
def nameZ (mis : Nat → Bool) : Nat → Chars → Chars
  | _, [] => []
  | i, z :: r => (if (!nameC z || mis i) = true then [z] else []) ++ nameZ mis (i + 1) r
theorem nameZ_mem {mis : Nat → Bool} : ∀ {l : Chars} {j i : Nat} {z : Int}, l[i]? = some z → (!nameC z || mis (j + i)) = true → z ∈ nameZ mis j l
  | [], _, _, _, h, _ => by simp at h
  | a :: l, j, 0, z, h, hm => by
    simp only [List.getElem?_cons_zero, Option.some.injEq] at h
    subst h
    unfold nameZ
    rw [Nat.add_zero] at hm
    rw [if_pos hm]
    simp
  | a :: l, j, i + 1, z, h, hm => by
    rw [List.getElem?_cons_succ] at h
    unfold nameZ
    exact List.mem_append_right _ (nameZ_mem h (by rw [Nat.add_assoc, Nat.add_comm 1 i]; exact hm))
def hashM (x : CT) : Nat → Bool := if x.id = true then misFirst (valC x) else fun _ => false
/-- A token's text behind another. -/
def tokenW (t x : CT) : List UInt8 :=
  if x.kind = 1 then whiteW t
  else if x.kind = 2 then nameW (misFirst (valC x)) 0 (valC x)
  else if x.kind = 3 then nameW (misFirst (valC x)) 0 (valC x) ++ [40]
  else if x.kind = 4 then 64 :: nameW (misFirst (valC x)) 0 (valC x)
  else if x.kind = 5 then 35 :: nameW (hashM x) 0 (valC x)
  else if x.kind = 6 then (34 :: quoteW (valC x)) ++ [34]
  else if x.kind = 7 then 34 :: quoteW (valC x)
  else if x.kind = 8 ∨ x.kind = 11 ∨ x.kind = 12 then x.value
  else if x.kind = 9 then x.value ++ [37]
  else if x.kind = 10 then x.value ++ nameW (misUnit (unitC x)) 0 (unitC x)
  else if x.kind = 13 then [60, 33, 45, 45]
  else if x.kind = 14 then [45, 45, 62]
  else []
/-- Its characters that are escaped. -/
def escZ (x : CT) : Chars :=
  if x.kind = 2 ∨ x.kind = 3 ∨ x.kind = 4 then nameZ (misFirst (valC x)) 0 (valC x)
  else if x.kind = 5 then nameZ (hashM x) 0 (valC x)
  else if x.kind = 6 ∨ x.kind = 7 then (valC x).filter isLn
  else if x.kind = 10 then nameZ (misUnit (unitC x)) 0 (unitC x)
  else []
theorem nameW_len (mis : Nat → Bool) : ∀ (l : Chars) (i : Nat), (nameW mis i l).length ≤ 11 * l.length
  | [], _ => Nat.zero_le _
  | z :: r, i => by
    have h1 := escT_len z
    have h2 := enc_len z
    have h3 := nameW_len mis r (i + 1)
    unfold nameW
    split <;> simp only [List.length_append, List.length_cons] <;> omega
theorem quoteW_len : ∀ (l : Chars), (quoteW l).length ≤ 11 * l.length
  | [] => Nat.zero_le _
  | z :: r => by
    have h1 := escT_len z
    have h2 := enc_len z
    have h3 := quoteW_len r
    unfold quoteW quoteC
    repeat' split
    all_goals simp only [List.length_append, List.length_cons]; omega
theorem valC_len (x : CT) : (valC x).length ≤ x.value.length := by have := codes_len ⟨x.value.toArray⟩; exact this
theorem unitC_len (x : CT) : (unitC x).length ≤ x.unit.length := by have := codes_len ⟨x.unit.toArray⟩; exact this
end Go.CssKit
namespace Go.Proofs.YtmhdocgoeahbdaaGreatDoor
open Go.RowKit Go.RunKit Go.UtfKit Go.Lib Go.CssKit

theorem misF_as (cs : Chars) : MisAs 59 cs (misFirst cs) :=
  ⟨enters_of Tryz.func59 (by kernel_rfl) rfl, fun g cap i W h _ hi => misFirst_any g 0 cap i cs W h hi⟩
theorem misU_as (cs : Chars) : MisAs 63 cs (misUnit cs) :=
  ⟨enters_of Tryz.func63 (by kernel_rfl) rfl, fun g cap i W h hc hi => misUnit_any g 0 cap i cs W h hi hc⟩
theorem misN_as (cs : Chars) : MisAs 89 cs (fun _ => false) :=
  ⟨enters_of Tryz.func89 (by kernel_rfl) rfl, fun _ _ _ _ _ _ _ => misNever_any _ _ _⟩
theorem PrAt.tabs {w0 W : World} {b : Nat} {s : List UInt8} {t : CT} (h : PrAt w0 b s t W) (ht : U.Tabs w0) : U.Tabs W := ht.on h.below
/-- What is asked ahead of a token. -/
structure TokOk (w0 : World) (b : Nat) (s : List UInt8) (t x : CT) : Prop where
  tabs : U.Tabs w0
  val : x.value.length ≤ 1073741824
  unit : x.unit.length ≤ 1073741824
  esc : ∀ z, z ∈ escZ x → EscAs w0 b t z
  len : s.length + 11 * (x.value.length + x.unit.length) + 16 ≤ 70368744177664
abbrev bxC (x : CT) : Array Value := #[.int .u8 ((x.kind : Nat) : Int), .string ⟨x.value.toArray⟩, .string ⟨x.unit.toArray⟩, .bool x.id]
theorem box_keep {W W' : World} {b : Nat} {x : CT} (hb : b < W.heap.size) (h : KeepP b (W.alloc (.cells (bxC x) TTc)) W') : W'.heap[W.heap.size]? = some (.cells (bxC x) TTc (0, 0)) :=
  h _ _ (heap_alloc_new W _) (fun e => by have := Option.some.inj e; omega) (fun c fz e => by simp only [Obj.cells.injEq] at e; exact absurd e.2.1 (by decide))
theorem box4 {W : World} {g : Nat} {a0 a1 a2 a3 : Value} {T : TypeId} (h : W.heap[g]? = some (.cells #[a0, a1, a2, a3] T (0, 0))) :
    W.cell? ⟨g, 0, none⟩ = some a0 ∧ W.cell? ⟨g, 1, none⟩ = some a1 ∧ W.cell? ⟨g, 2, none⟩ = some a2 ∧ W.cell? ⟨g, 3, none⟩ = some a3 :=
  ⟨by simp [World.cell?, h], by simp [World.cell?, h], by simp [World.cell?, h], by simp [World.cell?, h]⟩

set_option maxRecDepth 100000 in
set_option maxHeartbeats 4000000 in
theorem hash_any (w0 : World) (b : Nat) (s : List UInt8) (t x : CT) (W : World) (hx : x.kind = 5) (ho : TokOk w0 b s t x) (h : PrAt w0 b s t W) :
    Calls Tryz.prog 61 #[.pointer (some ⟨b, 0, none⟩), ctV x] W fun e w' => e = .returned (.tuple #[]) ∧ PrAt w0 b (s ++ tokenW t x) t w' ∧ KeepP b W w' := by
  have hl := ho.len
  have hW1 : PrAt w0 b s t (W.alloc (.cells (bxC x) TTc)) := h.on ((Below.refl _ _).alloc (Nat.le_refl _) _)
  have HB := Lib.hid (pbyte_any w0 b 35 s t _ (by omega) hW1)
  have HLt := Lib.hid h.lt
  have HK0 : Hid (KeepP b W (W.alloc (.cells (bxC x) TTc))) := Lib.hid (keep_below ((Below.refl _ _).alloc (Nat.le_refl _) _))
  have HAns := Lib.hid (show s ++ tokenW t x = (s ++ [35]) ++ nameW (hashM x) 0 (valC x) by unfold tokenW; simp [hx])
  rw [HAns.out]
  have HEs : Hid (∀ z, z ∈ nameZ (hashM x) 0 (valC x) → EscAs w0 b t z) := Lib.hid (fun z hz => ho.esc z (by unfold escZ; simpa [hx] using hz))
  have HO := Lib.hid ho
  have HN := Lib.hid (fun (f : Nat) (hf : MisAs f (valC x) (hashM x)) (W2 : World) (hp : PrAt w0 b (s ++ [35]) t W2) =>
    name_any w0 b ⟨x.value.toArray⟩ f (hashM x) (s ++ [35]) t W2 (hp.tabs HO.out.tabs) HO.out.val hf (fun i z hz hm => HEs.out z (nameZ_mem hz (by rw [Nat.zero_add]; exact hm))) (by have := HO.out.len; have e : (⟨x.value.toArray⟩ : ByteArray).size = x.value.length := rfl; simp only [List.length_append, List.length_cons, List.length_nil]; omega) hp)
  have HM1 : Hid (x.id = true → hashM x = misFirst (valC x)) := Lib.hid (fun e => by unfold hashM; rw [if_pos e])
  have HM2 : Hid (x.id = false → hashM x = fun _ => false) := Lib.hid (fun e => by unfold hashM; rw [if_neg (by simp [e])])
  generalize hashM x = mis at *
  obtain ⟨kd, vl, un, idb⟩ := x
  simp only at hx HM1 HM2
  subst hx
  unfold ctV
  clear h ho hl hW1 HAns HO HEs
  cases idb
  · have hm := HM2.out rfl
    subst hm
    have HNn := Lib.hid (HN.out _ (misN_as _))
    clear HM1 HM2 HN
    go_enter Tryz.func61, Tryz.ntmps61
    go_big_wp2_with (first
      | (go_at_call 60; refine HB.out.mono ?_; clear HB; rintro e w2 ⟨rfl, hp2, hk2⟩; have hbx := box_keep HLt.out hk2; obtain ⟨z0, z1, z2, z3⟩ := box4 hbx; have HP2 := Lib.hid hp2; have HK2 := Lib.hid (HK0.out.trans hk2); have HX := Lib.hid (HNn.out w2 hp2); clear hp2 hk2 hbx)
      | (go_at_call 58; refine HX.out.mono ?_; clear HX; rintro e w3 ⟨rfl, hp3, hk3⟩; have HP3 := Lib.hid (And.intro hp3 (HK2.out.trans hk3)); clear hp3 hk3))
    go_end0
    exact ⟨rfl, HP3.out⟩
  · have hm := HM1.out rfl
    subst hm
    have HNn := Lib.hid (HN.out _ (misF_as _))
    clear HM1 HM2 HN
    go_enter Tryz.func61, Tryz.ntmps61
    go_big_wp2_with (first
      | (go_at_call 60; refine HB.out.mono ?_; clear HB; rintro e w2 ⟨rfl, hp2, hk2⟩; have hbx := box_keep HLt.out hk2; obtain ⟨z0, z1, z2, z3⟩ := box4 hbx; have HP2 := Lib.hid hp2; have HK2 := Lib.hid (HK0.out.trans hk2); have HX := Lib.hid (HNn.out w2 hp2); clear hp2 hk2 hbx)
      | (go_at_call 58; refine HX.out.mono ?_; clear HX; rintro e w3 ⟨rfl, hp3, hk3⟩; have HP3 := Lib.hid (And.intro hp3 (HK2.out.trans hk3)); clear hp3 hk3))
    ((try simp only [Exit.inBlock, Exit.then]); refine bodyPost_ret (results_none rfl _ _ _) rfl ?_)
    exact ⟨rfl, HP3.out⟩

set_option maxRecDepth 100000 in
set_option maxHeartbeats 4000000 in
theorem tok1_any (w0 : World) (b : Nat) (s : List UInt8) (t x : CT) (W : World) (hx : x.kind = 1) (ho : TokOk w0 b s t x) (h : PrAt w0 b s t W) :
    Calls Tryz.prog 27 #[.pointer (some ⟨b, 0, none⟩), ctV x] W fun e w' => e = .returned (.tuple #[]) ∧ PrAt w0 b (s ++ tokenW t x) t w' ∧ KeepP b W w' := by
  have hl := ho.len
  have HW1 := Lib.hid (show PrAt w0 b s t (W.alloc (.cells (bxC x) TTc)) from h.on ((Below.refl _ _).alloc (Nat.le_refl _) _))
  have HLt := Lib.hid h.lt
  have HK0 : Hid (KeepP b W (W.alloc (.cells (bxC x) TTc))) := Lib.hid (keep_below ((Below.refl _ _).alloc (Nat.le_refl _) _))
  have HO := Lib.hid ho
  have hvl := valC_len x
  have hun := unitC_len x
  have HWh := Lib.hid (white_any w0 b s t _ (by omega) HW1.out)
  have hans : tokenW t x = whiteW t := by unfold tokenW; simp [hx]
  rw [hans]
  clear hans
  obtain ⟨kd, vl, un, idb⟩ := x
  simp only at hx ⊢
  subst hx
  unfold ctV
  clear h ho
  go_enter Tryz.func27, Tryz.ntmps27
  go_big_wp2_with (go_at_call 57; refine HWh.out.mono ?_; clear HWh; rintro e w2 ⟨rfl, hp2, hk2⟩; have HP := Lib.hid (And.intro hp2 (HK0.out.trans hk2)); clear hp2 hk2)
  all_goals first | go_end0 | ((try simp only [Exit.inBlock, Exit.then]); refine bodyPost_ret (results_none rfl _ _ _) rfl ?_)
  all_goals exact ⟨rfl, HP.out⟩

set_option maxRecDepth 100000 in
set_option maxHeartbeats 4000000 in
theorem tok2_any (w0 : World) (b : Nat) (s : List UInt8) (t x : CT) (W : World) (hx : x.kind = 2) (ho : TokOk w0 b s t x) (h : PrAt w0 b s t W) :
    Calls Tryz.prog 27 #[.pointer (some ⟨b, 0, none⟩), ctV x] W fun e w' => e = .returned (.tuple #[]) ∧ PrAt w0 b (s ++ tokenW t x) t w' ∧ KeepP b W w' := by
  have hl := ho.len
  have HW1 := Lib.hid (show PrAt w0 b s t (W.alloc (.cells (bxC x) TTc)) from h.on ((Below.refl _ _).alloc (Nat.le_refl _) _))
  have HLt := Lib.hid h.lt
  have HK0 : Hid (KeepP b W (W.alloc (.cells (bxC x) TTc))) := Lib.hid (keep_below ((Below.refl _ _).alloc (Nat.le_refl _) _))
  have HO := Lib.hid ho
  have hvl := valC_len x
  have hun := unitC_len x
  have HN := Lib.hid (fun (s2 : List UInt8) (h2 : s2.length ≤ s.length + 16 + 0) (W2 : World) (hp : PrAt w0 b s2 t W2) =>
    name_any w0 b ⟨x.value.toArray⟩ _ (misFirst (valC x)) s2 t W2 (hp.tabs HO.out.tabs) HO.out.val (misF_as _) (fun i z hz hm => HO.out.esc z (by unfold escZ; simp only [hx]; exact nameZ_mem hz (by rw [Nat.zero_add]; exact hm))) (by have := HO.out.len; have e : (⟨x.value.toArray⟩ : ByteArray).size = x.value.length := rfl; omega) hp)
  have hans : tokenW t x = nameW (misFirst (valC x)) 0 (valC x) := by unfold tokenW; simp [hx]
  rw [hans]
  clear hans
  obtain ⟨kd, vl, un, idb⟩ := x
  simp only at hx HN ⊢
  subst hx
  unfold ctV
  clear h ho
  go_enter Tryz.func27, Tryz.ntmps27
  have HX := Lib.hid (HN.out s (by omega) _ HW1.out)
  clear HN
  go_big_wp2_with (go_at_call 58; refine HX.out.mono ?_; clear HX; rintro e w2 ⟨rfl, hp2, hk2⟩; have HP := Lib.hid (And.intro (hp2) (HK0.out.trans hk2)); clear hp2 hk2)
  all_goals first | go_end0 | ((try simp only [Exit.inBlock, Exit.then]); refine bodyPost_ret (results_none rfl _ _ _) rfl ?_)
  all_goals exact ⟨rfl, HP.out⟩

set_option maxRecDepth 100000 in
set_option maxHeartbeats 4000000 in
theorem tok3_any (w0 : World) (b : Nat) (s : List UInt8) (t x : CT) (W : World) (hx : x.kind = 3) (ho : TokOk w0 b s t x) (h : PrAt w0 b s t W) :
    Calls Tryz.prog 27 #[.pointer (some ⟨b, 0, none⟩), ctV x] W fun e w' => e = .returned (.tuple #[]) ∧ PrAt w0 b (s ++ tokenW t x) t w' ∧ KeepP b W w' := by
  have hl := ho.len
  have HW1 := Lib.hid (show PrAt w0 b s t (W.alloc (.cells (bxC x) TTc)) from h.on ((Below.refl _ _).alloc (Nat.le_refl _) _))
  have HLt := Lib.hid h.lt
  have HK0 : Hid (KeepP b W (W.alloc (.cells (bxC x) TTc))) := Lib.hid (keep_below ((Below.refl _ _).alloc (Nat.le_refl _) _))
  have HO := Lib.hid ho
  have hvl := valC_len x
  have hun := unitC_len x
  have HN := Lib.hid (fun (s2 : List UInt8) (h2 : s2.length ≤ s.length + 16 + 0) (W2 : World) (hp : PrAt w0 b s2 t W2) =>
    name_any w0 b ⟨x.value.toArray⟩ _ (misFirst (valC x)) s2 t W2 (hp.tabs HO.out.tabs) HO.out.val (misF_as _) (fun i z hz hm => HO.out.esc z (by unfold escZ; simp only [hx]; exact nameZ_mem hz (by rw [Nat.zero_add]; exact hm))) (by have := HO.out.len; have e : (⟨x.value.toArray⟩ : ByteArray).size = x.value.length := rfl; omega) hp)
  have HBy := Lib.hid (fun (s2 : List UInt8) (h2 : s2.length + 1 ≤ 70368744177664) (W2 : World) (hp : PrAt w0 b s2 t W2) => pbyte_any w0 b 40 s2 t W2 h2 hp)
  have hans : tokenW t x = nameW (misFirst (valC x)) 0 (valC x) ++ [40] := by unfold tokenW; simp [hx]
  rw [hans]
  clear hans
  obtain ⟨kd, vl, un, idb⟩ := x
  simp only at hx HN ⊢
  subst hx
  unfold ctV
  clear h ho
  go_enter Tryz.func27, Tryz.ntmps27
  have HX := Lib.hid (HN.out s (by omega) _ HW1.out)
  have hnl := nameW_len (misFirst (codes ⟨vl.toArray⟩)) (codes ⟨vl.toArray⟩) 0
  have HL : Hid ((s ++ nameW (misFirst (codes ⟨vl.toArray⟩)) 0 (codes ⟨vl.toArray⟩)).length + 1 ≤ 70368744177664) := Lib.hid (by simp only [valC] at hvl; rw [List.length_append]; simp only at hl; omega)
  clear HN hnl
  go_big_wp2_with (first
    | (go_at_call 58; refine HX.out.mono ?_; clear HX; rintro e w2 ⟨rfl, hp2, hk2⟩; have HY := Lib.hid (HBy.out _ HL.out w2 hp2); have HK2 := Lib.hid (HK0.out.trans hk2); clear hp2 hk2)
    | (go_at_call 60; refine HY.out.mono ?_; clear HY; rintro e w3 ⟨rfl, hp2, hk2⟩; have HP := Lib.hid (And.intro hp2 (HK2.out.trans hk2)); clear hp2 hk2))
  rw [← List.append_assoc]
  all_goals first | go_end0 | ((try simp only [Exit.inBlock, Exit.then]); refine bodyPost_ret (results_none rfl _ _ _) rfl ?_)
  all_goals exact ⟨rfl, HP.out⟩

set_option maxRecDepth 100000 in
set_option maxHeartbeats 4000000 in
theorem tok4_any (w0 : World) (b : Nat) (s : List UInt8) (t x : CT) (W : World) (hx : x.kind = 4) (ho : TokOk w0 b s t x) (h : PrAt w0 b s t W) :
    Calls Tryz.prog 27 #[.pointer (some ⟨b, 0, none⟩), ctV x] W fun e w' => e = .returned (.tuple #[]) ∧ PrAt w0 b (s ++ tokenW t x) t w' ∧ KeepP b W w' := by
  have hl := ho.len
  have HW1 := Lib.hid (show PrAt w0 b s t (W.alloc (.cells (bxC x) TTc)) from h.on ((Below.refl _ _).alloc (Nat.le_refl _) _))
  have HLt := Lib.hid h.lt
  have HK0 : Hid (KeepP b W (W.alloc (.cells (bxC x) TTc))) := Lib.hid (keep_below ((Below.refl _ _).alloc (Nat.le_refl _) _))
  have HO := Lib.hid ho
  have hvl := valC_len x
  have hun := unitC_len x
  have HN := Lib.hid (fun (s2 : List UInt8) (h2 : s2.length ≤ s.length + 16 + 0) (W2 : World) (hp : PrAt w0 b s2 t W2) =>
    name_any w0 b ⟨x.value.toArray⟩ _ (misFirst (valC x)) s2 t W2 (hp.tabs HO.out.tabs) HO.out.val (misF_as _) (fun i z hz hm => HO.out.esc z (by unfold escZ; simp only [hx]; exact nameZ_mem hz (by rw [Nat.zero_add]; exact hm))) (by have := HO.out.len; have e : (⟨x.value.toArray⟩ : ByteArray).size = x.value.length := rfl; omega) hp)
  have HBy := Lib.hid (fun (s2 : List UInt8) (h2 : s2.length + 1 ≤ 70368744177664) (W2 : World) (hp : PrAt w0 b s2 t W2) => pbyte_any w0 b 64 s2 t W2 h2 hp)
  have hans : tokenW t x = 64 :: nameW (misFirst (valC x)) 0 (valC x) := by unfold tokenW; simp [hx]
  rw [hans]
  clear hans
  obtain ⟨kd, vl, un, idb⟩ := x
  simp only at hx HN ⊢
  subst hx
  unfold ctV
  clear h ho
  go_enter Tryz.func27, Tryz.ntmps27
  have HX := Lib.hid (HBy.out s (by omega) _ HW1.out)
  clear HBy
  go_big_wp2_with (first
    | (go_at_call 60; refine HX.out.mono ?_; clear HX; rintro e w2 ⟨rfl, hp2, hk2⟩; have hbx := box_keep HLt.out hk2; obtain ⟨z0, z1, z2, z3⟩ := box4 hbx; have HY := Lib.hid (HN.out _ (by simp) w2 hp2); have HK2 := Lib.hid (HK0.out.trans hk2); clear hbx; clear hp2 hk2)
    | (go_at_call 58; refine HY.out.mono ?_; clear HY; rintro e w3 ⟨rfl, hp2, hk2⟩; have HP := Lib.hid (And.intro hp2 (HK2.out.trans hk2)); clear hp2 hk2))
  rw [List.append_cons]
  all_goals first | go_end0 | ((try simp only [Exit.inBlock, Exit.then]); refine bodyPost_ret (results_none rfl _ _ _) rfl ?_)
  all_goals exact ⟨rfl, HP.out⟩

set_option maxRecDepth 100000 in
set_option maxHeartbeats 4000000 in
theorem tok5_any (w0 : World) (b : Nat) (s : List UInt8) (t x : CT) (W : World) (hx : x.kind = 5) (ho : TokOk w0 b s t x) (h : PrAt w0 b s t W) :
    Calls Tryz.prog 27 #[.pointer (some ⟨b, 0, none⟩), ctV x] W fun e w' => e = .returned (.tuple #[]) ∧ PrAt w0 b (s ++ tokenW t x) t w' ∧ KeepP b W w' := by
  have hl := ho.len
  have HW1 := Lib.hid (show PrAt w0 b s t (W.alloc (.cells (bxC x) TTc)) from h.on ((Below.refl _ _).alloc (Nat.le_refl _) _))
  have HLt := Lib.hid h.lt
  have HK0 : Hid (KeepP b W (W.alloc (.cells (bxC x) TTc))) := Lib.hid (keep_below ((Below.refl _ _).alloc (Nat.le_refl _) _))
  have HO := Lib.hid ho
  have hvl := valC_len x
  have hun := unitC_len x
  have HH := Lib.hid (fun h2 => hash_any w0 b s t x (W.alloc (.cells (bxC x) TTc)) hx ho h2)
  have hans : tokenW t x = 35 :: nameW (hashM x) 0 (valC x) := by unfold tokenW; simp [hx]
  rw [hans]
  clear hans
  obtain ⟨kd, vl, un, idb⟩ := x
  simp only at hx HH ⊢
  subst hx
  unfold ctV
  clear h ho
  go_enter Tryz.func27, Tryz.ntmps27
  have HX := Lib.hid (HH.out HW1.out)
  clear HH
  go_big_wp2_with (go_at_call 61; refine HX.out.mono ?_; clear HX; rintro e w2 ⟨rfl, hp2, hk2⟩; have HP := Lib.hid (And.intro hp2 (HK0.out.trans hk2)); clear hp2 hk2)
  all_goals first | go_end0 | ((try simp only [Exit.inBlock, Exit.then]); refine bodyPost_ret (results_none rfl _ _ _) rfl ?_)
  all_goals exact ⟨rfl, HP.out⟩

set_option maxRecDepth 100000 in
set_option maxHeartbeats 4000000 in
theorem tok6_any (w0 : World) (b : Nat) (s : List UInt8) (t x : CT) (W : World) (hx : x.kind = 6) (ho : TokOk w0 b s t x) (h : PrAt w0 b s t W) :
    Calls Tryz.prog 27 #[.pointer (some ⟨b, 0, none⟩), ctV x] W fun e w' => e = .returned (.tuple #[]) ∧ PrAt w0 b (s ++ tokenW t x) t w' ∧ KeepP b W w' := by
  have hl := ho.len
  have HW1 := Lib.hid (show PrAt w0 b s t (W.alloc (.cells (bxC x) TTc)) from h.on ((Below.refl _ _).alloc (Nat.le_refl _) _))
  have HLt := Lib.hid h.lt
  have HK0 : Hid (KeepP b W (W.alloc (.cells (bxC x) TTc))) := Lib.hid (keep_below ((Below.refl _ _).alloc (Nat.le_refl _) _))
  have HO := Lib.hid ho
  have hvl := valC_len x
  have hun := unitC_len x
  have HQ := Lib.hid (quoted_any w0 b ⟨x.value.toArray⟩ s t _ HO.out.tabs HO.out.val (fun z hz hm => HO.out.esc z (by unfold escZ; simp only [hx]; exact List.mem_filter.2 ⟨hz, hm⟩)) (by have := HO.out.len; have e : (⟨x.value.toArray⟩ : ByteArray).size = x.value.length := rfl; omega) HW1.out)
  have HBy := Lib.hid (fun (s2 : List UInt8) (h2 : s2.length + 1 ≤ 70368744177664) (W2 : World) (hp : PrAt w0 b s2 t W2) => pbyte_any w0 b 34 s2 t W2 h2 hp)
  have hans : tokenW t x = (34 :: quoteW (valC x)) ++ [34] := by unfold tokenW; simp [hx]
  rw [hans]
  clear hans
  obtain ⟨kd, vl, un, idb⟩ := x
  simp only at hx HQ ⊢
  subst hx
  unfold ctV
  clear h ho
  go_enter Tryz.func27, Tryz.ntmps27
  have hnl := quoteW_len (codes ⟨vl.toArray⟩)
  have HL : Hid ((s ++ 34 :: quoteW (codes ⟨vl.toArray⟩)).length + 1 ≤ 70368744177664) := Lib.hid (by simp only [valC] at hvl; rw [List.length_append, List.length_cons]; simp only at hl; omega)
  clear hnl
  go_big_wp2_with (first
    | (go_at_call 62; refine HQ.out.mono ?_; clear HQ; rintro e w2 ⟨rfl, hp2, hk2⟩; have HY := Lib.hid (HBy.out _ HL.out w2 hp2); have HK2 := Lib.hid (HK0.out.trans hk2); clear hp2 hk2)
    | (go_at_call 60; refine HY.out.mono ?_; clear HY; rintro e w3 ⟨rfl, hp2, hk2⟩; have HP := Lib.hid (And.intro hp2 (HK2.out.trans hk2)); clear hp2 hk2))
  rw [← List.cons_append, ← List.append_assoc]
  all_goals first | go_end0 | ((try simp only [Exit.inBlock, Exit.then]); refine bodyPost_ret (results_none rfl _ _ _) rfl ?_)
  all_goals exact ⟨rfl, HP.out⟩

set_option maxRecDepth 100000 in
set_option maxHeartbeats 4000000 in
theorem tok7_any (w0 : World) (b : Nat) (s : List UInt8) (t x : CT) (W : World) (hx : x.kind = 7) (ho : TokOk w0 b s t x) (h : PrAt w0 b s t W) :
    Calls Tryz.prog 27 #[.pointer (some ⟨b, 0, none⟩), ctV x] W fun e w' => e = .returned (.tuple #[]) ∧ PrAt w0 b (s ++ tokenW t x) t w' ∧ KeepP b W w' := by
  have hl := ho.len
  have HW1 := Lib.hid (show PrAt w0 b s t (W.alloc (.cells (bxC x) TTc)) from h.on ((Below.refl _ _).alloc (Nat.le_refl _) _))
  have HLt := Lib.hid h.lt
  have HK0 : Hid (KeepP b W (W.alloc (.cells (bxC x) TTc))) := Lib.hid (keep_below ((Below.refl _ _).alloc (Nat.le_refl _) _))
  have HO := Lib.hid ho
  have hvl := valC_len x
  have hun := unitC_len x
  have HQ := Lib.hid (quoted_any w0 b ⟨x.value.toArray⟩ s t _ HO.out.tabs HO.out.val (fun z hz hm => HO.out.esc z (by unfold escZ; simp only [hx]; exact List.mem_filter.2 ⟨hz, hm⟩)) (by have := HO.out.len; have e : (⟨x.value.toArray⟩ : ByteArray).size = x.value.length := rfl; omega) HW1.out)
  have hans : tokenW t x = 34 :: quoteW (valC x) := by unfold tokenW; simp [hx]
  rw [hans]
  clear hans
  obtain ⟨kd, vl, un, idb⟩ := x
  simp only at hx HQ ⊢
  subst hx
  unfold ctV
  clear h ho
  go_enter Tryz.func27, Tryz.ntmps27
  go_big_wp2_with (go_at_call 62; refine HQ.out.mono ?_; clear HQ; rintro e w2 ⟨rfl, hp2, hk2⟩; have HP := Lib.hid (And.intro hp2 (HK0.out.trans hk2)); clear hp2 hk2)
  all_goals first | go_end0 | ((try simp only [Exit.inBlock, Exit.then]); refine bodyPost_ret (results_none rfl _ _ _) rfl ?_)
  all_goals exact ⟨rfl, HP.out⟩

set_option maxRecDepth 100000 in
set_option maxHeartbeats 4000000 in
theorem tok8_any (w0 : World) (b : Nat) (s : List UInt8) (t x : CT) (W : World) (hx : x.kind = 8) (ho : TokOk w0 b s t x) (h : PrAt w0 b s t W) :
    Calls Tryz.prog 27 #[.pointer (some ⟨b, 0, none⟩), ctV x] W fun e w' => e = .returned (.tuple #[]) ∧ PrAt w0 b (s ++ tokenW t x) t w' ∧ KeepP b W w' := by
  have hl := ho.len
  have HW1 := Lib.hid (show PrAt w0 b s t (W.alloc (.cells (bxC x) TTc)) from h.on ((Below.refl _ _).alloc (Nat.le_refl _) _))
  have HLt := Lib.hid h.lt
  have HK0 : Hid (KeepP b W (W.alloc (.cells (bxC x) TTc))) := Lib.hid (keep_below ((Below.refl _ _).alloc (Nat.le_refl _) _))
  have HO := Lib.hid ho
  have hvl := valC_len x
  have hun := unitC_len x
  have HX := Lib.hid (fun (W2 : World) (hp : PrAt w0 b s t W2) => pwrite_any w0 b ⟨x.value.toArray⟩ s t W2 (by have := HO.out.len; have e : (⟨x.value.toArray⟩ : ByteArray).size = x.value.length := rfl; omega) hp)
  have hans : tokenW t x = x.value := by unfold tokenW; simp [hx]
  rw [hans]
  clear hans
  obtain ⟨kd, vl, un, idb⟩ := x
  simp only at hx HX ⊢
  subst hx
  unfold ctV
  clear h ho
  go_enter Tryz.func27, Tryz.ntmps27
  go_big_wp2
  go_region_law (go_simp; go_at_call 26; refine (HX.out _ (HW1.out.on ((Below.refl _ _).drew))).mono ?_; clear HX; rintro e w2 ⟨rfl, hp2, hk2⟩; have HP := Lib.hid (And.intro hp2 (HK0.out.trans ((keep_below ((Below.refl _ _).drew)).trans hk2))); clear hp2 hk2)
  all_goals go_big_wp2
  all_goals first | go_end0 | ((try simp only [Exit.inBlock, Exit.then]); refine bodyPost_ret (results_none rfl _ _ _) rfl ?_)
  all_goals exact ⟨rfl, HP.out⟩

set_option maxRecDepth 100000 in
set_option maxHeartbeats 4000000 in
theorem tok11_any (w0 : World) (b : Nat) (s : List UInt8) (t x : CT) (W : World) (hx : x.kind = 11) (ho : TokOk w0 b s t x) (h : PrAt w0 b s t W) :
    Calls Tryz.prog 27 #[.pointer (some ⟨b, 0, none⟩), ctV x] W fun e w' => e = .returned (.tuple #[]) ∧ PrAt w0 b (s ++ tokenW t x) t w' ∧ KeepP b W w' := by
  have hl := ho.len
  have HW1 := Lib.hid (show PrAt w0 b s t (W.alloc (.cells (bxC x) TTc)) from h.on ((Below.refl _ _).alloc (Nat.le_refl _) _))
  have HLt := Lib.hid h.lt
  have HK0 : Hid (KeepP b W (W.alloc (.cells (bxC x) TTc))) := Lib.hid (keep_below ((Below.refl _ _).alloc (Nat.le_refl _) _))
  have HO := Lib.hid ho
  have hvl := valC_len x
  have hun := unitC_len x
  have HX := Lib.hid (fun (W2 : World) (hp : PrAt w0 b s t W2) => pwrite_any w0 b ⟨x.value.toArray⟩ s t W2 (by have := HO.out.len; have e : (⟨x.value.toArray⟩ : ByteArray).size = x.value.length := rfl; omega) hp)
  have hans : tokenW t x = x.value := by unfold tokenW; simp [hx]
  rw [hans]
  clear hans
  obtain ⟨kd, vl, un, idb⟩ := x
  simp only at hx HX ⊢
  subst hx
  unfold ctV
  clear h ho
  go_enter Tryz.func27, Tryz.ntmps27
  go_big_wp2
  go_region_law (go_simp; go_at_call 26; refine (HX.out _ (HW1.out.on ((Below.refl _ _).drew))).mono ?_; clear HX; rintro e w2 ⟨rfl, hp2, hk2⟩; have HP := Lib.hid (And.intro hp2 (HK0.out.trans ((keep_below ((Below.refl _ _).drew)).trans hk2))); clear hp2 hk2)
  all_goals go_big_wp2
  all_goals first | go_end0 | ((try simp only [Exit.inBlock, Exit.then]); refine bodyPost_ret (results_none rfl _ _ _) rfl ?_)
  all_goals exact ⟨rfl, HP.out⟩

set_option maxRecDepth 100000 in
set_option maxHeartbeats 4000000 in
theorem tok12_any (w0 : World) (b : Nat) (s : List UInt8) (t x : CT) (W : World) (hx : x.kind = 12) (ho : TokOk w0 b s t x) (h : PrAt w0 b s t W) :
    Calls Tryz.prog 27 #[.pointer (some ⟨b, 0, none⟩), ctV x] W fun e w' => e = .returned (.tuple #[]) ∧ PrAt w0 b (s ++ tokenW t x) t w' ∧ KeepP b W w' := by
  have hl := ho.len
  have HW1 := Lib.hid (show PrAt w0 b s t (W.alloc (.cells (bxC x) TTc)) from h.on ((Below.refl _ _).alloc (Nat.le_refl _) _))
  have HLt := Lib.hid h.lt
  have HK0 : Hid (KeepP b W (W.alloc (.cells (bxC x) TTc))) := Lib.hid (keep_below ((Below.refl _ _).alloc (Nat.le_refl _) _))
  have HO := Lib.hid ho
  have hvl := valC_len x
  have hun := unitC_len x
  have HX := Lib.hid (fun (W2 : World) (hp : PrAt w0 b s t W2) => pwrite_any w0 b ⟨x.value.toArray⟩ s t W2 (by have := HO.out.len; have e : (⟨x.value.toArray⟩ : ByteArray).size = x.value.length := rfl; omega) hp)
  have hans : tokenW t x = x.value := by unfold tokenW; simp [hx]
  rw [hans]
  clear hans
  obtain ⟨kd, vl, un, idb⟩ := x
  simp only at hx HX ⊢
  subst hx
  unfold ctV
  clear h ho
  go_enter Tryz.func27, Tryz.ntmps27
  go_big_wp2
  go_region_law (go_simp; go_at_call 26; refine (HX.out _ (HW1.out.on ((Below.refl _ _).drew))).mono ?_; clear HX; rintro e w2 ⟨rfl, hp2, hk2⟩; have HP := Lib.hid (And.intro hp2 (HK0.out.trans ((keep_below ((Below.refl _ _).drew)).trans hk2))); clear hp2 hk2)
  all_goals go_big_wp2
  all_goals first | go_end0 | ((try simp only [Exit.inBlock, Exit.then]); refine bodyPost_ret (results_none rfl _ _ _) rfl ?_)
  all_goals exact ⟨rfl, HP.out⟩

set_option maxRecDepth 100000 in
set_option maxHeartbeats 4000000 in
theorem tok9_any (w0 : World) (b : Nat) (s : List UInt8) (t x : CT) (W : World) (hx : x.kind = 9) (ho : TokOk w0 b s t x) (h : PrAt w0 b s t W) :
    Calls Tryz.prog 27 #[.pointer (some ⟨b, 0, none⟩), ctV x] W fun e w' => e = .returned (.tuple #[]) ∧ PrAt w0 b (s ++ tokenW t x) t w' ∧ KeepP b W w' := by
  have hl := ho.len
  have HW1 := Lib.hid (show PrAt w0 b s t (W.alloc (.cells (bxC x) TTc)) from h.on ((Below.refl _ _).alloc (Nat.le_refl _) _))
  have HLt := Lib.hid h.lt
  have HK0 : Hid (KeepP b W (W.alloc (.cells (bxC x) TTc))) := Lib.hid (keep_below ((Below.refl _ _).alloc (Nat.le_refl _) _))
  have HO := Lib.hid ho
  have hvl := valC_len x
  have hun := unitC_len x
  have HX := Lib.hid (fun (W2 : World) (hp : PrAt w0 b s t W2) => pwrite_any w0 b ⟨x.value.toArray⟩ s t W2 (by have := HO.out.len; have e : (⟨x.value.toArray⟩ : ByteArray).size = x.value.length := rfl; omega) hp)
  have HBy := Lib.hid (fun (s2 : List UInt8) (h2 : s2.length + 1 ≤ 70368744177664) (W2 : World) (hp : PrAt w0 b s2 t W2) => pbyte_any w0 b 37 s2 t W2 h2 hp)
  have hans : tokenW t x = x.value ++ [37] := by unfold tokenW; simp [hx]
  rw [hans]
  clear hans
  obtain ⟨kd, vl, un, idb⟩ := x
  simp only at hx HX ⊢
  subst hx
  unfold ctV
  clear h ho
  go_enter Tryz.func27, Tryz.ntmps27
  have HL : Hid ((s ++ vl).length + 1 ≤ 70368744177664) := Lib.hid (by rw [List.length_append]; simp only at hl; omega)
  go_big_wp2
  go_region_law (go_simp; go_at_call 26; refine (HX.out _ (HW1.out.on ((Below.refl _ _).drew))).mono ?_; clear HX; rintro e w2 ⟨rfl, hp2, hk2⟩; have HY := Lib.hid (HBy.out _ HL.out w2 hp2); have HK2 := Lib.hid (HK0.out.trans ((keep_below ((Below.refl _ _).drew)).trans hk2)); clear hp2 hk2)
  all_goals go_big_wp2_with (go_at_call 60; refine HY.out.mono ?_; clear HY; rintro e w3 ⟨rfl, hp2, hk2⟩; have HP := Lib.hid (And.intro hp2 (HK2.out.trans hk2)); clear hp2 hk2)
  all_goals rw [← List.append_assoc]
  all_goals first | go_end0 | ((try simp only [Exit.inBlock, Exit.then]); refine bodyPost_ret (results_none rfl _ _ _) rfl ?_)
  all_goals exact ⟨rfl, HP.out⟩

set_option maxRecDepth 100000 in
set_option maxHeartbeats 4000000 in
theorem tok10_any (w0 : World) (b : Nat) (s : List UInt8) (t x : CT) (W : World) (hx : x.kind = 10) (ho : TokOk w0 b s t x) (h : PrAt w0 b s t W) :
    Calls Tryz.prog 27 #[.pointer (some ⟨b, 0, none⟩), ctV x] W fun e w' => e = .returned (.tuple #[]) ∧ PrAt w0 b (s ++ tokenW t x) t w' ∧ KeepP b W w' := by
  have hl := ho.len
  have HW1 := Lib.hid (show PrAt w0 b s t (W.alloc (.cells (bxC x) TTc)) from h.on ((Below.refl _ _).alloc (Nat.le_refl _) _))
  have HLt := Lib.hid h.lt
  have HK0 : Hid (KeepP b W (W.alloc (.cells (bxC x) TTc))) := Lib.hid (keep_below ((Below.refl _ _).alloc (Nat.le_refl _) _))
  have HO := Lib.hid ho
  have hvl := valC_len x
  have hun := unitC_len x
  have HX := Lib.hid (fun (W2 : World) (hp : PrAt w0 b s t W2) => pwrite_any w0 b ⟨x.value.toArray⟩ s t W2 (by have := HO.out.len; have e : (⟨x.value.toArray⟩ : ByteArray).size = x.value.length := rfl; omega) hp)
  have HN := Lib.hid (fun (s2 : List UInt8) (h2 : s2.length ≤ s.length + 16 + 11 * x.value.length) (W2 : World) (hp : PrAt w0 b s2 t W2) =>
    name_any w0 b ⟨x.unit.toArray⟩ _ (misUnit (unitC x)) s2 t W2 (hp.tabs HO.out.tabs) HO.out.unit (misU_as _) (fun i z hz hm => HO.out.esc z (by unfold escZ; simp only [hx]; exact nameZ_mem hz (by rw [Nat.zero_add]; exact hm))) (by have := HO.out.len; have e : (⟨x.unit.toArray⟩ : ByteArray).size = x.unit.length := rfl; omega) hp)
  have hans : tokenW t x = x.value ++ nameW (misUnit (unitC x)) 0 (unitC x) := by unfold tokenW; simp [hx]
  rw [hans]
  clear hans
  obtain ⟨kd, vl, un, idb⟩ := x
  simp only at hx HX HN ⊢
  subst hx
  unfold ctV
  clear h ho
  go_enter Tryz.func27, Tryz.ntmps27
  have HL : Hid ((s ++ vl).length ≤ s.length + 16 + 11 * vl.length) := Lib.hid (by rw [List.length_append]; omega)
  go_big_wp2
  go_region_law (go_simp; go_at_call 26; refine (HX.out _ (HW1.out.on ((Below.refl _ _).drew))).mono ?_; clear HX; rintro e w2 ⟨rfl, hp2, hk2⟩; have hk2 := (keep_below ((Below.refl _ _).drew)).trans hk2; have hbx := box_keep HLt.out hk2; obtain ⟨z0, z1, z2, z3⟩ := box4 hbx; have HY := Lib.hid (HN.out _ HL.out w2 hp2); have HK2 := Lib.hid (HK0.out.trans hk2); clear hbx; clear hp2 hk2)
  all_goals go_big_wp2_with (go_at_call 58; refine HY.out.mono ?_; clear HY; rintro e w3 ⟨rfl, hp2, hk2⟩; have HP := Lib.hid (And.intro hp2 (HK2.out.trans hk2)); clear hp2 hk2)
  all_goals rw [← List.append_assoc]
  all_goals first | go_end0 | ((try simp only [Exit.inBlock, Exit.then]); refine bodyPost_ret (results_none rfl _ _ _) rfl ?_)
  all_goals exact ⟨rfl, HP.out⟩

set_option maxRecDepth 100000 in
set_option maxHeartbeats 4000000 in
theorem tok13_any (w0 : World) (b : Nat) (s : List UInt8) (t x : CT) (W : World) (hx : x.kind = 13) (ho : TokOk w0 b s t x) (h : PrAt w0 b s t W) :
    Calls Tryz.prog 27 #[.pointer (some ⟨b, 0, none⟩), ctV x] W fun e w' => e = .returned (.tuple #[]) ∧ PrAt w0 b (s ++ tokenW t x) t w' ∧ KeepP b W w' := by
  have hl := ho.len
  have HW1 := Lib.hid (show PrAt w0 b s t (W.alloc (.cells (bxC x) TTc)) from h.on ((Below.refl _ _).alloc (Nat.le_refl _) _))
  have HLt := Lib.hid h.lt
  have HK0 : Hid (KeepP b W (W.alloc (.cells (bxC x) TTc))) := Lib.hid (keep_below ((Below.refl _ _).alloc (Nat.le_refl _) _))
  have HO := Lib.hid ho
  have hvl := valC_len x
  have hun := unitC_len x
  have HX := Lib.hid (pwrite_any w0 b ⟨#[60, 33, 45, 45]⟩ s t _ (by have : (⟨#[60, 33, 45, 45]⟩ : ByteArray).size = 4 := rfl; omega) HW1.out)
  have hans : tokenW t x = [60, 33, 45, 45] := by unfold tokenW; simp [hx]
  rw [hans]
  clear hans
  obtain ⟨kd, vl, un, idb⟩ := x
  simp only at hx ⊢
  subst hx
  unfold ctV
  clear h ho
  go_enter Tryz.func27, Tryz.ntmps27
  go_big_wp2_with (go_at_call 26; refine HX.out.mono ?_; clear HX; rintro e w2 ⟨rfl, hp2, hk2⟩; have HP := Lib.hid (And.intro hp2 (HK0.out.trans hk2)); clear hp2 hk2)
  all_goals first | go_end0 | ((try simp only [Exit.inBlock, Exit.then]); refine bodyPost_ret (results_none rfl _ _ _) rfl ?_)
  all_goals exact ⟨rfl, HP.out⟩

set_option maxRecDepth 100000 in
set_option maxHeartbeats 4000000 in
theorem tok14_any (w0 : World) (b : Nat) (s : List UInt8) (t x : CT) (W : World) (hx : x.kind = 14) (ho : TokOk w0 b s t x) (h : PrAt w0 b s t W) :
    Calls Tryz.prog 27 #[.pointer (some ⟨b, 0, none⟩), ctV x] W fun e w' => e = .returned (.tuple #[]) ∧ PrAt w0 b (s ++ tokenW t x) t w' ∧ KeepP b W w' := by
  have hl := ho.len
  have HW1 := Lib.hid (show PrAt w0 b s t (W.alloc (.cells (bxC x) TTc)) from h.on ((Below.refl _ _).alloc (Nat.le_refl _) _))
  have HLt := Lib.hid h.lt
  have HK0 : Hid (KeepP b W (W.alloc (.cells (bxC x) TTc))) := Lib.hid (keep_below ((Below.refl _ _).alloc (Nat.le_refl _) _))
  have HO := Lib.hid ho
  have hvl := valC_len x
  have hun := unitC_len x
  have HX := Lib.hid (pwrite_any w0 b ⟨#[45, 45, 62]⟩ s t _ (by have : (⟨#[45, 45, 62]⟩ : ByteArray).size = 3 := rfl; omega) HW1.out)
  have hans : tokenW t x = [45, 45, 62] := by unfold tokenW; simp [hx]
  rw [hans]
  clear hans
  obtain ⟨kd, vl, un, idb⟩ := x
  simp only at hx ⊢
  subst hx
  unfold ctV
  clear h ho
  go_enter Tryz.func27, Tryz.ntmps27
  go_big_wp2_with (go_at_call 26; refine HX.out.mono ?_; clear HX; rintro e w2 ⟨rfl, hp2, hk2⟩; have HP := Lib.hid (And.intro hp2 (HK0.out.trans hk2)); clear hp2 hk2)
  all_goals first | go_end0 | ((try simp only [Exit.inBlock, Exit.then]); refine bodyPost_ret (results_none rfl _ _ _) rfl ?_)
  all_goals exact ⟨rfl, HP.out⟩

set_option maxRecDepth 100000 in
set_option maxHeartbeats 4000000 in
theorem tokO_any (w0 : World) (b : Nat) (s : List UInt8) (t x : CT) (W : World) (hx : x.kind = 0 ∨ 14 < x.kind) (h : PrAt w0 b s t W) :
    Calls Tryz.prog 27 #[.pointer (some ⟨b, 0, none⟩), ctV x] W fun e w' => e = .returned (.tuple #[]) ∧ PrAt w0 b (s ++ tokenW t x) t w' ∧ KeepP b W w' := by
  have HP := Lib.hid (show PrAt w0 b s t (W.alloc (.cells (bxC x) TTc)) from h.on ((Below.refl _ _).alloc (Nat.le_refl _) _))
  have HK0 : Hid (KeepP b W (W.alloc (.cells (bxC x) TTc))) := Lib.hid (keep_below ((Below.refl _ _).alloc (Nat.le_refl _) _))
  have hans : tokenW t x = [] := by unfold tokenW; repeat (rw [if_neg (by omega)])
  rw [hans, List.append_nil]
  clear hans h
  obtain ⟨kd, vl, un, idb⟩ := x
  simp only at hx
  have d : ∀ j : Nat, 0 < j → j < 15 → ((kd : Int) == (j : Int)) = false := fun j h0 hj => by rw [beq_eq_false_iff_ne]; omega
  have d1 := d 1 (by omega) (by omega)
  have d2 := d 2 (by omega) (by omega)
  have d3 := d 3 (by omega) (by omega)
  have d4 := d 4 (by omega) (by omega)
  have d5 := d 5 (by omega) (by omega)
  have d6 := d 6 (by omega) (by omega)
  have d7 := d 7 (by omega) (by omega)
  have d8 := d 8 (by omega) (by omega)
  have d9 := d 9 (by omega) (by omega)
  have d10 := d 10 (by omega) (by omega)
  have d11 := d 11 (by omega) (by omega)
  have d12 := d 12 (by omega) (by omega)
  have d13 := d 13 (by omega) (by omega)
  have d14 := d 14 (by omega) (by omega)
  unfold ctV
  clear d hx
  go_enter Tryz.func27, Tryz.ntmps27
  go_big_wp2
  all_goals first | go_end0 | ((try simp only [Exit.inBlock, Exit.then]); refine bodyPost_ret (results_none rfl _ _ _) rfl ?_)
  all_goals exact ⟨rfl, HP.out, HK0.out⟩
theorem token_any (w0 : World) (b : Nat) (s : List UInt8) (t x : CT) (W : World) (ho : TokOk w0 b s t x) (h : PrAt w0 b s t W) :
    Calls Tryz.prog 27 #[.pointer (some ⟨b, 0, none⟩), ctV x] W fun e w' => e = .returned (.tuple #[]) ∧ PrAt w0 b (s ++ tokenW t x) t w' ∧ KeepP b W w' := by
  rcases (by omega : x.kind = 1 ∨ x.kind = 2 ∨ x.kind = 3 ∨ x.kind = 4 ∨ x.kind = 5 ∨ x.kind = 6 ∨ x.kind = 7 ∨ x.kind = 8 ∨ x.kind = 9 ∨ x.kind = 10 ∨ x.kind = 11 ∨ x.kind = 12 ∨ x.kind = 13 ∨ x.kind = 14 ∨ (x.kind = 0 ∨ 14 < x.kind)) with hx | hx | hx | hx | hx | hx | hx | hx | hx | hx | hx | hx | hx | hx | hx
  · exact tok1_any w0 b s t x W hx ho h
  · exact tok2_any w0 b s t x W hx ho h
  · exact tok3_any w0 b s t x W hx ho h
  · exact tok4_any w0 b s t x W hx ho h
  · exact tok5_any w0 b s t x W hx ho h
  · exact tok6_any w0 b s t x W hx ho h
  · exact tok7_any w0 b s t x W hx ho h
  · exact tok8_any w0 b s t x W hx ho h
  · exact tok9_any w0 b s t x W hx ho h
  · exact tok10_any w0 b s t x W hx ho h
  · exact tok11_any w0 b s t x W hx ho h
  · exact tok12_any w0 b s t x W hx ho h
  · exact tok13_any w0 b s t x W hx ho h
  · exact tok14_any w0 b s t x W hx ho h
  · exact tokO_any w0 b s t x W hx h
end Go.Proofs.YtmhdocgoeahbdaaGreatDoor
