/-
  Serialize of package serial, by contract. Conditions: names of attributes are no longer than 2^20 bytes; the library's two tables hold what its text lays.
-/
import Derived.Test.YtkfmfldkllkcbabDoorSWrite
import Derived.Laws.EntriesVeiled
namespace Go.Proofs.YtkfmfldkllkcbabDoor
open Go.RowKit Go.RunKit Go.UtfKit Go.CharrefKit Go.Lib Go.TokenKit Go.TreeKit Go.SerialKit

/-- P6.2, as the code tells it. -/
def serialL (T : List NI) : Bytes × Nat :=
  if rightB T = true then (if (writeF T T.length 0 ([], false)).2 = true then ([], 3) else ((writeF T T.length 0 ([], false)).1, 0)) else ([], 53)
theorem standL_mem : ∀ {l : List NI} {i : Nat} {st : List Opd}, standL i st l = true → ∀ x, x ∈ l → (x.kind = 2 ∧ isTextB x = true) ∨ (x.kind = 1 ∧ kindL x.name ≠ 0 ∧ isElementB x = true)
  | [], _, _, _, _, hx => by cases hx
  | y :: r, i, st, h, x, hx => by
    unfold standL at h
    split at h
    · cases h
    · split at h
      · rename_i hk
        split at h
        · rename_i ht
          rcases List.mem_cons.1 hx with rfl | hx
          · exact .inl ⟨hk, ht⟩
          · exact standL_mem h x hx
        · cases h
      · split at h
        · rename_i hk
          split at h
          · cases h
          · rename_i hkn
            split at h
            · rename_i hel
              split at h
              · split at h
                · cases h
                · rcases List.mem_cons.1 hx with rfl | hx
                  · exact .inr ⟨hk, hkn, hel⟩
                  · exact standL_mem h x hx
              · cases h
            · cases h
        · cases h
theorem kind_len {w : Bytes} (h : kindL w ≠ 0) : w.length ≤ 10 := by
  unfold kindL at h
  cases hf : kindTab.find? fun p => p.1 == w with
  | none => rw [hf] at h; exact absurd rfl h
  | some p =>
    have hm := List.mem_of_find?_eq_some hf
    have he : p.1 = w := by simpa using List.find?_some hf
    have : (kindTab.all fun p => decide (p.1.length ≤ 10)) = true := by decide
    have := List.all_eq_true.1 this p hm
    rw [← he]
    simpa using this
theorem mild_of {T : List NI} (h : rightB T = true) (hA : ∀ x, x ∈ T → ∀ a, a ∈ x.attrs → a.1.length ≤ 1048576) : ∀ x, x ∈ T → Mild x := by
  unfold rightB at h
  simp only [Bool.and_eq_true] at h
  obtain ⟨⟨⟨⟨h1, h2⟩, h3⟩, h4⟩, h5⟩ := h
  intro x hx
  have hsplit : x = T.getD 0 noNI ∨ x ∈ T.drop 1 := by
    cases T with
    | nil => cases hx
    | cons y r =>
      rcases List.mem_cons.1 hx with rfl | hx
      · exact .inl rfl
      · exact .inr hx
  rcases hsplit with e | hr
  · rw [← e] at h3
    unfold isRootB at h3
    simp only [Bool.and_eq_true, beq_iff_eq, List.isEmpty_iff] at h3
    obtain ⟨⟨⟨⟨k0, _⟩, kn⟩, _⟩, _⟩ := h3
    exact ⟨by rw [kn]; decide, hA x hx, fun e => by rw [k0] at e; cases e⟩
  · rcases standL_mem h5 x hr with ⟨hk, ht⟩ | ⟨hk, hkn, _⟩
    · unfold isTextB at ht
      simp only [Bool.and_eq_true, List.isEmpty_iff, Bool.not_eq_true'] at ht
      obtain ⟨⟨⟨kn, _⟩, kd⟩, _⟩ := ht
      exact ⟨by rw [kn]; decide, hA x hx, fun _ e => by rw [e] at kd; cases kd⟩
    · have := kind_len hkn
      exact ⟨by omega, hA x hx, fun e => by rw [hk] at e; cases e⟩

set_option maxRecDepth 100000 in
set_option maxHeartbeats 4000000 in
theorem dempty_any (w0 : World) (b : Nat) (lg : Bool) (W : World) (h : DocAt w0 b ([], lg) W) :
    Calls Tryd.prog 21 #[.pointer (some ⟨b, 0, none⟩)] W fun e w' => e = .returned (.string ⟨#[]⟩) ∧ Below w0.heap.size w0 w' := by
  obtain ⟨pa, bv, hB, hT⟩ := h.ex
  obtain ⟨_, rfl, _⟩ : pa = .pointer none ∧ bv = .slice none 0 0 ∧ True := by
    rcases hT with ⟨h1, h2, _⟩ | ⟨_, h2, _⟩
    · exact ⟨h1, h2, trivial⟩
    · exact absurd rfl h2
  have hbk := hB.blk
  have c1 : W.drew.cell? ⟨b, 1, none⟩ = some (.slice none 0 0) := (doc3 (W := W.drew) hbk).1.2.1
  have c2 : W.cell? ⟨b, 1, none⟩ = some (.slice none 0 0) := (doc3 hbk).1.2.1
  have hSD : (Builtin.unsafeSliceData_ #[29] 68 #[.slice none 0 0]).run Tryd.prog W.drew = .ok (.pointer none) W.drew := Lib.run_unsafeSliceData_nil _ _ _ _ _
  have hUS : (Builtin.unsafeString_ #[68, 3] 9 #[.pointer none, .int .i64 0]).run Tryd.prog W.drew = .ok (.string ⟨#[]⟩) W.drew := Lib.run_unsafeString_none _ _ _ _ _
  have HB1 := Lib.hid (hB.below.trans ((Below.refl W.heap.size W).drew.mono hB.below.size))
  clear h hB hbk hT
  go_enter Tryd.func21, Tryd.ntmps21
  go_big_wp2
  go_region
  all_goals (go_big_wp2; go_ret; exact ⟨rfl, HB1.out⟩)
theorem dtext_any (w0 : World) (b : Nat) (t : Bytes) (lg : Bool) (W : World) (h : DocAt w0 b (t, lg) W) :
    Calls Tryd.prog 21 #[.pointer (some ⟨b, 0, none⟩)] W fun e w' => e = .returned (.string ⟨t.toArray⟩) ∧ Below w0.heap.size w0 w' := by
  by_cases ht : t = []
  · subst ht; exact dempty_any w0 b lg W h
  · exact dstring_any w0 b t lg W ht h

set_option maxRecDepth 100000 in
set_option maxHeartbeats 4000000 in
theorem serialize_any (g o cap n : Nat) (T : List NI) (w : World) (hn : n = T.length) (h1 : 1 ≤ n) (hbig : n ≤ 9223372036854775807) (h : TreeIn w g o T) (hv : VTabs w) (hA : ∀ x, x ∈ T → ∀ a, a ∈ x.attrs → a.1.length ≤ 1048576) :
    Calls Tryd.prog 17 #[.slice (some ⟨g, o, none⟩) n cap] w fun e w' => e = .returned (.tuple #[.string ⟨(serialL T).1.toArray⟩, .int .i64 (((serialL T).2 : Nat) : Int)]) ∧ Below w.heap.size w w' := by
  have hb1 : Below w.heap.size w (w.alloc (.cells #[.slice (some ⟨g, o, none⟩) n cap] TTr)) := (Below.refl _ _).alloc (Nat.le_refl _) _
  have hl1 := heap_alloc_new w (.cells #[.slice (some ⟨g, o, none⟩) n cap] TTr)
  have hR := right_any g o cap n T (w.alloc (.cells #[.slice (some ⟨g, o, none⟩) n cap] TTr)) hn h1 hbig (h.on hb1) (hv.on hb1)
  have z1 : (w.alloc (.cells #[.slice (some ⟨g, o, none⟩) n cap] TTr)).cell? ⟨w.heap.size, 0, none⟩ = some (.slice (some ⟨g, o, none⟩) n cap) := by rw [cell_of_row _ _ 0 _ _ _ hl1]; rfl
  obtain ⟨W1, hW1⟩ : ∃ W1, w.alloc (.cells #[.slice (some ⟨g, o, none⟩) n cap] TTr) = W1 := ⟨_, rfl⟩
  rw [hW1] at hb1 hl1 hR z1
  cases hr : rightB T with
  | false =>
    have e : serialL T = ([], 53) := by unfold serialL; rw [hr, if_neg (by decide)]
    rw [e]
    have hr53 : rightE T = 53 := by unfold rightE; rw [hr]; rfl
    rw [hr53] at hR
    have HR := Lib.hid hR
    have HB1 := Lib.hid hb1
    clear hR hb1 hl1 e hr53 hr h hA hn hv
    go_enter Tryd.func17, Tryd.ntmps17
    go_big_wp2_with (go_at_call 26; refine HR.out.mono ?_; rintro e w2 ⟨rfl, hb2⟩)
    go_ret2
    exact ⟨rfl, HB1.out.trans (hb2.mono HB1.out.size)⟩
  | true =>
    have hr0 : rightE T = 0 := by unfold rightE; rw [hr]; rfl
    rw [hr0] at hR
    have hmild := mild_of hr hA
    have hr' := hr
    unfold rightB at hr'
    simp only [Bool.and_eq_true, decide_eq_true_eq] at hr'
    obtain ⟨⟨⟨⟨_, hlim⟩, _⟩, hhave⟩, _⟩ := hr'
    have hkids := haveKids_in hhave
    have HWr := Lib.hid fun (b bx cl : Nat) (W : World) (hD : DocAt w b ([], false) W) (hC : Caught b bx cl g o n cap W) => write_any w b bx cl g o n cap T hn (by omega) h hkids hmild n 0 ([], false) W (by omega) (by omega) (by decide) hD hC
    obtain ⟨out, lg, hres⟩ : ∃ out lg, writeF T n 0 ([], false) = (out, lg) := ⟨_, _, rfl⟩
    rw [hres] at HWr
    have e : serialL T = if lg = true then ([], 3) else (out, 0) := by unfold serialL; rw [hr, if_pos rfl, ← hn, hres]
    rw [e]
    have HR := Lib.hid hR
    have HB1 := Lib.hid (And.intro hb1 hl1)
    have eg : ∀ args w, (callFunc 27 args).run Tryd.prog w = .ok (.enter 27 args) w := enters_of Tryd.func27 (by kernel_rfl) rfl
    have HSet : Hid (∀ w2 : World, Below W1.heap.size W1 w2 → DocAt w w2.heap.size ([], false) ((w2.alloc (.cells #[.pointer none, .slice none 0 0, .bool false] TDc)).alloc (.cells #[.func (.func 27) #[] #[.pointer (some ⟨w2.heap.size, 0, none⟩), .pointer (some ⟨w.heap.size, 0, none⟩), .pointer (some ⟨w2.heap.size + 1, 0, none⟩)]] TFn)) ∧ Caught w2.heap.size w.heap.size (w2.heap.size + 1) g o n cap ((w2.alloc (.cells #[.pointer none, .slice none 0 0, .bool false] TDc)).alloc (.cells #[.func (.func 27) #[] #[.pointer (some ⟨w2.heap.size, 0, none⟩), .pointer (some ⟨w.heap.size, 0, none⟩), .pointer (some ⟨w2.heap.size + 1, 0, none⟩)]] TFn))) := Lib.hid fun w2 hb2 => by
      have hbw := HB1.out.1.trans (hb2.mono HB1.out.1.size)
      have hlt : w.heap.size < w2.heap.size := Nat.lt_of_lt_of_le (Array.getElem?_eq_some_iff.1 HB1.out.2).1 hb2.size
      have ba : Below w2.heap.size w2 (w2.alloc (.cells #[.pointer none, .slice none 0 0, .bool false] TDc)) := (Below.refl _ _).alloc (Nat.le_refl _) _
      have la := heap_alloc_new w2 (.cells #[.pointer none, .slice none 0 0, .bool false] TDc)
      have hsz : (w2.alloc (.cells #[.pointer none, .slice none 0 0, .bool false] TDc)).heap.size = w2.heap.size + 1 := by simp
      generalize w2.alloc (.cells #[.pointer none, .slice none 0 0, .bool false] TDc) = w3 at *
      have bb : Below w3.heap.size w3 (w3.alloc (.cells #[.func (.func 27) #[] #[.pointer (some ⟨w2.heap.size, 0, none⟩), .pointer (some ⟨w.heap.size, 0, none⟩), .pointer (some ⟨w2.heap.size + 1, 0, none⟩)]] TFn)) := (Below.refl _ _).alloc (Nat.le_refl _) _
      have lb := heap_alloc_new w3 (.cells #[.func (.func 27) #[] #[.pointer (some ⟨w2.heap.size, 0, none⟩), .pointer (some ⟨w.heap.size, 0, none⟩), .pointer (some ⟨w2.heap.size + 1, 0, none⟩)]] TFn)
      rw [hsz] at lb
      have hd : DocB w w2.heap.size (.pointer none) (.slice none 0 0) false w3 := ⟨hbw.trans (ba.mono hbw.size), hbw.size, la⟩
      refine ⟨⟨.pointer none, .slice none 0 0, hd.on bb, .inl ⟨rfl, rfl, rfl⟩⟩, ⟨?_, lb, by omega, by omega⟩⟩
      rw [bb.block _ (by omega), ba.block _ hlt, hb2.block _ (Array.getElem?_eq_some_iff.1 HB1.out.2).1]
      exact HB1.out.2
    have HWs : Hid (∀ (b bx cl : Nat) (W : World), DocAt w b ([], false) W → Caught b bx cl g o n cap W → Calls Tryd.prog 27 #[.int .i64 0, .pointer (some ⟨b, 0, none⟩), .pointer (some ⟨bx, 0, none⟩), .pointer (some ⟨cl, 0, none⟩)] W fun e w' => e = .returned (.tuple #[]) ∧ DocAt w b (out, lg) w' ∧ KeepD b W w') := Lib.hid fun b bx cl W hD hC => HWr.out b bx cl W hD hC
    clear hR hb1 hl1 e hr0 hr h hA hn hv hmild hkids hhave hlim hres
    cases lg with
    | true =>
      go_enter Tryd.func17, Tryd.ntmps17
      go_big_wp2_with (first
        | (go_at_call 26
           go_loud (
             refine HR.out.mono ?_
             rintro e w2 ⟨rfl, hb2⟩
             have HS := Lib.hid (HSet.out w2 hb2)
             have HB2 := Lib.hid (HB1.out.1.trans (hb2.mono HB1.out.1.size))
             clear hb2))
        | (go_at_fn 27
           go_loud (
             refine (HWs.out _ _ _ _ HS.out.1 HS.out.2).mono ?_
             rintro e w3 ⟨rfl, hD3, hK3⟩
             obtain ⟨pa, bv, hB3, _⟩ := hD3.ex
             obtain ⟨⟨x0, x1, x2⟩, y0, y1, y2⟩ := doc3 hB3.blk
             have HD3 := Lib.hid hD3
             clear hD3 hK3 hB3))
        | (go_at_call 21; refine (dtext_any w _ out false w3 HD3.out).mono ?_; rintro e w4 ⟨rfl, hb4⟩))
      go_ret2
      exact ⟨rfl, HD3.out.below⟩
    | false =>
      go_enter Tryd.func17, Tryd.ntmps17
      go_big_wp2_with (first
        | (go_at_call 26
           go_loud (
             refine HR.out.mono ?_
             rintro e w2 ⟨rfl, hb2⟩
             have HS := Lib.hid (HSet.out w2 hb2)
             have HB2 := Lib.hid (HB1.out.1.trans (hb2.mono HB1.out.1.size))
             clear hb2))
        | (go_at_fn 27
           go_loud (
             refine (HWs.out _ _ _ _ HS.out.1 HS.out.2).mono ?_
             rintro e w3 ⟨rfl, hD3, hK3⟩
             obtain ⟨pa, bv, hB3, _⟩ := hD3.ex
             obtain ⟨⟨x0, x1, x2⟩, y0, y1, y2⟩ := doc3 hB3.blk
             have HD3 := Lib.hid hD3
             clear hD3 hK3 hB3))
        | (go_at_call 21; refine (dtext_any w _ out false w3 HD3.out).mono ?_; rintro e w4 ⟨rfl, hb4⟩))
      go_ret2
      exact ⟨rfl, hb4⟩
end Go.Proofs.YtkfmfldkllkcbabDoor

