/-
  The reader of package csstok: took, comments. Conditions: signs are of ASCII.
-/
import Derived.Test.YtmhdocgoeahbdaaGreatDoorQNum
namespace Go.CssKit
open Go Go.Lib
theorem starts_step (l : Chars) (c : UInt8) (r : List UInt8) (i : Nat) : startsC l (c :: r) i = if at_ l i = ((c.toNat : Nat) : Int) then startsC l r (i + 1) else false := rfl
end Go.CssKit
namespace Go.Proofs.YtmhdocgoeahbdaaGreatDoor
open Go.RowKit Go.RunKit Go.UtfKit Go.Lib Go.CssKit

theorem ascii_decode {s : ByteArray} {k : Nat} (hk : k < s.size) (h : (s[k]'hk).toNat < 128) : Utf8.decode s k = ((s[k]'hk).toNat, 1) := by
  have hb : byteAt s k = (s[k]'hk).toNat := by
    unfold byteAt ByteArray.get!
    simp [hk]
    rfl
  have hc : cutAt s k = ⟨(s[k]'hk).toNat, 1, true⟩ := by
    unfold cutAt cutN
    rw [hb, if_pos h]
  rw [decode_at_cut, hc]
  rfl
theorem drop_byte {s : ByteArray} {k : Nat} (hk : k < s.size) : s.data.toList.drop k = s[k]'hk :: s.data.toList.drop (k + 1) := by
  have hl : k < s.data.toList.length := by simpa using hk
  rw [List.drop_eq_getElem_cons hl]
  rfl
theorem beside_cell {n0 : Nat} {w w' : World} (hb : U.Beside n0 w w') {a : Addr} {v : Value} (h : w.cell? a = some v) : w'.cell? a = some v := by
  unfold World.cell? at h ⊢
  cases hh : w.heap[a.block]? with
  | none => rw [hh] at h; cases h
  | some o =>
    rw [hh] at h
    cases o with
    | cells c t fr => rw [hb.cells _ _ _ _ hh]; exact h
    | _ => cases h
theorem MC.iterAt {w wr : World} {b g : Nat} {l : Chars} {s : ByteArray} {p : Nat} (h : MC w b g l wr) {kI : Nat} (hk : wr.heap[kI]? = some (Obj.stringIter s p)) (hkI : w.heap.size ≤ kI) (p' : Nat) : MC w b g l (wr.iterAt kI s p') := by
  have hb := U.Beside.iterAt (n0 := w.heap.size) (pos' := p') hk hkI
  obtain ⟨ao, cap, h1, h2, h3, h4⟩ := h.rest.ex
  refine ⟨⟨hb.os.trans h.grown.os, hb.tape.trans h.grown.tape, hb.output.trans h.grown.output, Nat.le_trans h.grown.size hb.size, fun k hk hn => (hb.low k hk).trans (h.grown.block k hk hn)⟩, ⟨⟨ao, cap, hb.cells _ _ _ _ h1, h2, h3, fun a ha => ?_⟩, h.rest.ne, h.rest.len, Nat.lt_of_lt_of_le h.rest.lt hb.size, h.rest.ok⟩⟩
  obtain ⟨o, e, hc⟩ := h4 a ha
  exact ⟨o, e, fun j z hz => beside_cell hb (hc j z hz)⟩
set_option maxRecDepth 100000 in
set_option maxHeartbeats 2000000 in
theorem took7_any (b g : Nat) (l : Chars) (sign : ByteArray) (w : World) (h : RC w b g l) (hasc : ∀ x, x ∈ sign.data.toList → x.toNat < 128) (hsz : sign.size ≤ 1000) :
    Calls Tryz.prog 43 #[.pointer (some ⟨b, 0, none⟩), .string sign] w fun e w' => e = .returned (.bool (startsC l sign.data.toList 0)) ∧ MC w b g (if startsC l sign.data.toList 0 = true then l.drop sign.size else l) w' := by
  obtain ⟨ans, hans⟩ : ∃ x, startsC l sign.data.toList 0 = x := ⟨_, rfl⟩
  have hbI : Below w.heap.size w (w.iter sign 0) := (Below.refl _ _).alloc (Nat.le_refl _) _
  have M0 : Hid (MC w b g l (w.iter sign 0)) := Lib.hid ((MC.refl h).on hbI)
  have D0 : Hid (startsC l (sign.data.toList.drop 0) 0 = ans) := Lib.hid (by rw [List.drop_zero]; exact hans)
  have HA := Lib.hid hasc
  have hk : (w.iter sign 0).heap[w.heap.size]? = some (Obj.stringIter sign 0) := World.iter_heap _ _ _
  rw [hans]
  clear h hans hasc hbI
  go_enter Tryz.func43, Tryz.ntmps43
  go_wp2
  generalize w.iter sign 0 = W at *
  obtain ⟨kI, hkI⟩ : ∃ k, w.heap.size = k := ⟨_, rfl⟩
  rw [hkI] at hk
  rw [hkI]
  have HK := Lib.hid hkI
  clear hkI
  go_loopw [5, 6] (fun _ _ wr => ∃ pos : Nat, pos ≤ sign.size ∧ wr.heap[kI]? = some (Obj.stringIter sign pos) ∧ Hid (startsC l (sign.data.toList.drop pos) pos = ans) ∧ Hid (MC w b g l wr)) (fun _ _ wr => sign.size - wr.iterPos kI)
  case atStart => exact ⟨0, Nat.zero_le _, hk, D0, M0⟩
  case round =>
    clear hk D0 M0
    obtain ⟨pos, hpos, hk, HD, HM⟩ := hrel
    by_cases hlt : pos < sign.size
    · have hnext := fun ty => run_next_any_at (P := Tryz.prog) wr kI sign pos ty hk hlt
      obtain ⟨x, hx⟩ : ∃ x : UInt8, sign[pos]'hlt = x := ⟨_, rfl⟩
      have hxa : x.toNat < 128 := HA.out x (by rw [← hx]; exact Array.getElem_mem_toList (by exact hlt))
      rw [ascii_decode hlt (by rw [hx]; exact hxa), hx] at hnext
      have hd := drop_byte hlt
      rw [hx] at hd
      have hst := HD.out
      rw [hd, starts_step] at hst
      have HM2 := Lib.hid (HM.out.iterAt hk (by rw [HK.out]; exact Nat.le_refl _) (pos + 1))
      have hk2 := iterAt_heap wr kI sign pos (pos + 1) hk
      have HKr := Lib.hid hk
      have HK2 := Lib.hid hk2
      have H0 := Lib.hid (fun W h => at_any b g pos l W h (by omega))
      clear hd hk hk2 hx
      by_cases he : at_ l pos = ((x.toNat : Nat) : Int)
      · rw [if_pos he] at hst
        have HS := Lib.hid hst
        rw [he] at H0
        clear hst he
        go_big_wp2_with (go_at_call 70; refine (H0.out _ HM2.out.rest).mono ?_; rintro e w1 ⟨rfl, rfl⟩)
        refine ⟨⟨pos + 1, by omega, HK2.out, HS, HM2⟩, ?_⟩
        unfold World.iterPos
        rw [HK2.out, HKr.out]
        simp only []
        omega
      · rw [if_neg he] at hst
        subst hst
        generalize at_ l pos = y at *
        have b1 : (y != ((x.toNat : Nat) : Int)) = true := by rw [bne_iff_ne]; exact he
        go_big_wp2_with (go_at_call 70; refine (H0.out _ HM2.out.rest).mono ?_; rintro e w1 ⟨rfl, rfl⟩)
        go_ret
        exact ⟨rfl, HM2.out⟩
    · have hnext := fun ty => run_next_end_at (P := Tryz.prog) wr kI sign pos ty hk hlt
      have hst := HD.out
      rw [List.drop_eq_nil_of_le (by simpa using Nat.le_of_not_lt hlt)] at hst
      obtain rfl : ans = true := hst.symm
      have HP := Lib.hid (fun W h => pass_any b g sign.size l W h (by omega))
      clear hst
      go_big_wp2_with (go_at_call 44; refine (HP.out _ HM.out.rest).mono ?_; rintro e w1 ⟨rfl, hm⟩)
      go_ret
      exact ⟨rfl, HM.out.trans hm⟩
end Go.Proofs.YtmhdocgoeahbdaaGreatDoor
