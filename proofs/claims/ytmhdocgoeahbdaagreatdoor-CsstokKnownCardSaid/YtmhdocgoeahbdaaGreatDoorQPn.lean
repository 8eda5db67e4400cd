/-
  The printer of package csstok: names. Conditions: texts are no longer than 2^46 bytes; the library's two tables hold what its text lays; escape writes what it should of those characters that are escaped.
-/
import Derived.Test.YtmhdocgoeahbdaaGreatDoorQMis
namespace Go.CssKit
open Go Go.Lib Go.UtfKit
/-- A character by its number. -/
def hexF : Nat → Nat → List UInt8
  | 0, _ => []
  | f + 1, n => (if n < 16 then [] else hexF f (n / 16)) ++ [(if n % 16 < 10 then UInt8.ofNat (48 + n % 16) else UInt8.ofNat (55 + n % 16))]
def escT (z : Int) : List UInt8 := 92 :: (hexF 9 z.toNat ++ [32])
/-- A name as it is written. -/
def nameW (mis : Nat → Bool) : Nat → Chars → List UInt8
  | _, [] => []
  | i, z :: r => (if (!nameC z || mis i) = true then escT z else encodeRune z) ++ nameW mis (i + 1) r
theorem hexF_len : ∀ f n, (hexF f n).length ≤ f
  | 0, _ => Nat.le_refl _
  | f + 1, n => by
    have := hexF_len f (n / 16)
    unfold hexF
    split <;> simp
    omega
theorem escT_len (z : Int) : (escT z).length ≤ 11 := by have := hexF_len 9 z.toNat; unfold escT; simp; omega
theorem enc_len (z : Int) : (encodeRune z).length ≤ 4 := by
  have h1 := (encodeRuneZ_length z)
  have h2 : (encodeRune z).length = (encodeRuneZ z).length := by simp [encodeRune]
  omega
end Go.CssKit
namespace Go.Proofs.YtmhdocgoeahbdaaGreatDoor
open Go.RowKit Go.RunKit Go.UtfKit Go.Lib Go.CssKit

theorem keep_below {b : Nat} {w w' : World} (h : Below w.heap.size w w') : KeepP b w w' := fun k _ hk _ _ => (h.block k (Array.getElem?_eq_some_iff.1 hk).1).trans hk
/-- A row of characters of one's own, seen. -/
theorem OwnC.see {w : World} {base : Nat} {v : Value} {l : Chars} (h : OwnC w base v l) (hl : l ≠ []) :
    ∃ g cap cur fr, v = .slice (some ⟨g, 0, none⟩) l.length cap ∧ SeeC w g 0 l ∧ l.length ≤ cap ∧ base ≤ g ∧ w.heap[g]? = some (.cells cur 21 fr) := by
  rcases h.2 with ⟨e, e2⟩ | ⟨g, cap, cur, e, hg, hc, hcap, _⟩
  · exact absurd (List.length_eq_zero_iff.1 e2) hl
  · obtain ⟨a2, cap2, e3, _, h4⟩ := OwnC.slice h
    rw [e] at e3
    simp only [Value.slice.injEq] at e3
    obtain ⟨rfl, _, rfl⟩ := e3
    obtain ⟨g2, o2, e5, h5⟩ := h4 _ rfl
    simp only [Addr.mk.injEq] at e5
    obtain ⟨rfl, rfl, _⟩ := e5
    exact ⟨g, cap, cur, _, e, ⟨h5⟩, hcap, hg, hc⟩
theorem SeeC.kept {w w' : World} {g b : Nat} {l : Chars} {cur : Array Value} {fr : Nat × Nat} (h : SeeC w g 0 l) (hg : w.heap[g]? = some (.cells cur 21 fr)) (hb : g ≠ b) (hk : KeepP b w w') : SeeC w' g 0 l := by
  refine ⟨fun j z hz => ?_⟩
  have h1 := hk g _ hg (fun e => hb (Option.some.inj e)) (fun c fz e => by simp only [Obj.cells.injEq] at e; exact absurd e.2.1 (by decide))
  have h2 := h.cell j z hz
  unfold World.cell? at h2 ⊢
  rw [hg] at h2
  rw [h1]
  exact h2
theorem PrAt.lt {w0 W : World} {b : Nat} {s : List UInt8} {t : CT} (h : PrAt w0 b s t W) : b < W.heap.size := by
  obtain ⟨_, _, h1, _⟩ := h.ex
  exact (Array.getElem?_eq_some_iff.1 h1.blk).1
/-- What escape is asked for. -/
def EscAs (w0 : World) (b : Nat) (t : CT) (z : Int) : Prop := ∀ (s : List UInt8) (W : World), s.length + 11 ≤ 70368744177664 → PrAt w0 b s t W →
  Calls Tryz.prog 86 #[.pointer (some ⟨b, 0, none⟩), .int .i32 z] W fun e w' => e = .returned (.tuple #[]) ∧ PrAt w0 b (s ++ escT z) t w' ∧ KeepP b W w'
/-- What is asked of a function that is asked whether a character would be misread. -/
structure MisAs (f : Nat) (cs : Chars) (mis : Nat → Bool) : Prop where
  enters : ∀ args w, (callFunc f args).run Tryz.prog w = .ok (.enter f args) w
  tells : ∀ (g cap i : Nat) (W : World), SeeC W g 0 cs → cs.length ≤ cap → i < cs.length → Calls Tryz.prog f #[.slice (some ⟨g, 0, none⟩) cs.length cap, .int .i64 ((i : Nat) : Int)] W fun e w' => e = .returned (.bool (mis i)) ∧ W = w'

set_option maxRecDepth 100000 in
set_option maxHeartbeats 8000000 in
theorem name_any (w0 : World) (b : Nat) (v : ByteArray) (f : Nat) (mis : Nat → Bool) (s : List UInt8) (t : CT) (W : World) (ht : U.Tabs W) (hv : v.size ≤ 1073741824)
    (hf : MisAs f (codes v) mis) (hE : ∀ i z, (codes v)[i]? = some z → (!nameC z || mis i) = true → EscAs w0 b t z)
    (hlen : s.length + 11 * v.size ≤ 70368744177664) (h : PrAt w0 b s t W) :
    Calls Tryz.prog 58 #[.pointer (some ⟨b, 0, none⟩), .string v, .func (.func f) #[] #[]] W fun e w' => e = .returned (.tuple #[]) ∧ PrAt w0 b (s ++ nameW mis 0 (codes v)) t w' ∧ KeepP b W w' := by
  have HR := Lib.hid (U.runes_any v W ht (by omega))
  have hcl := codes_len v
  have hok : ∀ z, z ∈ codes v → 0 ≤ z ∧ (z < 55296 ∨ (57343 < z ∧ z ≤ 1114111)) := fun z hz => codes_char hz
  have HEl := Lib.hid (charCells_codes v)
  obtain ⟨cs, hcs⟩ : ∃ x, codes v = x := ⟨_, rfl⟩
  have hpl : (parts v).length = cs.length := by rw [← hcs]; unfold codes; rw [List.length_map]
  rw [hcs] at hcl HEl hok hf hE ⊢
  rw [hpl, HEl.out] at HR
  obtain ⟨ans, hans⟩ : ∃ x, s ++ nameW mis 0 cs = x := ⟨_, rfl⟩
  rw [hans]
  have D0 : Hid (s ++ nameW mis 0 (cs.drop 0) = ans) := Lib.hid (by rw [List.drop_zero]; exact hans)
  have hl2 : s.length + 11 * (cs.length - 0) ≤ 70368744177664 := by omega
  have HEsc := Lib.hid hE
  have HMis := Lib.hid hf
  have HOk := Lib.hid hok
  have hcl2 : cs.length ≤ 1073741824 := by omega
  have HP := Lib.hid h
  have eg := hf.enters
  clear ht hans hcs hpl HEl hE hf hok hlen h hcl
  go_enter Tryz.func58, Tryz.ntmps58
  go_wp2_with (go_at_call 33; refine HR.out.mono ?_; clear HR; rintro e w1 ⟨v1, rfl, hown, hb⟩; have HOw := Lib.hid (show OwnC w1 W.heap.size v1 cs from hown); have HB1 := Lib.hid hb; obtain ⟨ao, acap, hsl, hna, hra⟩ := OwnC.slice (l := cs) hown; subst hsl; clear hown hb hna hra)
  have P0 := Lib.hid (And.intro (HP.out.on HB1.out) (Lib.OthersKept.refl TQ8 (some b) w1))
  have HLt := Lib.hid HP.out.lt
  have HKb : Hid (KeepP b W w1) := Lib.hid (keep_below HB1.out)
  clear HP
  go_loopw [13] (fun i wr => ∃ (k : Nat) (s' : List UInt8), i = .int .i64 ((k : Nat) : Int) ∧ k ≤ cs.length ∧ s'.length + 11 * (cs.length - k) ≤ 70368744177664 ∧ Hid (PrAt w0 b s' t wr ∧ KeepP b w1 wr) ∧ Hid (s' ++ nameW mis k (cs.drop k) = ans)) (fun i _ => cs.length - (RowKit.intOf i).toNat)
  case atStart => exact ⟨0, s, rfl, Nat.zero_le _, hl2, P0, D0⟩
  case round =>
    clear P0 D0 hl2
    obtain ⟨k, s', rfl, hk, hl', HP, HD⟩ := hrel
    by_cases hlt : k < cs.length
    · obtain ⟨z, hz⟩ := some_at (l := cs) rfl hlt
      have hd : cs.drop k = z :: cs.drop (k + 1) := by rw [List.drop_eq_getElem_cons hlt]; rw [List.getElem?_eq_getElem hlt] at hz; cases hz; rfl
      have hst := HD.out
      rw [hd, nameW] at hst
      obtain ⟨g, cap2, cur, fr, e1, hsee, hcap, hge, hgb⟩ := OwnC.see HOw.out (by intro e; rw [e] at hlt; simp at hlt)
      simp only [Value.slice.injEq] at e1
      obtain ⟨rfl, _, rfl⟩ := e1
      have hgb2 : g ≠ b := by have := HLt.out; omega
      have hsr := hsee.kept hgb hgb2 HP.out.2
      have hcell : wr.cell? ⟨g, k, none⟩ = some (.int .i32 z) := by
        have := hsr.cell k z hz
        rwa [Nat.zero_add] at this
      have hltI : (k : Int) < cs.length := by omega
      have HN := Lib.hid (isOfName_any z)
      have HF := Lib.hid (HMis.out.tells g acap k wr hsr hcap hlt)
      have hz1 := HOk.out z (List.mem_of_getElem? hz)
      have hle := escT_len z
      have hle2 := enc_len z
      have HEz := Lib.hid (fun hm => HEsc.out k z hz hm s' wr (by omega) HP.out.1)
      have HW := Lib.hid (prune_any w0 b z (by omega) (by omega) s' t wr (by omega) HP.out.1)
      have HK := Lib.hid HP.out.2
      clear hd hsee hge hgb hgb2 hsr hz HP HD
      generalize nameC z = p at *
      generalize mis k = q at *
      by_cases hm : (!p || q) = true
      · rw [if_pos hm] at hst
        have HS : Hid ((s' ++ escT z) ++ nameW mis (k + 1) (cs.drop (k + 1)) = ans) := Lib.hid (by rw [List.append_assoc]; exact hst)
        have HE := Lib.hid (HEz.out hm)
        have hl2 : (s' ++ escT z).length + 11 * (cs.length - (k + 1)) ≤ 70368744177664 := by rw [List.length_append]; omega
        clear hst HEz HW
        cases p
        · clear HF
          go_big_wp2_with (first
            | (go_at_call 72; refine (HN.out _).mono ?_; rintro e w2 ⟨rfl, rfl⟩)
            | (go_at_call 86; refine HE.out.mono ?_; clear HE; rintro e w2 ⟨rfl, hp2, hk2⟩; have HP2 := Lib.hid (And.intro hp2 (HK.out.trans hk2)); clear hp2 hk2))
          exact ⟨⟨k + 1, _, by go_num, by omega, hl2, HP2, HS⟩, by simp [RowKit.intOf]; omega⟩
        · obtain rfl : q = true := by simpa using hm
          go_big_wp2_with (first
            | (go_at_call 72; refine (HN.out _).mono ?_; rintro e w2 ⟨rfl, rfl⟩)
            | (go_at_call 86; refine HE.out.mono ?_; clear HE; rintro e w2 ⟨rfl, hp2, hk2⟩; have HP2 := Lib.hid (And.intro hp2 (HK.out.trans hk2)); clear hp2 hk2)
            | (go_at_fn f; refine HF.out.mono ?_; rintro e w2 ⟨rfl, rfl⟩))
          exact ⟨⟨k + 1, _, by go_num, by omega, hl2, HP2, HS⟩, by simp [RowKit.intOf]; omega⟩
      · rw [if_neg hm] at hst
        have HS : Hid ((s' ++ encodeRune z) ++ nameW mis (k + 1) (cs.drop (k + 1)) = ans) := Lib.hid (by rw [List.append_assoc]; exact hst)
        have hl2 : (s' ++ encodeRune z).length + 11 * (cs.length - (k + 1)) ≤ 70368744177664 := by rw [List.length_append]; omega
        clear hst HEz
        obtain ⟨rfl, rfl⟩ : p = true ∧ q = false := by simpa using hm
        go_big_wp2_with (first
          | (go_at_call 72; refine (HN.out _).mono ?_; rintro e w2 ⟨rfl, rfl⟩)
          | (go_at_call 87; refine HW.out.mono ?_; clear HW; rintro e w2 ⟨⟨n2, rfl⟩, hp2, hk2⟩; have HP2 := Lib.hid (And.intro hp2 (HK.out.trans hk2)); clear hp2 hk2)
          | (go_at_fn f; refine HF.out.mono ?_; rintro e w2 ⟨rfl, rfl⟩))
        exact ⟨⟨k + 1, _, by go_num, by omega, hl2, HP2, HS⟩, by simp [RowKit.intOf]; omega⟩
    · have hkl : k = cs.length := by omega
      subst hkl
      have hst := HD.out
      rw [List.drop_length, nameW, List.append_nil] at hst
      subst hst
      go_wp2
      go_end0
      exact ⟨rfl, HP.out.1, HKb.out.trans HP.out.2⟩
end Go.Proofs.YtmhdocgoeahbdaaGreatDoor
