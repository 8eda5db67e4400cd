/-
  The document's Decode, walked: it tells the bytes. Conditions: the slice reads as the text, which is no longer than 65536 bytes.
-/
import Derived.Test.YtcafejjejcchlaaDoorURefD
namespace Go.Proofs.YtcafejjejcchlaaDoor
open Go.RowKit Go.RunKit Go.UtfKit Go.Lib

theorem enc_fffd : encodeRune 65533 = [239, 191, 189] := by decide
theorem enc_lf : encodeRune 10 = [10] := by decide
theorem st_len (d : List Part) : (st d).2.length ≤ 4 * d.length := by
  have h : ∀ (d : List Part) (m : Bool) (l : List UInt8), (d.foldl takeByte (m, l)).2.length ≤ l.length + 4 * d.length := by
    intro d
    induction d with
    | nil => intro m l; simp
    | cons p r ih =>
      intro m l
      simp only [List.foldl_cons, List.length_cons]
      refine Nat.le_trans (ih _ _) ?_
      have h1 := encodeRuneZ_length_le ((p.char : Nat) : Int)
      have h2 : (encodeRune ((p.char : Nat) : Int)).length = (encodeRuneZ ((p.char : Nat) : Int)).length := by simp [encodeRune]
      have h3 : (encodeRune 10).length ≤ 4 := by decide
      simp only
      repeat' split
      all_goals (try simp only [List.length_append])
      all_goals omega
  have := h d false []
  simpa [st] using this

theorem Head.bound {w0 : World} {s : ByteArray} {d : List Part} {pos m cap : Nat} {b : Option Addr} {w : World} (h : Head w0 s d pos m cap b w) (hs : s.size ≤ 65536) : m ≤ 262144 := by
  have h1 := parts_len s (s.size - 0) 0
  change (parts s).length ≤ _ at h1
  rw [← h.split] at h1
  have h2 := h.row.1
  rw [byteCells_length] at h2
  have h3 := st_len d
  simp at h1
  omega
theorem Head.grown {w0 : World} {s : ByteArray} {d : List Part} {pos m cap : Nat} {b : Option Addr} {wr w1 W2 W : World} (h : Head w0 s d pos m cap b wr) (hb1 : Below wr.heap.size wr w1) (hb2 : Below w1.heap.size w1 W2)
    (hg : W2.grownBy W (Value.slice b m cap).ownBlock) : Below w0.heap.size w0 W := by
  have hz := h.below.size
  have hz1 := hb1.size
  have hz2 := hb2.size
  exact ((h.below.trans (hb1.mono hz)).trans (hb2.mono (by omega))).grown hg (by omega) (fun k hk => by have := (World.ownsRow.lt h.row k hk).1; omega)
theorem Head.kept {w0 : World} {s : ByteArray} {d : List Part} {pos m cap : Nat} {b : Option Addr} {wr w1 W2 W : World} (h : Head w0 s d pos m cap b wr) (hb1 : Below wr.heap.size wr w1) (hlt : w1.heap.size < W2.heap.size)
    (hg : W2.grownBy W (Value.slice b m cap).ownBlock) : W.heap[w1.heap.size]? = W2.heap[w1.heap.size]? := by
  refine hg.block _ hlt ?_
  intro e
  have := (World.ownsRow.lt h.row _ e.symm).2
  have := hb1.size
  omega
theorem Head.next {w0 : World} {s : ByteArray} {d : List Part} {pos m cap : Nat} {b : Option Addr} {wr : World} (h : Head w0 s d pos m cap b wr) (hp : pos < s.size) {m' cap' : Nat} {b' : Option Addr} {W : World} {new : List UInt8} {mark : Bool}
    (hst : st (d ++ [cutAt s pos]) = (mark, (st d).2 ++ new)) (hrow : W.ownsRow w0.heap.size 5 1 (.slice b' m' cap') m' (byteCells (st d).2 ++ byteCells new)) (hb : Below w0.heap.size w0 W)
    (hcalm : mark = true → pos + (cutAt s pos).len < s.size → (cutAt s (pos + (cutAt s pos).len)).char ≠ 10) : Head w0 s (d ++ [cutAt s pos]) (pos + (cutAt s pos).len) m' cap' b' W := by
  refine ⟨?_, ?_, ?_, hb⟩
  · rw [List.append_assoc]
    have := h.split
    rw [partsFrom_step s pos hp] at this
    exact this
  · rw [hst]
    simpa [byteCells] using hrow
  · unfold Calm
    rw [hst]
    exact hcalm
theorem Head.next2 {w0 : World} {s : ByteArray} {d : List Part} {pos m cap : Nat} {b : Option Addr} {wr : World} (h : Head w0 s d pos m cap b wr) (hp : pos < s.size) {m' cap' : Nat} {b' : Option Addr} {W : World}
    (hcr : cutAt s pos = ⟨13, 1, true⟩) (hp1 : pos + 1 < s.size) (hlf : cutAt s (pos + 1) = ⟨10, 1, true⟩)
    (hrow : W.ownsRow w0.heap.size 5 1 (.slice b' m' cap') m' (byteCells (st d).2 ++ byteCells [10])) (hb : Below w0.heap.size w0 W) :
    Head w0 s (d ++ [⟨13, 1, true⟩, ⟨10, 1, true⟩]) (pos + 2) m' cap' b' W := by
  have e1 : st (d ++ [(⟨13, 1, true⟩ : Part)]) = (true, (st d).2 ++ encodeRune 10) := by rw [← hcr]; exact cr_takes (by rw [hcr])
  have e2 : st (d ++ [⟨13, 1, true⟩, ⟨10, 1, true⟩]) = (false, (st d).2 ++ encodeRune 10) := by
    have : d ++ [(⟨13, 1, true⟩ : Part), ⟨10, 1, true⟩] = (d ++ [⟨13, 1, true⟩]) ++ [⟨10, 1, true⟩] := by simp
    rw [this, lf_takes (by rw [e1]), e1]
  refine ⟨?_, ?_, ?_, hb⟩
  · have := h.split
    rw [partsFrom_step s pos hp, hcr, partsFrom_step s (pos + 1) hp1, hlf] at this
    simpa using this
  · rw [e2]
    have : encodeRune 10 = [10] := by decide
    rw [this]
    simpa [byteCells] using hrow
  · unfold Calm
    rw [e2]
    intro h; cases h

set_option maxRecDepth 100000 in
set_option maxHeartbeats 4000000 in
theorem refDecode_any (a : Option Addr) (cap : Nat) (s : ByteArray) (w : World) (hs : s.size ≤ 65536) (hcv : (convert 22 9 (.slice a s.size cap)).run Tryd.prog w = .ok (.string s) w) :
    Calls Tryd.prog 9 #[.slice a s.size cap] w fun e w' => e = .returned (.tuple #[.string ⟨(told (parts s)).toArray⟩, .int .i64 0]) ∧ Below w.heap.size w w' := by
  obtain ⟨i0, hi, hz0, hz1, hz2⟩ := info_parts Tryd.infoByte
  have D0 : Hid (Head w s [] 0 0 0 none w) := Lib.hid ⟨rfl, World.ownsRow_nil _ _ _ _, fun h => by simp [st] at h, Below.refl _ _⟩
  have hnF := eq_false (show ¬ (65536 : Int) < (s.size : Int) by omega)
  go_enter Tryd.func9, Tryd.ntmps9
  go_wp2
  clear hcv
  go_loopw [5, 6] (fun l i wr => ∃ (pos m cap : Nat) (b : Option Addr) (d : List Part), l = .slice b m cap ∧ i = .int .i64 pos ∧ pos ≤ s.size ∧ Hid (Head w s d pos m cap b wr)) (fun _ i _ => s.size - (RowKit.intOf i).toNat)
  case atStart => exact ⟨0, 0, 0, none, [], rfl, rfl, Nat.zero_le _, D0⟩
  case round =>
    clear D0 hnF
    obtain ⟨pos, m, cap1, b, d, rfl, rfl, hpos, HD⟩ := hrel
    by_cases hlt : pos < s.size
    · have HC := Lib.hid (cut_at s pos hlt wr)
      have HL := Lib.hid (cutAt_len s pos hlt)
      have hm := HD.out.bound hs
      have hltI : (pos : Int) < s.size := by omega
      cases hok : (cutAt s pos).ok with
      | false =>
        have hch : (cutAt s pos).char = 65533 := cut_char_bad _ _ _ _ _ hok
        have hp : Hid (cutAt s pos = ⟨65533, (cutAt s pos).len, false⟩) := Lib.hid (by rw [← hch, ← hok])
        have HT := Lib.hid (bad_takes (d := d) hok)
        clear hok hch
        obtain ⟨n, hn⟩ : ∃ n, n = (cutAt s pos).len := ⟨_, rfl⟩
        rw [← hn] at hp
        have HN := Lib.hid hn
        clear hn
        rw [hp.out] at HC
        have hl2 : pos + n ≤ s.size ∧ 1 ≤ n := by have := HL.out; have := HN.out; omega
        go_wp2_with (first
          | (go_at_call 19; refine HC.out.mono ?_; rintro e w1 ⟨rfl, hb1⟩; unfold partCells; have HO := Lib.hid (World.ownsRow.alloc (World.ownsRow.alloc (ownsRow_beside (n0 := 0) HD.out.row (Beside.of_below hb1 (Nat.zero_le _))) (.cells #[.int .i32 (65533 : Nat), .int .i64 (n : Nat), .bool false] 47)) (.cells (byteCells [239, 191, 189]).toArray 5)))
          | (at_builtin; refine wpList_append_own _ rfl _ _ 22 rfl w.heap.size 5 i0 _ 1 1 underBytes hi hz0 hz1 hz2 rfl (by decide) _ m (byteCells (st d).2) rfl HO.out ⟨w1.heap.size + 1, 0, none⟩ 3 3 (byteCells [239, 191, 189]) rfl ?c1 ?c2 ?c3 ?c4 ?c5 ?c6 ?_))
        case c1 => rfl
        case c2 =>
          intro j u hu
          rcases (by have := (List.getElem?_eq_some_iff.1 hu).1; simp [byteCells] at this; omega : j = 0 ∨ j = 1 ∨ j = 2) with rfl | rfl | rfl <;> simpa [go_sem, byteCells] using hu
        case c3 =>
          intro u hu
          obtain ⟨x, _, rfl⟩ := List.mem_map.1 hu
          rfl
        case c4 => unfold maxLen; omega
        case c5 => omega
        case c6 => have := HD.out.below.size; have := hb1.size; simp; omega
        intro v' W hown' hgrow _
        obtain ⟨a1, cap2, hvs1⟩ := slice_of hown'
        subst hvs1
        have hbW := HD.out.grown hb1 (((Below.refl _ _).alloc (Nat.le_refl _) _).alloc (by simp) _) hgrow
        have hblk := HD.out.kept hb1 (by simp; omega) hgrow
        rw [Below.heap_alloc _ _ _ (by simp), heap_alloc_new w1 _] at hblk
        have hcell : W.cell? ⟨w1.heap.size, 1, none⟩ = some (.int .i64 (n : Nat)) := by rw [cell_of_row _ _ _ _ _ _ hblk]; rfl
        have HX := Lib.hid (HD.out.next hlt (mark := false) (new := encodeRune 65533) HT.out (by rw [enc_fffd]; exact hown') hbW (fun h => by cases h))
        rw [← HN.out] at HX
        clear hown' hbW hgrow hblk HO
        go_wp2
        exact ⟨⟨pos + n, m + 3, cap2, a1, d ++ [cutAt s pos], rfl, by go_num, by omega, HX⟩, by simp [RowKit.intOf]; omega⟩
      | true =>
        by_cases hcr : (cutAt s pos).char = 13
        · have hcl := cr_len hcr
          have hp : Hid (cutAt s pos = ⟨13, 1, true⟩) := Lib.hid (by
            have : ∀ p : Part, p.char = 13 → p.ok = true → p.len = 1 → p = ⟨13, 1, true⟩ := by rintro ⟨_, _, _⟩ rfl rfl rfl; rfl
            exact this _ hcr hcl.1 hcl.2)
          have HT := Lib.hid (cr_takes (d := d) hcr)
          clear hcl hok hcr
          rw [hp.out] at HC
          by_cases hnx : pos + 1 < s.size
          · have hnxI : (pos : Int) + 1 < s.size := by omega
            have ek := (byteAt_get s (pos + 1) hnx).symm
            by_cases hlf : byteAt s (pos + 1) = 10
            · rw [hlf] at ek
              have HLF := Lib.hid (cut_lf hlf)
              clear hlf
              go_wp2_with (first
                | (go_at_call 19; refine HC.out.mono ?_; rintro e w1 ⟨rfl, hb1⟩; unfold partCells; have HO := Lib.hid (World.ownsRow.alloc (World.ownsRow.alloc (ownsRow_beside (n0 := 0) HD.out.row (Beside.of_below hb1 (Nat.zero_le _))) (.cells #[.int .i32 (13 : Nat), .int .i64 (1 : Nat), .bool true] 47)) (.cells (byteCells [10]).toArray 5)))
                | (at_builtin; refine wpList_append_own _ rfl _ _ 22 rfl w.heap.size 5 i0 _ 1 1 underBytes hi hz0 hz1 hz2 rfl (by decide) _ m (byteCells (st d).2) rfl HO.out ⟨w1.heap.size + 1, 0, none⟩ 1 1 (byteCells [10]) rfl ?c1 ?c2 ?c3 ?c4 ?c5 ?c6 ?_))
              case c1 => rfl
              case c2 =>
                intro j u hu
                obtain rfl : j = 0 := by have := (List.getElem?_eq_some_iff.1 hu).1; simp [byteCells] at this; omega
                simpa [go_sem, byteCells] using hu
              case c3 =>
                intro u hu
                obtain ⟨x, _, rfl⟩ := List.mem_map.1 hu
                rfl
              case c4 => unfold maxLen; omega
              case c5 => omega
              case c6 => have := HD.out.below.size; have := hb1.size; simp; omega
              intro v' W hown' hgrow _
              obtain ⟨a1, cap2, hvs1⟩ := slice_of hown'
              subst hvs1
              have hbW := HD.out.grown hb1 (((Below.refl _ _).alloc (Nat.le_refl _) _).alloc (by simp) _) hgrow
              have hblk := HD.out.kept hb1 (by simp; omega) hgrow
              rw [Below.heap_alloc _ _ _ (by simp), heap_alloc_new w1 _] at hblk
              have hcell : W.cell? ⟨w1.heap.size, 1, none⟩ = some (.int .i64 (1 : Nat)) := by rw [cell_of_row _ _ _ _ _ _ hblk]; rfl
              have HX := Lib.hid (HD.out.next2 hlt hp.out hnx HLF.out hown' hbW)
              clear hown' hbW hgrow hblk HO
              go_wp2
              exact ⟨⟨pos + 2, m + 1, cap2, a1, d ++ [⟨13, 1, true⟩, ⟨10, 1, true⟩], rfl, by go_num, by omega, HX⟩, by simp [RowKit.intOf]; omega⟩
            · have hnlf : ¬ ((s[pos + 1]'hnx).toNat : Int) = 10 := by rw [ek]; omega
              have HLF : Hid ((cutAt s (pos + (cutAt s pos).len)).char ≠ 10) := Lib.hid (by rw [hp.out]; exact fun h => hlf (char_ten h))
              clear hlf
              go_wp2_with (first
                | (go_at_call 19; refine HC.out.mono ?_; rintro e w1 ⟨rfl, hb1⟩; unfold partCells; have HO := Lib.hid (World.ownsRow.alloc (World.ownsRow.alloc (ownsRow_beside (n0 := 0) HD.out.row (Beside.of_below hb1 (Nat.zero_le _))) (.cells #[.int .i32 (13 : Nat), .int .i64 (1 : Nat), .bool true] 47)) (.cells (byteCells [10]).toArray 5)))
                | (at_builtin; refine wpList_append_own _ rfl _ _ 22 rfl w.heap.size 5 i0 _ 1 1 underBytes hi hz0 hz1 hz2 rfl (by decide) _ m (byteCells (st d).2) rfl HO.out ⟨w1.heap.size + 1, 0, none⟩ 1 1 (byteCells [10]) rfl ?c1 ?c2 ?c3 ?c4 ?c5 ?c6 ?_))
              case c1 => rfl
              case c2 =>
                intro j u hu
                obtain rfl : j = 0 := by have := (List.getElem?_eq_some_iff.1 hu).1; simp [byteCells] at this; omega
                simpa [go_sem, byteCells] using hu
              case c3 =>
                intro u hu
                obtain ⟨x, _, rfl⟩ := List.mem_map.1 hu
                rfl
              case c4 => unfold maxLen; omega
              case c5 => omega
              case c6 => have := HD.out.below.size; have := hb1.size; simp; omega
              intro v' W hown' hgrow _
              obtain ⟨a1, cap2, hvs1⟩ := slice_of hown'
              subst hvs1
              have hbW := HD.out.grown hb1 (((Below.refl _ _).alloc (Nat.le_refl _) _).alloc (by simp) _) hgrow
              have hblk := HD.out.kept hb1 (by simp; omega) hgrow
              rw [Below.heap_alloc _ _ _ (by simp), heap_alloc_new w1 _] at hblk
              have hcell : W.cell? ⟨w1.heap.size, 1, none⟩ = some (.int .i64 (1 : Nat)) := by rw [cell_of_row _ _ _ _ _ _ hblk]; rfl
              have HX := Lib.hid (HD.out.next hlt (mark := true) (new := encodeRune 10) HT.out (by rw [enc_lf]; exact hown') hbW (fun _ _ => HLF.out))
              rw [hp.out] at HX
              clear hown' hbW hgrow hblk HO
              go_wp2
              exact ⟨⟨pos + 1, m + 1, cap2, a1, d ++ [⟨13, 1, true⟩], rfl, by go_num, by omega, HX⟩, by simp [RowKit.intOf]; omega⟩
          · have hnxI := eq_false (show ¬ (pos : Int) + 1 < s.size by omega)
            go_wp2_with (first
              | (go_at_call 19; refine HC.out.mono ?_; rintro e w1 ⟨rfl, hb1⟩; unfold partCells; have HO := Lib.hid (World.ownsRow.alloc (World.ownsRow.alloc (ownsRow_beside (n0 := 0) HD.out.row (Beside.of_below hb1 (Nat.zero_le _))) (.cells #[.int .i32 (13 : Nat), .int .i64 (1 : Nat), .bool true] 47)) (.cells (byteCells [10]).toArray 5)))
              | (at_builtin; refine wpList_append_own _ rfl _ _ 22 rfl w.heap.size 5 i0 _ 1 1 underBytes hi hz0 hz1 hz2 rfl (by decide) _ m (byteCells (st d).2) rfl HO.out ⟨w1.heap.size + 1, 0, none⟩ 1 1 (byteCells [10]) rfl ?c1 ?c2 ?c3 ?c4 ?c5 ?c6 ?_))
            case c1 => rfl
            case c2 =>
              intro j u hu
              obtain rfl : j = 0 := by have := (List.getElem?_eq_some_iff.1 hu).1; simp [byteCells] at this; omega
              simpa [go_sem, byteCells] using hu
            case c3 =>
              intro u hu
              obtain ⟨x, _, rfl⟩ := List.mem_map.1 hu
              rfl
            case c4 => unfold maxLen; omega
            case c5 => omega
            case c6 => have := HD.out.below.size; have := hb1.size; simp; omega
            intro v' W hown' hgrow _
            obtain ⟨a1, cap2, hvs1⟩ := slice_of hown'
            subst hvs1
            have hbW := HD.out.grown hb1 (((Below.refl _ _).alloc (Nat.le_refl _) _).alloc (by simp) _) hgrow
            have hblk := HD.out.kept hb1 (by simp; omega) hgrow
            rw [Below.heap_alloc _ _ _ (by simp), heap_alloc_new w1 _] at hblk
            have hcell : W.cell? ⟨w1.heap.size, 1, none⟩ = some (.int .i64 (1 : Nat)) := by rw [cell_of_row _ _ _ _ _ _ hblk]; rfl
            have HX := Lib.hid (HD.out.next hlt (mark := true) (new := encodeRune 10) HT.out (by rw [enc_lf]; exact hown') hbW (fun _ h => by rw [hp.out] at h; exact absurd h hnx))
            rw [hp.out] at HX
            clear hown' hbW hgrow hblk HO
            go_wp2
            exact ⟨⟨pos + 1, m + 1, cap2, a1, d ++ [⟨13, 1, true⟩], rfl, by go_num, by omega, HX⟩, by simp [RowKit.intOf]; omega⟩
        · have HT := Lib.hid (else_takes hlt HD.out.calm hcr)
          have HE := Lib.hid (encode_at s pos hlt hok)
          obtain ⟨c, n, hp⟩ : ∃ c n, Hid (cutAt s pos = ⟨c, n, true⟩) := ⟨(cutAt s pos).char, (cutAt s pos).len, Lib.hid (by rw [← hok])⟩
          rw [hp.out] at hcr HC HE HT HL
          clear hok
          have hcI : ¬ ((c : Nat) : Int) = 13 := by have : c ≠ 13 := hcr; omega
          have hl2 : pos + n ≤ s.size ∧ 1 ≤ n := ⟨HL.out.2, HL.out.1⟩
          clear hcr
          go_wp2_with (first
            | (go_at_call 19; refine HC.out.mono ?_; rintro e w1 ⟨rfl, hb1⟩; unfold partCells; have HO := Lib.hid (World.ownsRow.alloc (ownsRow_beside (n0 := 0) HD.out.row (Beside.of_below hb1 (Nat.zero_le _))) (.cells #[.int .i32 (c : Nat), .int .i64 (n : Nat), .bool true] 47)))
            | (at_builtin; refine wpList_append_own_string _ rfl _ _ 22 9 rfl w.heap.size 5 i0 underBytes underString hi hz0 hz1 hz2 _ m (byteCells (st d).2) rfl HO.out _ rfl ?c4 ?c5 ?c6 ?_))
          case c4 => simp; unfold maxLen; omega
          case c5 => simp; omega
          case c6 => have := HD.out.below.size; have := hb1.size; simp; omega
          intro v' W hown' hgrow _
          obtain ⟨a1, cap2, hvs1⟩ := slice_of hown'
          subst hvs1
          have hbW := HD.out.grown hb1 ((Below.refl _ _).alloc (Nat.le_refl _) _) hgrow
          have hblk := HD.out.kept hb1 (by simp) hgrow
          rw [heap_alloc_new w1 _] at hblk
          have hcell : W.cell? ⟨w1.heap.size, 1, none⟩ = some (.int .i64 (n : Nat)) := by rw [cell_of_row _ _ _ _ _ _ hblk]; rfl
          have HX := Lib.hid (HD.out.next hlt (mark := false) (new := encodeRune (c : Nat)) (by rw [hp.out]; exact HT.out) (by rw [HE.out]; exact hown') hbW (fun h => by cases h))
          rw [hp.out] at HX
          clear hown' hbW hgrow hblk HO
          go_wp2
          exact ⟨⟨pos + n, m + n, cap2, a1, d ++ [⟨c, n, true⟩], rfl, by go_num, by omega, HX⟩, by simp [RowKit.intOf]; omega⟩
    · have he : d = parts s := by
        have := HD.out.split
        rw [partsFrom_end s _ (by omega), List.append_nil] at this
        exact this
      subst he
      have hown := HD.out.row
      have hlen : (told (parts s)).length = m := by have := hown.1; rw [byteCells_length] at this; rw [told_eq]; omega
      have hcv : (convert 22 9 (.slice b m cap1)).run Tryd.prog wr = .ok (.string ⟨(told (parts s)).toArray⟩) wr := by
        rcases hown.2 with ⟨e, e2⟩ | ⟨g, cap3, cur, e, _⟩
        · cases e
          have : told (parts s) = [] := List.length_eq_zero_iff.1 (by omega)
          rw [this]
          exact run_convert_bytes_nil (P := Tryd.prog) _ 22 5 underBytes underByte _ _ _ underString
        · cases e
          rw [told_eq] at hlen ⊢
          have := run_convert_bytes_back (P := Tryd.prog) wr 22 9 5 ⟨g, 0, none⟩ cap1 (st (parts s)).2 underBytes underByte underString (fun j hj => hown.cells rfl j _ (by simp [byteCells, hj]))
          rwa [hlen] at this
      have HB := Lib.hid HD.out.below
      clear hown hlen
      go_wp2
      go_ret2
      exact ⟨rfl, HB.out⟩
end Go.Proofs.YtcafejjejcchlaaDoor
