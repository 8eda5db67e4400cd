/-
  A text, escaped, within an element, and in quotes as an attribute's value: the tokens, and the tree. No conditions.
  SerialText: a text, escaped, as the content of an element and as an attribute's value, is parsed as itself. Conditions: the library's variable MaxLen holds a number, its two tables what its text lays.
  The library's two tables, as utf8.ValidString asks for them, out of the row's condition. No conditions.
  The library's two tables, out of the row's condition. No conditions.
  What a row's world owes: the library's variable MaxLen holds a number there. The row's step, with the world's shape and a condition of one's own kept. No conditions.
  The row's step, with the world's shape, a condition of one's own and the row's own reach kept: what is read takes at most so many bytes. No conditions.
-/
import Derived.Test.YtnfkndaggcklkaaGreatDoorPA17
import Derived.Test.YtnfkndaggcklkaaGreatDoorPA21
import Derived.Test.YtnfkndaggcklkaaGreatDoorPA15
import Derived.Lib.LaidTab
import Derived.OpenShut
import Derived.ChangeArms
import Derived.LaidMore
import Derived.ProofKit
import Derived.Test.YtnfkndaggcklkaaGreatDoorPA0
import Derived.Test.YtnfkndaggcklkaaGreatDoorPA9
import Derived.Handed
import Derived.Shelf.Vars
import Derived.SizedLaws
namespace Go.SerialKit
open Go Go.Lib Go.TokenKit Go.TreeKit Go.CharrefKit
/-- Up to a mark, or the end, is one text. -/
theorem one_words {l r : Bytes} (hl : l ≠ []) (h60 : ∀ b, b ∈ l → b ≠ 60) (hr : r = [] ∨ markL r = true) : oneL (l ++ r) = .ok (⟨3, [], [], false, decodeL false l⟩, r) := by
  have hm : markL (l ++ r) = false := by
    cases l with
    | nil => exact absurd rfl hl
    | cons b t => exact mark_not (h60 b (by simp)) _
  unfold oneL
  rw [hm, words_upto h60 hr, List.take_left, List.drop_left]
  rfl
theorem one_endT (l : Bytes) : oneL (60 :: 47 :: l) = endL l := by
  unfold oneL
  rw [show markL (60 :: 47 :: l) = true from by simp [markL]]
  rfl
theorem quoted_toldT {q : UInt8} {v : Bytes} (h : ∀ b, b ∈ v → b ≠ q) (r : Bytes) : quotedL q (v ++ q :: r) = some (v, r) := by
  obtain ⟨h1, h2⟩ := before_stop (stops := [q]) (c := q) (by simp) (n := v) r (fun b hb => by have := h b hb; simp [this])
  unfold quotedL
  rw [if_pos (List.contains_iff_mem.2 (by simp)), h1, h2]
  rfl
/-- A name of the subset, in small letters. -/
structure NameW (w : Bytes) : Prop where
  head : ∃ x n, w = x :: n ∧ isL x = true
  all : ∀ b, b ∈ w → nameB b = true
  small : smallL w = w
  kind : 1 ≤ kindL w ∧ kindL w ≤ 6
def tgText (w e : Bytes) : Bytes := 60 :: (w ++ 62 :: (e ++ 60 :: 47 :: (w ++ [62])))
def tgToks (w d : Bytes) : List Tok := [⟨1, w, [], false, []⟩, ⟨3, [], [], false, d⟩, ⟨2, w, [], false, []⟩]
def tgTree (w d : Bytes) : List Nd := [⟨0, [], [], [], -1, [1]⟩, ⟨1, w, [], [], 0, [2]⟩, ⟨2, [], [], d, 1, []⟩]
theorem name_no {w : Bytes} (h : NameW w) : ∀ b, b ∈ w → b ≠ 0 := fun b hb => (name_stops b (h.all b hb)).2.1
theorem one_tag {w : Bytes} (h : NameW w) (r : Bytes) : oneL (60 :: (w ++ 62 :: r)) = .ok (⟨1, w, [], false, []⟩, r) := by
  obtain ⟨x, n, e, hx⟩ := h.head
  have h1 : oneL (60 :: (w ++ 62 :: r)) = tagL 1 (w ++ 62 :: r) := by rw [e]; exact one_start hx _
  rw [h1, tag_name h.all, h.small]
theorem end_tag {w : Bytes} (h : NameW w) (r : Bytes) : endL (w ++ 62 :: r) = .ok (⟨2, w, [], false, []⟩, r) := by
  obtain ⟨x, n, e, hx⟩ := h.head
  have h1 : tagL 2 (w ++ 62 :: r) = .ok (⟨2, w, [], false, []⟩, r) := by rw [tag_name h.all, h.small]
  rw [e, List.cons_append] at h1 ⊢
  rw [endL, if_pos hx, h1]
  rfl
theorem tg_told {w d : Bytes} (h : NameW w) (hd : d ≠ []) (h0 : ∀ b, b ∈ d → b ≠ 0) (hw : w.length ≤ 20) (hl : (escR false d).length ≤ 60000) : answerL (tgText w (escR false d)) = (tgToks w d, 0, 0) := by
  refine answer_of (by unfold tgText; simp only [List.length_cons, List.length_append, List.length_nil]; omega) ?_ ?_
  · intro b hb
    unfold tgText at hb
    simp only [List.mem_cons, List.mem_append, List.not_mem_nil, or_false] at hb
    rcases hb with rfl | hb | rfl | hb | rfl | rfl | hb | rfl
    · decide
    · exact name_no h b hb
    · decide
    · exact esc_no0 false h0 b hb
    · decide
    · decide
    · exact name_no h b hb
    · decide
  · have h1 := one_tag h (escR false d ++ 60 :: 47 :: (w ++ [62]))
    have h2 : oneL (escR false d ++ 60 :: 47 :: (w ++ [62])) = .ok (⟨3, [], [], false, d⟩, 60 :: 47 :: (w ++ [62])) := by
      rw [one_words (esc_ne hd) (esc_no60 d) (.inr (by simp [markL])), back_all]
    have h3 : oneL (60 :: 47 :: (w ++ [62])) = .ok (⟨2, w, [], false, []⟩, []) := by rw [one_endT]; exact end_tag h []
    unfold tgText
    rw [toksAt_step 0 (by simp), h1]
    simp only
    rw [toksAt_step _ (by simp), h2]
    simp only
    rw [toksAt_step _ (by simp), h3]
    rfl
theorem tg_built {w d : Bytes} (h : NameW w) (hd : d ≠ []) : buildL (tgToks w d) = (tgTree w d, 0, 0) := by
  obtain ⟨hk1, hk2⟩ := h.kind
  obtain ⟨x, n, e, _⟩ := h.head
  obtain ⟨k, hk⟩ : ∃ k, kindL w = k := ⟨_, rfl⟩
  rw [hk] at hk1 hk2
  have h1 : ∀ s : BS, takeB s ⟨1, w, [], false, []⟩ (0 == 0) = startL s ⟨1, w, [], false, []⟩ k := fun s => by
    show (if kindL w == 0 then _ else _) = _
    rw [hk, if_neg (by simp; omega)]
    rfl
  have h2 : startL beginB ⟨1, w, [], false, []⟩ k = .ok ⟨[⟨0, [], [], [], -1, [1]⟩, ⟨1, w, [], [], 0, []⟩], [⟨1, w, k⟩, ⟨0, [], 0⟩], []⟩ := by
    have : k = 1 ∨ k = 2 ∨ k = 3 ∨ k = 4 ∨ k = 5 ∨ k = 6 := by omega
    rcases this with rfl | rfl | rfl | rfl | rfl | rfl <;> rfl
  have h3 : takeB ⟨[⟨0, [], [], [], -1, [1]⟩, ⟨1, w, [], [], 0, []⟩], [⟨1, w, k⟩, ⟨0, [], 0⟩], []⟩ ⟨3, [], [], false, d⟩ (0 + 1 == 0) = .ok ⟨[⟨0, [], [], [], -1, [1]⟩, ⟨1, w, [], [], 0, [2]⟩, ⟨2, [], [], [], 1, []⟩], [⟨1, w, k⟩, ⟨0, [], 0⟩], d⟩ := by
    show textL _ d = _
    unfold textL
    rw [if_neg hd]
    rfl
  have h4 : takeB ⟨[⟨0, [], [], [], -1, [1]⟩, ⟨1, w, [], [], 0, [2]⟩, ⟨2, [], [], [], 1, []⟩], [⟨1, w, k⟩, ⟨0, [], 0⟩], d⟩ ⟨2, w, [], false, []⟩ (0 + 1 + 1 == 0) = .ok ⟨[⟨0, [], [], [], -1, [1]⟩, ⟨1, w, [], [], 0, [2]⟩, ⟨2, [], [], [], 1, []⟩], [⟨0, [], 0⟩], d⟩ := by
    show (if kindL w == 0 then _ else _) = _
    rw [hk, if_neg (by simp; omega)]
    show endTagL _ w k = _
    have e2 : closeEndL k [⟨1, w, k⟩, ⟨0, [], 0⟩] = [⟨1, w, k⟩, ⟨0, [], 0⟩] := by
      have : k = 1 ∨ k = 2 ∨ k = 3 ∨ k = 4 ∨ k = 5 ∨ k = 6 := by omega
      rcases this with rfl | rfl | rfl | rfl | rfl | rfl <;> rfl
    unfold endTagL
    simp only [e2]
    rw [show (topO [(⟨1, w, k⟩ : Opd), ⟨0, [], 0⟩]).name = w from rfl, if_pos rfl]
    rfl
  unfold buildL tgToks
  unfold buildF
  rw [h1, h2]
  simp only
  unfold buildF
  rw [h3]
  simp only
  unfold buildF
  rw [h4]
  simp only
  unfold buildF
  simp only
  unfold flushL
  rw [if_neg hd]
  rfl
def titleB : Bytes := [116, 105, 116, 108, 101]
def atText (w e : Bytes) : Bytes := 60 :: (w ++ 32 :: 116 :: 105 :: 116 :: 108 :: 101 :: 61 :: 34 :: (e ++ [34, 62]))
def atToks (w d : Bytes) : List Tok := [⟨1, w, [(titleB, d)], false, []⟩]
def atTree (w d : Bytes) : List Nd := [⟨0, [], [], [], -1, [1]⟩, ⟨1, w, [(titleB, d)], [], 0, []⟩]
theorem at_told {w d : Bytes} (h : NameW w) (h0 : ∀ b, b ∈ d → b ≠ 0) (hw : w.length ≤ 20) (hl : (escR true d).length ≤ 60000) : answerL (atText w (escR true d)) = (atToks w d, 0, 0) := by
  refine answer_of (by unfold atText; simp only [List.length_cons, List.length_append, List.length_nil]; omega) ?_ ?_
  · intro b hb
    unfold atText at hb
    simp only [List.mem_cons, List.mem_append, List.not_mem_nil, or_false] at hb
    rcases hb with rfl | hb | rfl | rfl | rfl | rfl | rfl | rfl | rfl | rfl | hb | rfl | rfl
    all_goals first | decide | exact name_no h b hb | exact esc_no0 true h0 b hb
  · have hv : valueL (34 :: (escR true d ++ [34, 62])) = some (escR true d, [62]) := by
      rw [valueL, if_pos rfl]
      exact quoted_toldT (esc_no34 d) [62]
    have ha : attrL (116 :: 105 :: 116 :: 108 :: 101 :: 61 :: 34 :: (escR true d ++ [34, 62])) = some ((titleB, d), [62]) := by
      obtain ⟨b1, b2⟩ := before_stop (stops := nameStops) (c := 61) (by decide) (n := titleB) (34 :: (escR true d ++ [34, 62])) (by decide)
      have b1' : before nameStops (116 :: 105 :: 116 :: 108 :: 101 :: 61 :: 34 :: (escR true d ++ [34, 62])) = titleB := b1
      have b2' : behind nameStops (116 :: 105 :: 116 :: 108 :: 101 :: 61 :: 34 :: (escR true d ++ [34, 62])) = 61 :: 34 :: (escR true d ++ [34, 62]) := b2
      unfold attrL
      simp only
      rw [b1', b2', show skipL (61 :: 34 :: (escR true d ++ [34, 62])) = 61 :: 34 :: (escR true d ++ [34, 62]) from rfl]
      rw [if_neg (by decide)]
      simp only
      rw [if_pos trivial, show skipL (34 :: (escR true d ++ [34, 62])) = 34 :: (escR true d ++ [34, 62]) from rfl, hv]
      simp only
      rw [back_all]
      rfl
    have hs : attrsL [] (32 :: 116 :: 105 :: 116 :: 108 :: 101 :: 61 :: 34 :: (escR true d ++ [34, 62])) = .ok ([(titleB, d)], false, []) := by
      rw [attrsL_step, show skipL (32 :: 116 :: 105 :: 116 :: 108 :: 101 :: 61 :: 34 :: (escR true d ++ [34, 62])) = 116 :: 105 :: 116 :: 108 :: 101 :: 61 :: 34 :: (escR true d ++ [34, 62]) from rfl]
      simp only
      rw [if_neg (by decide), if_neg (by decide), ha]
      simp only
      rw [if_neg (by simp), if_neg (by simp)]
      exact attrsL_end _ []
    have ht : oneL (atText w (escR true d)) = .ok (⟨1, w, [(titleB, d)], false, []⟩, []) := by
      obtain ⟨x, n, e, hx⟩ := h.head
      have h1 : oneL (60 :: (w ++ 32 :: 116 :: 105 :: 116 :: 108 :: 101 :: 61 :: 34 :: (escR true d ++ [34, 62]))) = tagL 1 (w ++ 32 :: 116 :: 105 :: 116 :: 108 :: 101 :: 61 :: 34 :: (escR true d ++ [34, 62])) := by rw [e]; exact one_start hx _
      unfold atText
      rw [h1]
      obtain ⟨b1, b2⟩ := before_stop (stops := tagStops) (c := 32) (by decide) (n := w) (116 :: 105 :: 116 :: 108 :: 101 :: 61 :: 34 :: (escR true d ++ [34, 62])) (fun b hb => (name_stops b (h.all b hb)).1)
      unfold tagL
      rw [b1, b2, hs]
      simp only
      rw [if_pos (word_name h.all), h.small]
    rw [toksAt_step 0 (by unfold atText; simp), ht]
    rfl
theorem at_built {w d : Bytes} (h : NameW w) : buildL (atToks w d) = (atTree w d, 0, 0) := by
  obtain ⟨hk1, hk2⟩ := h.kind
  obtain ⟨k, hk⟩ : ∃ k, kindL w = k := ⟨_, rfl⟩
  rw [hk] at hk1 hk2
  have h1 : ∀ s : BS, takeB s ⟨1, w, [(titleB, d)], false, []⟩ (0 == 0) = startL s ⟨1, w, [(titleB, d)], false, []⟩ k := fun s => by
    show (if kindL w == 0 then _ else _) = _
    rw [hk, if_neg (by simp; omega)]
    rfl
  have h2 : startL beginB ⟨1, w, [(titleB, d)], false, []⟩ k = .ok ⟨[⟨0, [], [], [], -1, [1]⟩, ⟨1, w, [(titleB, d)], [], 0, []⟩], [⟨1, w, k⟩, ⟨0, [], 0⟩], []⟩ := by
    have : k = 1 ∨ k = 2 ∨ k = 3 ∨ k = 4 ∨ k = 5 ∨ k = 6 := by omega
    rcases this with rfl | rfl | rfl | rfl | rfl | rfl <;> rfl
  unfold buildL atToks
  unfold buildF
  rw [h1, h2]
  simp only
  unfold buildF
  rfl
end Go.SerialKit
namespace Go.Proofs.YtnfkndaggcklkaaGreatDoor
open Go.RowKit Go.RunKit Go.UtfKit Go.CharrefKit Go.Lib Go.TokenKit Go.TreeKit Go.SerialKit

theorem name_ascii {w : Bytes} (h : NameW w) : ∀ b, b ∈ w → b.toNat < 128 ∧ b.toNat ≠ 13 := fun b hb => (name_stops b (h.all b hb)).2.2
theorem n13 {b : UInt8} (h : b ≠ 13) : b.toNat ≠ 13 := fun e => h (UInt8.toNat_inj.1 (by simpa using e))
theorem tg_parsed {t s : ByteArray} {w : Bytes} (h : NameW w) (hw : w.length ≤ 20) (ht : bl t = tgText w (escR false (bl s))) (hs : s.size ≤ 5000) (hne : bl s ≠ []) (hwl : wellL s = true) : parseL (decL t) = (tgTree w (bl s), 0, 0) := by
  have hl := escR_len (attr := false) (bl s)
  have hsz := bl_length s
  have htl := bl_length t
  have hwb : WB (bl t) := by
    rw [ht]; unfold tgText
    exact (WB.ascii (l := [60]) (by decide)).append ((WB.ascii fun b hb => (name_ascii h b hb).1).append ((WB.ascii (l := [62]) (by decide)).append ((wb_esc false (well_ok hwl)).append ((WB.ascii (l := [60, 47]) (by decide)).append ((WB.ascii fun b hb => (name_ascii h b hb).1).append (WB.ascii (l := [62]) (by decide)))))))
  have h13 : ∀ b, b ∈ bl t → b.toNat ≠ 13 := fun b hb => by
    rw [ht] at hb
    unfold tgText at hb
    simp only [List.mem_cons, List.mem_append, List.not_mem_nil, or_false] at hb
    rcases hb with rfl | hb | rfl | hb | rfl | rfl | hb | rfl
    all_goals first | decide | exact (name_ascii h b hb).2 | exact n13 (esc_no13 false _ b hb)
  rw [decL_wb (by rw [← htl, ht]; unfold tgText; simp only [List.length_cons, List.length_append, List.length_nil]; omega) h13 hwb, ht]
  unfold parseL
  simp only [tg_told h hne (well_zero hwl) hw (by omega)]
  rw [if_pos trivial]
  exact tg_built h hne
theorem at_parsed {t s : ByteArray} {w : Bytes} (h : NameW w) (hw : w.length ≤ 20) (ht : bl t = atText w (escR true (bl s))) (hs : s.size ≤ 5000) (hwl : wellL s = true) : parseL (decL t) = (atTree w (bl s), 0, 0) := by
  have hl := escR_len (attr := true) (bl s)
  have hsz := bl_length s
  have htl := bl_length t
  have hwb : WB (bl t) := by
    rw [ht]; unfold atText
    exact (WB.ascii (l := [60]) (by decide)).append ((WB.ascii fun b hb => (name_ascii h b hb).1).append ((WB.ascii (l := [32, 116, 105, 116, 108, 101, 61, 34]) (by decide)).append ((wb_esc true (well_ok hwl)).append (WB.ascii (l := [34, 62]) (by decide)))))
  have h13 : ∀ b, b ∈ bl t → b.toNat ≠ 13 := fun b hb => by
    rw [ht] at hb
    unfold atText at hb
    simp only [List.mem_cons, List.mem_append, List.not_mem_nil, or_false] at hb
    rcases hb with rfl | hb | rfl | rfl | rfl | rfl | rfl | rfl | rfl | rfl | hb | rfl | rfl
    all_goals first | decide | exact (name_ascii h b hb).2 | exact n13 (esc_no13 true _ b hb)
  rw [decL_wb (by rw [← htl, ht]; unfold atText; simp only [List.length_cons, List.length_append, List.length_nil]; omega) h13 hwb, ht]
  unfold parseL
  simp only [at_told h (well_zero hwl) hw (by omega)]
  rw [if_pos trivial]
  exact at_built h
end Go.Proofs.YtnfkndaggcklkaaGreatDoor

namespace Go.SerialKit
open Go Go.Lib Go.UtfKit Go.CharrefKit Go.TokenKit Go.TreeKit
def nm38 : List ByteArray := [⟨#[100, 105, 118]⟩, ⟨#[117, 108]⟩, ⟨#[111, 108]⟩, ⟨#[115, 101, 99, 116, 105, 111, 110]⟩, ⟨#[97, 114, 116, 105, 99, 108, 101]⟩, ⟨#[104, 101, 97, 100, 101, 114]⟩, ⟨#[102, 111, 111, 116, 101, 114]⟩, ⟨#[109, 97, 105, 110]⟩, ⟨#[110, 97, 118]⟩, ⟨#[97, 115, 105, 100, 101]⟩, ⟨#[98, 108, 111, 99, 107, 113, 117, 111, 116, 101]⟩, ⟨#[102, 105, 103, 117, 114, 101]⟩, ⟨#[112]⟩, ⟨#[108, 105]⟩, ⟨#[104, 49]⟩, ⟨#[104, 50]⟩, ⟨#[104, 51]⟩, ⟨#[104, 52]⟩, ⟨#[104, 53]⟩, ⟨#[104, 54]⟩, ⟨#[115, 112, 97, 110]⟩, ⟨#[98]⟩, ⟨#[105]⟩, ⟨#[101, 109]⟩, ⟨#[115, 116, 114, 111, 110, 103]⟩, ⟨#[117]⟩, ⟨#[115]⟩, ⟨#[115, 109, 97, 108, 108]⟩, ⟨#[99, 111, 100, 101]⟩, ⟨#[98, 100, 105]⟩, ⟨#[98, 100, 111]⟩, ⟨#[97, 98, 98, 114]⟩, ⟨#[99, 105, 116, 101]⟩, ⟨#[113]⟩, ⟨#[115, 117, 98]⟩, ⟨#[115, 117, 112]⟩, ⟨#[109, 97, 114, 107]⟩, ⟨#[97]⟩]
def nameOk (w : ByteArray) : Bool := (match bl w with
  | [] => false
  | x :: _ => isL x) && (bl w).all nameB && decide (smallL (bl w) = bl w) && decide (1 ≤ kindL (bl w)) && decide (kindL (bl w) ≤ 6) && decide (w.size ≤ 20)
theorem nm_all : (nm38.all nameOk) = true := by kernel_rfl
theorem nm_of {w : ByteArray} (h : w ∈ nm38) : NameW (bl w) ∧ w.size ≤ 20 := by
  have h1 := List.all_eq_true.1 nm_all w h
  unfold nameOk at h1
  simp only [Bool.and_eq_true, decide_eq_true_eq] at h1
  obtain ⟨⟨⟨⟨⟨a, b⟩, c⟩, d⟩, e⟩, f⟩ := h1
  refine ⟨⟨?_, fun x hx => List.all_eq_true.1 b x hx, c, d, e⟩, f⟩
  split at a
  · cases a
  · rename_i x r hx
    exact ⟨x, r, hx, a⟩
end Go.SerialKit
namespace Go.Proofs.YtnfkndaggcklkaaGreatDoor
open Go.RowKit Go.RunKit Go.UtfKit Go.CharrefKit Go.Lib Go.TokenKit Go.TreeKit Go.SerialKit

theorem nm_cells (w : World) (T : TypeId) : ∀ k x, nm38[k]? = some x → (w.alloc (.cells #[.string ⟨#[100, 105, 118]⟩, .string ⟨#[117, 108]⟩, .string ⟨#[111, 108]⟩, .string ⟨#[115, 101, 99, 116, 105, 111, 110]⟩, .string ⟨#[97, 114, 116, 105, 99, 108, 101]⟩, .string ⟨#[104, 101, 97, 100, 101, 114]⟩, .string ⟨#[102, 111, 111, 116, 101, 114]⟩, .string ⟨#[109, 97, 105, 110]⟩, .string ⟨#[110, 97, 118]⟩, .string ⟨#[97, 115, 105, 100, 101]⟩, .string ⟨#[98, 108, 111, 99, 107, 113, 117, 111, 116, 101]⟩, .string ⟨#[102, 105, 103, 117, 114, 101]⟩, .string ⟨#[112]⟩, .string ⟨#[108, 105]⟩, .string ⟨#[104, 49]⟩, .string ⟨#[104, 50]⟩, .string ⟨#[104, 51]⟩, .string ⟨#[104, 52]⟩, .string ⟨#[104, 53]⟩, .string ⟨#[104, 54]⟩, .string ⟨#[115, 112, 97, 110]⟩, .string ⟨#[98]⟩, .string ⟨#[105]⟩, .string ⟨#[101, 109]⟩, .string ⟨#[115, 116, 114, 111, 110, 103]⟩, .string ⟨#[117]⟩, .string ⟨#[115]⟩, .string ⟨#[115, 109, 97, 108, 108]⟩, .string ⟨#[99, 111, 100, 101]⟩, .string ⟨#[98, 100, 105]⟩, .string ⟨#[98, 100, 111]⟩, .string ⟨#[97, 98, 98, 114]⟩, .string ⟨#[99, 105, 116, 101]⟩, .string ⟨#[113]⟩, .string ⟨#[115, 117, 98]⟩, .string ⟨#[115, 117, 112]⟩, .string ⟨#[109, 97, 114, 107]⟩, .string ⟨#[97]⟩] T)).cell? ⟨w.heap.size, k, none⟩ = some (.string x) := by
  intro k x h
  rw [cell_of_row _ w.heap.size k _ _ _ (heap_alloc_new w _)]
  have e : (#[.string ⟨#[100, 105, 118]⟩, .string ⟨#[117, 108]⟩, .string ⟨#[111, 108]⟩, .string ⟨#[115, 101, 99, 116, 105, 111, 110]⟩, .string ⟨#[97, 114, 116, 105, 99, 108, 101]⟩, .string ⟨#[104, 101, 97, 100, 101, 114]⟩, .string ⟨#[102, 111, 111, 116, 101, 114]⟩, .string ⟨#[109, 97, 105, 110]⟩, .string ⟨#[110, 97, 118]⟩, .string ⟨#[97, 115, 105, 100, 101]⟩, .string ⟨#[98, 108, 111, 99, 107, 113, 117, 111, 116, 101]⟩, .string ⟨#[102, 105, 103, 117, 114, 101]⟩, .string ⟨#[112]⟩, .string ⟨#[108, 105]⟩, .string ⟨#[104, 49]⟩, .string ⟨#[104, 50]⟩, .string ⟨#[104, 51]⟩, .string ⟨#[104, 52]⟩, .string ⟨#[104, 53]⟩, .string ⟨#[104, 54]⟩, .string ⟨#[115, 112, 97, 110]⟩, .string ⟨#[98]⟩, .string ⟨#[105]⟩, .string ⟨#[101, 109]⟩, .string ⟨#[115, 116, 114, 111, 110, 103]⟩, .string ⟨#[117]⟩, .string ⟨#[115]⟩, .string ⟨#[115, 109, 97, 108, 108]⟩, .string ⟨#[99, 111, 100, 101]⟩, .string ⟨#[98, 100, 105]⟩, .string ⟨#[98, 100, 111]⟩, .string ⟨#[97, 98, 98, 114]⟩, .string ⟨#[99, 105, 116, 101]⟩, .string ⟨#[113]⟩, .string ⟨#[115, 117, 98]⟩, .string ⟨#[115, 117, 112]⟩, .string ⟨#[109, 97, 114, 107]⟩, .string ⟨#[97]⟩] : Array Value) = (nm38.map fun x => Value.string x).toArray := rfl
  rw [e]
  simp [h]
set_option maxRecDepth 100000 in
set_option maxHeartbeats 1000000 in
theorem pick_any (i : Int) (w : World) :
    Calls Tryz.prog 31 #[.int .i64 i, .int .i64 38] w fun e w' => (∃ k : Nat, k < 38 ∧ e = .returned (.int .i64 ((k : Nat) : Int))) ∧ w = w' := by
  have h1 := Int.tmod_lt_of_pos i (show (0 : Int) < 38 by decide)
  have h2 := Int.lt_tmod_of_pos i (show (0 : Int) < 38 by decide)
  have e3 : wrap64 (i.tmod 38 + 38) = i.tmod 38 + 38 := by rw [IntWalk.wrap64_in _ ⟨by omega, by omega⟩]
  have e4 : (i.tmod 38 + 38).tmod 38 = (i.tmod 38 + 38) % 38 := Int.tmod_eq_emod_of_nonneg (by omega)
  have e5 := Int.emod_nonneg (i.tmod 38 + 38) (show (38 : Int) ≠ 0 by decide)
  have e6 := Int.emod_lt_of_pos (i.tmod 38 + 38) (show (0 : Int) < 38 by decide)
  obtain ⟨k, hk, e⟩ : ∃ k : Nat, k < 38 ∧ (i.tmod 38 + 38) % 38 = ((k : Nat) : Int) := ⟨((i.tmod 38 + 38) % 38).toNat, by omega, by omega⟩
  have FIN := Lib.hid (show (wrap64 (i.tmod 38 + 38)).tmod 38 = ((k : Nat) : Int) by rw [e3, e4, e])
  clear e3 e4 e5 e6 e h1 h2
  go_enter Tryz.func31, Tryz.ntmps31
  go_wp2
  go_ret
  refine ⟨⟨k, hk, ?_⟩, rfl⟩
  show Ending.returned (Value.int .i64 ((wrap64 (i.tmod 38 + 38)).tmod 38)) = _
  rw [FIN.out]

/-- The library's two tables, as both kinds of callees ask for them. -/
abbrev BTabs (w : World) : Prop := VTabs w ∧ U.Tabs w
def oB : ByteArray := ⟨#[60]⟩
def cB : ByteArray := ⟨#[62]⟩
def sB : ByteArray := ⟨#[60, 47]⟩
def tB : ByteArray := ⟨#[32, 116, 105, 116, 108, 101, 61, 34]⟩
def qB : ByteArray := ⟨#[34, 62]⟩
theorem tg_bytes (nm te : ByteArray) : bl (oB ++ nm ++ cB ++ te ++ sB ++ nm ++ cB) = tgText (bl nm) (bl te) := by
  simp only [bl_join]
  show [60] ++ bl nm ++ [62] ++ bl te ++ [60, 47] ++ bl nm ++ [62] = _
  simp [tgText]
theorem at_bytes (nm te : ByteArray) : bl (oB ++ nm ++ tB ++ te ++ qB) = atText (bl nm) (bl te) := by
  simp only [bl_join]
  show [60] ++ bl nm ++ [32, 116, 105, 116, 108, 101, 61, 34] ++ bl te ++ [34, 62] = _
  simp [atText]

set_option maxRecDepth 100000 in
set_option maxHeartbeats 4000000 in
theorem lawText (s : ByteArray) (i : Int) (w : World) (hb : BTabs w) (hM : Maxed w w.heap.size) : Calls Tryz.prog 10 #[.string s, .int .i64 i] w fun e w' => e = .returned (.bool true) ∧ Below w.heap.size w w' := by
  have HW := Lib.hid fun (W : World) (h : Below w.heap.size w W) => works06_any W (hb.1.on h)
  have HM := Lib.hid hM
  have HT := Lib.hid hb.2
  clear hb hM
  by_cases hbig : 5000 < s.size
  · have hI : (5000 : Int) < s.size := by omega
    go_enter Tryz.func10, Tryz.ntmps10
    go_big_wp2_with (go_at_call 27; refine (HW.out _ (Below.refl _ _)).mono ?_; rintro e w1 ⟨rfl, hb1⟩)
    go_ret
    exact ⟨rfl, hb1⟩
  have hI : ((5000 : Int) < s.size) = False := eq_false (by omega)
  by_cases hE : bl s = []
  · have hE0 : s.toList = [] := by rw [Lib.toList_data]; exact hE
    have hE1 : s.toList.isEmpty = true := by simp [hE0]
    have hE2 : (s.toList == []) = true := by simp [hE0]
    clear hE
    go_enter Tryz.func10, Tryz.ntmps10
    go_big_wp2_with (go_at_call 27; refine (HW.out _ (Below.refl _ _)).mono ?_; rintro e w1 ⟨rfl, hb1⟩)
    go_ret
    exact ⟨rfl, hb1⟩
  have hE1 : s.toList.isEmpty = false := by rw [Lib.toList_data]; cases h : s.data.toList with
    | nil => exact absurd h hE
    | cons x r => rfl
  have hE2 : (s.toList == []) = false := by rw [Lib.toList_data]; exact beq_eq_false_iff_ne.2 hE
  have hWA := fun W => refWell05_any s W (by omega)
  have HE := Lib.hid hE
  clear hE
  cases hwa : wellL s with
  | false =>
    rw [hwa] at hWA
    have HWA := Lib.hid hWA
    clear hWA hwa
    go_enter Tryz.func10, Tryz.ntmps10
    go_big_wp2_with (first
      | (go_at_call 30; refine (HWA.out _).mono ?_; rintro e w1 ⟨rfl, hb1⟩; have HB1 := Lib.hid hb1; clear hb1)
      | (go_at_call 27; refine (HW.out _ HB1.out).mono ?_; rintro e w2 ⟨rfl, hb2⟩))
    go_ret
    exact ⟨rfl, HB1.out.trans (hb2.mono HB1.out.size)⟩
  | true =>
    rw [hwa] at hWA
    have HWA := Lib.hid hWA
    have hT := fun W => escText_any s (by omega) W
    have hA := fun W => escAttr_any s (by omega) W
    have s1 := esc_size (attr := false) (a := s)
    have s2 := esc_size (attr := true) (a := s)
    have b1 : bl (⟨(escR false (bl s)).toArray⟩ : ByteArray) = escR false (bl s) := by simp [bl]
    have b2 : bl (⟨(escR true (bl s)).toArray⟩ : ByteArray) = escR true (bl s) := by simp [bl]
    generalize (⟨(escR false (bl s)).toArray⟩ : ByteArray) = te at *
    generalize (⟨(escR true (bl s)).toArray⟩ : ByteArray) = ve at *
    have HP0 := Lib.hid (pick_any i)
    have hPT : ∀ nm, nm ∈ nm38 → parseL (decL (oB ++ nm ++ cB ++ te ++ sB ++ nm ++ cB)) = (tgTree (bl nm) (bl s), 0, 0) := fun nm hm =>
      tg_parsed (nm_of hm).1 (by rw [bl_length]; exact (nm_of hm).2) (by rw [tg_bytes, b1]) (by omega) HE.out hwa
    have hPA : ∀ nm, nm ∈ nm38 → parseL (decL (oB ++ nm ++ tB ++ ve ++ qB)) = (atTree (bl nm) (bl s), 0, 0) := fun nm hm =>
      at_parsed (nm_of hm).1 (by rw [bl_length]; exact (nm_of hm).2) (by rw [at_bytes, b2]) (by omega) hwa
    have HPT := Lib.hid hPT
    have HPA := Lib.hid hPA
    have HTE := Lib.hid hT
    have HAE := Lib.hid hA
    have HSZ := Lib.hid (And.intro s1 (And.intro s2 hbig))
    clear hWA hwa hT hA s1 s2 b1 b2 hPT hPA hbig
    go_enter Tryz.func10, Tryz.ntmps10
    go_big_wp2_with (first
      | (go_at_call 30; refine (HWA.out _).mono ?_; clear HWA; rintro e w1 ⟨rfl, hb1⟩; have HC := Lib.hid (nm_cells w1 9); have HBp := Lib.hid (hb1.alloc hb1.size (.cells #[.string ⟨#[100, 105, 118]⟩, .string ⟨#[117, 108]⟩, .string ⟨#[111, 108]⟩, .string ⟨#[115, 101, 99, 116, 105, 111, 110]⟩, .string ⟨#[97, 114, 116, 105, 99, 108, 101]⟩, .string ⟨#[104, 101, 97, 100, 101, 114]⟩, .string ⟨#[102, 111, 111, 116, 101, 114]⟩, .string ⟨#[109, 97, 105, 110]⟩, .string ⟨#[110, 97, 118]⟩, .string ⟨#[97, 115, 105, 100, 101]⟩, .string ⟨#[98, 108, 111, 99, 107, 113, 117, 111, 116, 101]⟩, .string ⟨#[102, 105, 103, 117, 114, 101]⟩, .string ⟨#[112]⟩, .string ⟨#[108, 105]⟩, .string ⟨#[104, 49]⟩, .string ⟨#[104, 50]⟩, .string ⟨#[104, 51]⟩, .string ⟨#[104, 52]⟩, .string ⟨#[104, 53]⟩, .string ⟨#[104, 54]⟩, .string ⟨#[115, 112, 97, 110]⟩, .string ⟨#[98]⟩, .string ⟨#[105]⟩, .string ⟨#[101, 109]⟩, .string ⟨#[115, 116, 114, 111, 110, 103]⟩, .string ⟨#[117]⟩, .string ⟨#[115]⟩, .string ⟨#[115, 109, 97, 108, 108]⟩, .string ⟨#[99, 111, 100, 101]⟩, .string ⟨#[98, 100, 105]⟩, .string ⟨#[98, 100, 111]⟩, .string ⟨#[97, 98, 98, 114]⟩, .string ⟨#[99, 105, 116, 101]⟩, .string ⟨#[113]⟩, .string ⟨#[115, 117, 98]⟩, .string ⟨#[115, 117, 112]⟩, .string ⟨#[109, 97, 114, 107]⟩, .string ⟨#[97]⟩] 9)); clear hb1)
      | (go_at_call 31
         go_loud (
           refine (HP0.out _).mono ?_
           clear HP0
           rintro e w2 ⟨⟨k, hk, rfl⟩, rfl⟩
           obtain ⟨nm, hnm⟩ : ∃ nm, nm38[k]? = some nm := ⟨_, List.getElem?_eq_getElem (show k < nm38.length from hk)⟩
           have hkI : (k : Int) < 38 := by omega
           have hcell := HC.out k nm hnm
           generalize w1.alloc (.cells #[.string ⟨#[100, 105, 118]⟩, .string ⟨#[117, 108]⟩, .string ⟨#[111, 108]⟩, .string ⟨#[115, 101, 99, 116, 105, 111, 110]⟩, .string ⟨#[97, 114, 116, 105, 99, 108, 101]⟩, .string ⟨#[104, 101, 97, 100, 101, 114]⟩, .string ⟨#[102, 111, 111, 116, 101, 114]⟩, .string ⟨#[109, 97, 105, 110]⟩, .string ⟨#[110, 97, 118]⟩, .string ⟨#[97, 115, 105, 100, 101]⟩, .string ⟨#[98, 108, 111, 99, 107, 113, 117, 111, 116, 101]⟩, .string ⟨#[102, 105, 103, 117, 114, 101]⟩, .string ⟨#[112]⟩, .string ⟨#[108, 105]⟩, .string ⟨#[104, 49]⟩, .string ⟨#[104, 50]⟩, .string ⟨#[104, 51]⟩, .string ⟨#[104, 52]⟩, .string ⟨#[104, 53]⟩, .string ⟨#[104, 54]⟩, .string ⟨#[115, 112, 97, 110]⟩, .string ⟨#[98]⟩, .string ⟨#[105]⟩, .string ⟨#[101, 109]⟩, .string ⟨#[115, 116, 114, 111, 110, 103]⟩, .string ⟨#[117]⟩, .string ⟨#[115]⟩, .string ⟨#[115, 109, 97, 108, 108]⟩, .string ⟨#[99, 111, 100, 101]⟩, .string ⟨#[98, 100, 105]⟩, .string ⟨#[98, 100, 111]⟩, .string ⟨#[97, 98, 98, 114]⟩, .string ⟨#[99, 105, 116, 101]⟩, .string ⟨#[113]⟩, .string ⟨#[115, 117, 98]⟩, .string ⟨#[115, 117, 112]⟩, .string ⟨#[109, 97, 114, 107]⟩, .string ⟨#[97]⟩] 9) = W2 at *
           have HNM := Lib.hid (List.mem_of_getElem? hnm)
           obtain ⟨m, hm⟩ : ∃ m, nm.size = m := ⟨_, rfl⟩
           have hns : m ≤ 20 := by rw [← hm]; exact (nm_of HNM.out).2
           obtain ⟨ts, hts⟩ : ∃ m, te.size = m := ⟨_, rfl⟩
           obtain ⟨vs, hvs⟩ : ∃ m, ve.size = m := ⟨_, rfl⟩
           have hSZ := HSZ.out
           rw [hts, hvs] at hSZ
           have q1 : ((9223372036854775807 : Int) < 1 + (m : Int)) = False := eq_false (by omega)
           have q2 : ((9223372036854775807 : Int) < 1 + (m : Int) + 1) = False := eq_false (by omega)
           have q3 : ((9223372036854775807 : Int) < 1 + (m : Int) + 1 + (ts : Int)) = False := eq_false (by omega)
           have q4 : ((9223372036854775807 : Int) < 1 + (m : Int) + 1 + (ts : Int) + 2) = False := eq_false (by omega)
           have q5 : ((9223372036854775807 : Int) < 1 + (m : Int) + 1 + (ts : Int) + 2 + (m : Int)) = False := eq_false (by omega)
           have q6 : ((9223372036854775807 : Int) < 1 + (m : Int) + 1 + (ts : Int) + 2 + (m : Int) + 1) = False := eq_false (by omega)
           have q7 : ((9223372036854775807 : Int) < 1 + (m : Int) + 8) = False := eq_false (by omega)
           have q8 : ((9223372036854775807 : Int) < 1 + (m : Int) + 8 + (vs : Int)) = False := eq_false (by omega)
           have q9 : ((9223372036854775807 : Int) < 1 + (m : Int) + 8 + (vs : Int) + 2) = False := eq_false (by omega)
           have r1 : (9223372036854775807 < 1 + m) = False := eq_false (by omega)
           have r2 : (9223372036854775807 < 1 + m + 1) = False := eq_false (by omega)
           have r3 : (9223372036854775807 < 1 + m + 1 + ts) = False := eq_false (by omega)
           have r4 : (9223372036854775807 < 1 + m + 1 + ts + 2) = False := eq_false (by omega)
           have r5 : (9223372036854775807 < 1 + m + 1 + ts + 2 + m) = False := eq_false (by omega)
           have r6 : (9223372036854775807 < 1 + m + 1 + ts + 2 + m + 1) = False := eq_false (by omega)
           have r7 : (9223372036854775807 < 1 + m + 8) = False := eq_false (by omega)
           have r8 : (9223372036854775807 < 1 + m + 8 + vs) = False := eq_false (by omega)
           have r9 : (9223372036854775807 < 1 + m + 8 + vs + 2) = False := eq_false (by omega)
           have z1 : (oB ++ nm ++ cB ++ te ++ sB ++ nm ++ cB).size = 1 + m + 1 + ts + 2 + m + 1 := by
             simp only [ByteArray.size_append, hm, hts]; rfl
           have z2 : (oB ++ nm ++ tB ++ ve ++ qB).size = 1 + m + 8 + vs + 2 := by
             simp only [ByteArray.size_append, hm, hvs]; rfl
           have HZ1 := Lib.hid z1
           have HZ2 := Lib.hid z2
           clear hnm HC hk z1 z2 hSZ))
      | (go_at_call 32
         go_loud (
           refine (HTE.out _).mono ?_
           clear HTE
           rintro e w3 ⟨rfl, hb3⟩
           have HB3 := Lib.hid (HBp.out.trans (hb3.mono HBp.out.size))
           obtain ⟨gc, w4, hcv, hb4, hby⟩ := made_bytes w3 (oB ++ nm ++ cB ++ te ++ sB ++ nm ++ cB) _ HZ1.out
           have HB4 := Lib.hid (HB3.out.trans (hb4.mono HB3.out.size))
           have HP1 := Lib.hid (parse_at (HPT.out nm HNM.out) (m := 3) rfl gc hby (HT.out.on HB4.out) (maxed_on HM.out HB4.out))
           unfold oB cB sB at hcv
           clear hb3 hb4 hby HPT HZ1))
      | (go_at_call 33
         go_loud (
           refine (HAE.out _).mono ?_
           clear HAE
           rintro e w6 ⟨rfl, hb6⟩
           have HB6 := Lib.hid (HB5.out.trans (hb6.mono HB5.out.size))
           obtain ⟨gd, w7, hcv2, hb7, hby⟩ := made_bytes w6 (oB ++ nm ++ tB ++ ve ++ qB) _ HZ2.out
           have HB7 := Lib.hid (HB6.out.trans (hb7.mono HB6.out.size))
           have HP2 := Lib.hid (parse_at (HPA.out nm HNM.out) (m := 2) rfl gd hby (HT.out.on HB7.out) (maxed_on HM.out HB7.out))
           have HF7 := Lib.hid (fun a v (h : w5.cell? a = some v) => show w7.cell? a = some v by rw [(hb6.trans (hb7.mono hb6.size)).cell (World.block_lt_of_cell? _ _ h)]; exact h)
           unfold oB tB qB at hcv2
           clear hb6 hb7 hby HPA HZ2))
      | (go_at_call 17
         (
           refine HP1.out.mono ?_
           clear HP1
           rintro e w5 ⟨ao, cap', L, rfl, hb5, hr, hrd, hL⟩
           have HB5 := Lib.hid (HB4.out.trans (hb5.mono HB4.out.size))
           obtain ⟨u1, v1, x1⟩ := map_at hL (k := 1) rfl
           obtain ⟨u2, v2, x2⟩ := map_at hL (k := 2) rfl
           obtain ⟨g, rfl, a0, a1, a2, a3, a4, a5⟩ := hrd.at_ 1 _ x1
           obtain ⟨g', e', b0, b1, b2, b3, b4, b5⟩ := hrd.at_ 2 _ x2
           obtain rfl : g = g' := by cases e'; rfl
           have HA1 := Lib.hid (show w5.cell? ⟨g, 7, none⟩ = some (.string nm) from a1)
           have HA2 := Lib.hid (show w5.cell? ⟨g, 12, none⟩ = some (.int .u8 2) from b0)
           have HA3 := Lib.hid (show w5.cell? ⟨g, 15, none⟩ = some (.string s) from b3)
           clear hb5 hr hrd hL x1 x2 a0 a1 a2 a3 a4 a5 b0 b1 b2 b3 b4 b5 e' hcv hcell))
      | (go_at_call 17
         go_loud (
           refine HP2.out.mono ?_
           clear HP2
           rintro e w8 ⟨ao2, cap2, L2, rfl, hb8, hr, hrd, hL⟩
           have HB8 := Lib.hid (HB7.out.trans (hb8.mono HB7.out.size))
           have f8 := fun a v (h : w7.cell? a = some v) => show w8.cell? a = some v by rw [hb8.cell (World.block_lt_of_cell? _ _ h)]; exact h
           have d1 := f8 _ _ (HF7.out _ _ HA1.out)
           have d2 := f8 _ _ (HF7.out _ _ HA2.out)
           have d3 := f8 _ _ (HF7.out _ _ HA3.out)
           obtain ⟨u1', v1', x1⟩ := map_at hL (k := 1) rfl
           obtain ⟨g2, rfl, a0, a1, a2, a3, a4, a5⟩ := hrd.at_ 1 _ x1
           obtain ⟨at0, atc, hu, hat⟩ := (hr.attrs _ (List.mem_of_getElem? x1)).reads
           obtain ⟨g3, rfl, t0, t1⟩ := hat.at_ 0 _ rfl
           obtain rfl : u1' = .slice (some ⟨g3, 0, none⟩) 1 atc := hu
           have t1' : w8.cell? ⟨g3, 1, none⟩ = some (.string s) := t1
           clear hb8 hr hrd hL x1 a0 a1 a3 a4 a5 t0 t1 f8 HF7 HA1 HA2 HA3 hcv2))
      | (go_at_call 27; refine (HW.out _ HB8.out).mono ?_; rintro e w9 ⟨rfl, hb9⟩))
    go_ret
    exact ⟨rfl, HB8.out.trans (hb9.mono HB8.out.size)⟩
end Go.Proofs.YtnfkndaggcklkaaGreatDoor

namespace Go.Proofs.YtnfkndaggcklkaaGreatDoor
open Go.RowKit Go.RunKit Go.UtfKit Go.CharrefKit Go.Lib Go.TokenKit Go.TreeKit Go.ChangeShapes Go.WideShapes Go.ChangeAt

theorem vgFirst : Tryz.prog.globalNamed "unicode/utf8.first" = some 0 := by kernel_rfl
theorem vgAcc : Tryz.prog.globalNamed "unicode/utf8.acceptRanges" = some 1 := by kernel_rfl
theorem vtFirst : (Tryz.prog.globals[0]?).map (·.type) = some 158 := by kernel_rfl
theorem vtAcc : (Tryz.prog.globals[1]?).map (·.type) = some 161 := by kernel_rfl
theorem vuFirst : Tryz.prog.underlying 158 = some (.array 256 5) := by kernel_rfl
theorem vuAcc : Tryz.prog.underlying 161 = some (.array 16 160) := by kernel_rfl
theorem vuByte : Tryz.prog.underlying 5 = some (.int .u8) := by kernel_rfl
theorem vfirstData : (Rows.laid_unicode_utf8_first : DataW Unit) = tabData .u8 ((List.range 256).map fun b => (firstT b : Int)) := by kernel_rfl

theorem vpair_cells {H : Type} {enc : TypeId × Value → H} {w : World} {base : Nat} {sp : Nat → Bool} {held : Bool} {fuel : Nat} {cs : List Value} {lo hi : Int} {p : List MemPlace}
    (h : DataW.trod enc Tryz.prog w base sp held fuel 160 cs = some (.agg [.lit (.int .u8 lo), .lit (.int .u8 hi)], p)) : cs[0]? = some (.int .u8 lo) ∧ cs[1]? = some (.int .u8 hi) := by
  obtain ⟨xs, m, rfl, hx, hlen, hn, hel⟩ := DataW.trod_struct Tryz.underlying160 h
  have c1 : Tryz.prog.cellsOf 5 = 1 := by kernel_rfl
  simp only [Prod.mk.injEq, DataW.agg.injEq] at hx
  have h0 := hel 0 _ rfl
  have h1 := hel 1 _ rfl
  change DataW.trod _ _ _ _ _ _ m 5 ((cs.drop 0).take (Tryz.prog.cellsOf 5)) = _ at h0
  change DataW.trod _ _ _ _ _ _ m 5 ((cs.drop 1).take (Tryz.prog.cellsOf 5)) = _ at h1
  rw [c1] at h0 h1
  match xs, hn, hx, h0, h1 with
  | [x0, x1], _, hx, h0, h1 =>
    simp only [List.map_cons, List.map_nil, List.cons.injEq] at hx
    obtain ⟨a, e1, e2, _⟩ := DataW.trod_int vuByte (show DataW.trod _ Tryz.prog w _ _ _ m 5 _ = some x0 from h0)
    obtain ⟨b, e3, e4, _⟩ := DataW.trod_int vuByte (show DataW.trod _ Tryz.prog w _ _ _ m 5 _ = some x1 from h1)
    rw [e2, e4] at hx
    have ha : a = lo := by simpa using hx.1.1.symm
    have hb : b = hi := by simpa using hx.1.2.1.symm
    subst ha; subst hb
    have f0 := congrArg (·[0]?) e1
    have f1 := congrArg (·[0]?) e3
    simp at f0 f1
    exact ⟨f0, f1⟩

theorem vtabs_of {W : World} (h : laidMet Tryz.prog [("unicode/utf8.acceptRanges", Rows.laid_unicode_utf8_acceptRanges), ("unicode/utf8.first", Rows.laid_unicode_utf8_first)] W) : VTabs W := by
  obtain ⟨ps, ⟨g0, t0, cs0, f0, p0, q0, hg0, ht0, hv0, hd0, ⟨g1, t1, cs1, f1, p1, q1, hg1, ht1, hv1, hd1, _, _⟩, _⟩, _⟩ := h
  obtain rfl := Option.some.inj (vgAcc.symm.trans hg0)
  obtain rfl := Option.some.inj (vgFirst.symm.trans hg1)
  obtain rfl := Option.some.inj (vtAcc.symm.trans ht0)
  obtain rfl := Option.some.inj (vtFirst.symm.trans ht1)
  rw [vfirstData] at hd1
  have e1 := cells_of_tab vuFirst vuByte (by kernel_rfl) (by kernel_rfl) hd1
  obtain ⟨xs, m, rfl, hx, hlen, hn, hel⟩ := DataW.trod_array vuAcc hd0
  have c2 : Tryz.prog.cellsOf 160 = 2 := by kernel_rfl
  rw [c2] at hel
  simp only [Rows.laid_unicode_utf8_acceptRanges, Prod.mk.injEq, DataW.agg.injEq] at hx
  have hk : ∀ i (lo hi : Int), i < 16 → (xs.map (·.1))[i]? = some (.agg [.lit (.int .u8 lo), .lit (.int .u8 hi)]) → cs0[i * 2]? = some (.int .u8 lo) ∧ cs0[i * 2 + 1]? = some (.int .u8 hi) := by
    intro i lo hi hi16 hd
    have h := hel i hi16
    cases hxi : xs[i]? with
    | none => rw [List.getElem?_map, hxi] at hd; cases hd
    | some x =>
      obtain ⟨x1, x2⟩ := x
      rw [List.getElem?_map, hxi] at hd
      simp only [Option.map_some, Option.some.injEq] at hd
      subst hd
      rw [hxi] at h
      have hp := vpair_cells h
      obtain ⟨hp1, hp2⟩ := hp
      refine ⟨?_, ?_⟩
      · simpa [List.getElem?_take, List.getElem?_drop] using hp1
      · simpa [List.getElem?_take, List.getElem?_drop] using hp2
  rw [← hx.1] at hk
  have v0 := fun i => World.var?_cell hg0 hv0 i
  have v1 := fun i => World.var?_cell hg1 hv1 i
  refine ⟨fun b hb => ?_, fun i hi => ⟨?_, ?_⟩⟩
  · refine (v1 b).trans ?_
    have e2 : cs1 = (((List.range 256).map fun b => (firstT b : Int)).map fun z => Value.int .u8 z).toArray := by rw [← e1]
    rw [e2]
    simp [hb]
  · rw [Nat.mul_comm]
    refine (v0 (i * 2)).trans ?_
    refine (hk i (accLo i) (accHi i) hi ?_).1
    rcases (by omega : i = 0 ∨ i = 1 ∨ i = 2 ∨ i = 3 ∨ i = 4 ∨ i = 5 ∨ i = 6 ∨ i = 7 ∨ i = 8 ∨ i = 9 ∨ i = 10 ∨ i = 11 ∨ i = 12 ∨ i = 13 ∨ i = 14 ∨ i = 15) with rfl | rfl | rfl | rfl | rfl | rfl | rfl | rfl | rfl | rfl | rfl | rfl | rfl | rfl | rfl | rfl <;> rfl
  · rw [Nat.mul_comm]
    refine (v0 (i * 2 + 1)).trans ?_
    refine (hk i (accLo i) (accHi i) hi ?_).2
    rcases (by omega : i = 0 ∨ i = 1 ∨ i = 2 ∨ i = 3 ∨ i = 4 ∨ i = 5 ∨ i = 6 ∨ i = 7 ∨ i = 8 ∨ i = 9 ∨ i = 10 ∨ i = 11 ∨ i = 12 ∨ i = 13 ∨ i = 14 ∨ i = 15) with rfl | rfl | rfl | rfl | rfl | rfl | rfl | rfl | rfl | rfl | rfl | rfl | rfl | rfl | rfl | rfl <;> rfl
end Go.Proofs.YtnfkndaggcklkaaGreatDoor

namespace Go.Proofs.YtnfkndaggcklkaaGreatDoor.U
open Go.RowKit Go.RunKit Go.UtfKit Go.Lib Go.ChangeShapes Go.WideShapes Go.ChangeAt

theorem gFirst : Tryz.prog.globalNamed "unicode/utf8.first" = some 0 := by kernel_rfl
theorem gAcc : Tryz.prog.globalNamed "unicode/utf8.acceptRanges" = some 1 := by kernel_rfl
theorem tFirst : (Tryz.prog.globals[0]?).map (·.type) = some 158 := by kernel_rfl
theorem tAcc : (Tryz.prog.globals[1]?).map (·.type) = some 161 := by kernel_rfl
theorem uFirst : Tryz.prog.underlying 158 = some (.array 256 5) := by kernel_rfl
theorem uAcc : Tryz.prog.underlying 161 = some (.array 16 160) := by kernel_rfl
theorem uByte : Tryz.prog.underlying 5 = some (.int .u8) := by kernel_rfl
theorem firstData : (Rows.laid_unicode_utf8_first : DataW Unit) = tabData .u8 ((List.range 256).map fun b => (firstT b : Int)) := by kernel_rfl

theorem pair_cells {H : Type} {enc : TypeId × Value → H} {w : World} {base : Nat} {sp : Nat → Bool} {held : Bool} {fuel : Nat} {cs : List Value} {lo hi : Int} {p : List MemPlace}
    (h : DataW.trod enc Tryz.prog w base sp held fuel 160 cs = some (.agg [.lit (.int .u8 lo), .lit (.int .u8 hi)], p)) : cs[0]? = some (.int .u8 lo) ∧ cs[1]? = some (.int .u8 hi) := by
  obtain ⟨xs, m, rfl, hx, hlen, hn, hel⟩ := DataW.trod_struct Tryz.underlying160 h
  have c1 : Tryz.prog.cellsOf 5 = 1 := by kernel_rfl
  simp only [Prod.mk.injEq, DataW.agg.injEq] at hx
  have h0 := hel 0 _ rfl
  have h1 := hel 1 _ rfl
  change DataW.trod _ _ _ _ _ _ m 5 ((cs.drop 0).take (Tryz.prog.cellsOf 5)) = _ at h0
  change DataW.trod _ _ _ _ _ _ m 5 ((cs.drop 1).take (Tryz.prog.cellsOf 5)) = _ at h1
  rw [c1] at h0 h1
  match xs, hn, hx, h0, h1 with
  | [x0, x1], _, hx, h0, h1 =>
    simp only [List.map_cons, List.map_nil, List.cons.injEq] at hx
    obtain ⟨a, e1, e2, _⟩ := DataW.trod_int uByte (show DataW.trod _ Tryz.prog w _ _ _ m 5 _ = some x0 from h0)
    obtain ⟨b, e3, e4, _⟩ := DataW.trod_int uByte (show DataW.trod _ Tryz.prog w _ _ _ m 5 _ = some x1 from h1)
    rw [e2, e4] at hx
    have ha : a = lo := by simpa using hx.1.1.symm
    have hb : b = hi := by simpa using hx.1.2.1.symm
    subst ha; subst hb
    have f0 := congrArg (·[0]?) e1
    have f1 := congrArg (·[0]?) e3
    simp at f0 f1
    exact ⟨f0, f1⟩

theorem tabs_of {W : World} (h : laidMet Tryz.prog [("unicode/utf8.acceptRanges", Rows.laid_unicode_utf8_acceptRanges), ("unicode/utf8.first", Rows.laid_unicode_utf8_first)] W) : Tabs W := by
  obtain ⟨ps, ⟨g0, t0, cs0, f0, p0, q0, hg0, ht0, hv0, hd0, ⟨g1, t1, cs1, f1, p1, q1, hg1, ht1, hv1, hd1, _, _⟩, _⟩, _⟩ := h
  obtain rfl := Option.some.inj (gAcc.symm.trans hg0)
  obtain rfl := Option.some.inj (gFirst.symm.trans hg1)
  obtain rfl := Option.some.inj (tAcc.symm.trans ht0)
  obtain rfl := Option.some.inj (tFirst.symm.trans ht1)
  rw [firstData] at hd1
  have e1 := cells_of_tab uFirst uByte (by kernel_rfl) (by kernel_rfl) hd1
  obtain ⟨xs, m, rfl, hx, hlen, hn, hel⟩ := DataW.trod_array uAcc hd0
  have c2 : Tryz.prog.cellsOf 160 = 2 := by kernel_rfl
  rw [c2] at hel
  simp only [Rows.laid_unicode_utf8_acceptRanges, Prod.mk.injEq, DataW.agg.injEq] at hx
  have hk : ∀ i (lo hi : Int), i < 16 → (xs.map (·.1))[i]? = some (.agg [.lit (.int .u8 lo), .lit (.int .u8 hi)]) → cs0[i * 2]? = some (.int .u8 lo) ∧ cs0[i * 2 + 1]? = some (.int .u8 hi) := by
    intro i lo hi hi16 hd
    have h := hel i hi16
    cases hxi : xs[i]? with
    | none => rw [List.getElem?_map, hxi] at hd; cases hd
    | some x =>
      obtain ⟨x1, x2⟩ := x
      rw [List.getElem?_map, hxi] at hd
      simp only [Option.map_some, Option.some.injEq] at hd
      subst hd
      rw [hxi] at h
      have hp := pair_cells h
      obtain ⟨hp1, hp2⟩ := hp
      refine ⟨?_, ?_⟩
      · simpa [List.getElem?_take, List.getElem?_drop] using hp1
      · simpa [List.getElem?_take, List.getElem?_drop] using hp2
  rw [← hx.1] at hk
  have v0 := fun i => World.var?_cell hg0 hv0 i
  have v1 := fun i => World.var?_cell hg1 hv1 i
  refine ⟨fun b hb => ?_, fun i hi => ?_, fun i hi => ?_⟩
  · rw [v1 b]
    have e2 : cs1 = (((List.range 256).map fun b => (firstT b : Int)).map fun z => Value.int .u8 z).toArray := by rw [← e1]
    rw [e2]
    simp [hb]
  · rw [v0 (i * 2)]
    refine (hk i (accLo i) (accHi i) (by omega) ?_).1
    rcases (by omega : i = 0 ∨ i = 1 ∨ i = 2 ∨ i = 3 ∨ i = 4) with rfl | rfl | rfl | rfl | rfl <;> rfl
  · rw [v0 (i * 2 + 1)]
    refine (hk i (accLo i) (accHi i) (by omega) ?_).2
    rcases (by omega : i = 0 ∨ i = 1 ∨ i = 2 ∨ i = 3 ∨ i = 4) with rfl | rfl | rfl | rfl | rfl <;> rfl
end Go.Proofs.YtnfkndaggcklkaaGreatDoor.U

namespace Go.Proofs.YtnfkndaggcklkaaGreatDoor
open Go.RowKit Go.RunKit Go.Lib Go.TokenKit

theorem maxed_of {W : World} (h : W.ShapedOpen Tryz.prog) : Maxed W W.heap.size := by
  have hs := Tryz.laysM145.s1_3 W h
  obtain ⟨m, hm⟩ := hs
  exact ⟨⟨m, hm⟩, World.block_lt_of_cell? _ _ hm⟩

variable {H : Type} {enc : TypeId × Value → H}
/-- A contract that is handed the shape of its world makes the row's step. -/
theorem step_shaped {C : Checked} {os : Os} {f : FuncId} {fn : Func} {s : ChangeSpec} {X : World → Prop} (hX : ∀ w w' : World, w.heap = w'.heap → X w → X w')
    (own : ownKnob C.prog.godebug = none) (started : os.Started) (noInit : C.prog.inits.idxOf? f = none) (hfn : C.prog.funcs[f]? = some fn)
    (witness : ∃ (w : World) (tape : Tape) (i : Input), w.os = os ∧ (w.forCall tape i).Shaped C.prog ∧ i.vars = [] ∧ Input.okWide C.prog (w.forCall tape i) .any w.heap.size f i ∧
      ((s.pre enc C.prog fn [] false (w.forCall tape i).memory i.args ∧ X (w.forCall tape i).memory) ∧ sizedMet enc C.prog fn (OpenSpec.ofChange s) false (w.forCall tape i).memory i.args) ∧ ({} : Assume).holds C.prog (lone (Frame.enter C.prog f i.args .normal) [] (w.forCall tape i)))
    (told : ∀ (W : World) (base : Nat) (args : Array Value) (ds gs : List (DataW H)) (before : List MemPlace), W.ShapedOpen C.prog → X W →
      (∀ (j : Nat) t v, fn.params[j]? = some t → args[j]? = some v → Value.okWide C.prog W .any base t v) → DataW.Whole enc C.prog fn.params.toList s.vars false W args.toList ds gs before →
      Calls C.prog f args W fun e W' => ∃ v, e = .returned v ∧ s.post enc C.prog fn false true false false W args v W') :
    ReturnsInHanded {} C os f .any (fun w args => (s.pre enc C.prog fn [] false w args ∧ X w) ∧ sizedMet enc C.prog fn (OpenSpec.ofChange s) false w args) (s.post enc C.prog fn false true false false) := by
  apply returnsInHanded_of_calls own started noInit witness
  intro w tape i _ shape _ hok ⟨⟨⟨ds, gs, before, whole, _⟩, x⟩, _⟩ _
  obtain ⟨_, _, _, g, hg, _, _, _, _, vals⟩ := hok
  cases hg.symm.trans hfn
  have whole' := DataW.Whole.of_heap (w' := w.forCall tape i) (by rfl) whole
  refine (told _ _ _ ds gs before shape (hX _ _ (by rfl) x) vals whole').mono ?_
  rintro e W' ⟨v, rfl, post⟩
  exact ChangeSpec.post_blind post
end Go.Proofs.YtnfkndaggcklkaaGreatDoor

namespace Go.Proofs.YtnfkndaggcklkaaGreatDoor
open Go.RowKit Go.RunKit Go.Lib Go.TokenKit
variable {H : Type} {enc : TypeId × Value → H}
theorem step_sized {C : Checked} {os : Os} {f : FuncId} {fn : Func} {s : ChangeSpec} {X : World → Prop} (hX : ∀ w w' : World, w.heap = w'.heap → X w → X w')
    (own : ownKnob C.prog.godebug = none) (started : os.Started) (noInit : C.prog.inits.idxOf? f = none) (hfn : C.prog.funcs[f]? = some fn)
    (witness : ∃ (w : World) (tape : Tape) (i : Input), w.os = os ∧ (w.forCall tape i).Shaped C.prog ∧ i.vars = [] ∧ Input.okWide C.prog (w.forCall tape i) .any w.heap.size f i ∧
      ((s.pre enc C.prog fn [] false (w.forCall tape i).memory i.args ∧ X (w.forCall tape i).memory) ∧ sizedMet enc C.prog fn (OpenSpec.ofChange s) false (w.forCall tape i).memory i.args) ∧ ({} : Assume).holds C.prog (lone (Frame.enter C.prog f i.args .normal) [] (w.forCall tape i)))
    (told : ∀ (W : World) (base : Nat) (args : Array Value) (ds gs : List (DataW H)) (before : List MemPlace), W.ShapedOpen C.prog → X W →
      (DataW.weightsEach C.prog (fn.params.toList ++ s.plain.varTypes C.prog) (ds ++ gs)).all (· ≤ reachBytes) = true →
      (∀ (j : Nat) t v, fn.params[j]? = some t → args[j]? = some v → Value.okWide C.prog W .any base t v) → DataW.Whole enc C.prog fn.params.toList s.vars false W args.toList ds gs before →
      Calls C.prog f args W fun e W' => ∃ v, e = .returned v ∧ s.post enc C.prog fn false true false false W args v W') :
    ReturnsInHanded {} C os f .any (fun w args => (s.pre enc C.prog fn [] false w args ∧ X w) ∧ sizedMet enc C.prog fn (OpenSpec.ofChange s) false w args) (s.post enc C.prog fn false true false false) := by
  apply returnsInHanded_of_calls own started noInit witness
  intro w tape i _ shape _ hok ⟨⟨⟨ds, gs, before, whole, _⟩, x⟩, hz⟩ _
  obtain ⟨_, _, _, g, hg, _, _, _, _, vals⟩ := hok
  cases hg.symm.trans hfn
  have whole' := DataW.Whole.of_heap (w' := w.forCall tape i) (by rfl) whole
  refine (told _ _ _ ds gs before shape (hX _ _ (by rfl) x) (hz.weights whole) vals whole').mono ?_
  rintro e W' ⟨v, rfl, post⟩
  exact ChangeSpec.post_blind post
end Go.Proofs.YtnfkndaggcklkaaGreatDoor

