/-
  Serialize's closure of package serial, which calls itself: a node's document, and its children's. Conditions: children stand behind their parent; names are no longer than 2^20 bytes; a text is not empty.
  Serialize of package serial, by contract. Conditions: names of attributes are no longer than 2^20 bytes; the library's two tables hold what its text lays.
  The chapter's second example, of documents. Conditions: the library's two tables hold what its text lays.
  What is escaped, decoded; names with their sign; two texts with a blank between. No conditions.
  SerialJoins: what two strings are escaped to, one behind the other. Conditions: the library's two tables hold what its text lays.
  SerialBack: what is escaped, its references read, is what it was. Conditions: the library's two tables hold what its text lays.
-/
import Derived.Test.YtnfkndaggcklkaaGreatDoorPA19
import Derived.Test.YtnfkndaggcklkaaGreatDoorPA20
import Derived.Laws.EntriesVeiled
import Derived.Test.YtnfkndaggcklkaaGreatDoorPA3
import Derived.Test.YtnfkndaggcklkaaGreatDoorPA4
import Derived.Test.YtnfkndaggcklkaaGreatDoorPA16
import Derived.Test.YtnfkndaggcklkaaGreatDoorPA17
import Derived.Test.YtnfkndaggcklkaaGreatDoorPA6
namespace Go.SerialKit
open Go Go.Lib Go.TokenKit Go.TreeKit
/-- What is written of a node and what is below it, unless it is too long already. -/
def writeF (T : List NI) : Nat → Nat → Bytes × Bool → Bytes × Bool
  | 0, _, d => d
  | f + 1, i, d => if d.2 = true then d else endD ((T.getD i noNI).kids.foldl (fun d k => writeF T f k.toNat d) (beginL d (T.getD i noNI))) (T.getD i noNI)
theorem writeF_succ (T : List NI) (f i : Nat) (d : Bytes × Bool) : writeF T (f + 1) i d = if d.2 = true then d else endD ((T.getD i noNI).kids.foldl (fun d k => writeF T f k.toNat d) (beginL d (T.getD i noNI))) (T.getD i noNI) := rfl
/-- Children stand behind their parent, and are there. -/
def KidsIn (T : List NI) : Prop := ∀ (i : Nat) (x : NI), T[i]? = some x → ∀ k, k ∈ x.kids → (i : Int) < k ∧ k < (T.length : Int)
theorem foldl_len {T : List NI} {f : Nat} (ih : ∀ (i : Nat) (d : Bytes × Bool), d.1.length ≤ 65536 → (writeF T f i d).1.length ≤ 65536) : ∀ (l : List Int) (d : Bytes × Bool), d.1.length ≤ 65536 → (l.foldl (fun d k => writeF T f k.toNat d) d).1.length ≤ 65536
  | [], _, h => h
  | _ :: r, d, h => foldl_len ih r _ (ih _ d h)
theorem writeF_len (T : List NI) : ∀ (f i : Nat) (d : Bytes × Bool), d.1.length ≤ 65536 → (writeF T f i d).1.length ≤ 65536
  | 0, _, _, h => h
  | f + 1, i, d, h => by
    unfold writeF
    split
    · exact h
    · exact endD_len (foldl_len (writeF_len T f) _ _ (beginL_len h _)) _
theorem kids_in {T : List NI} {i : Nat} : ∀ {l : List Int} {last : Nat}, i ≤ last → kidsL T i last l = true → ∀ k, k ∈ l → (i : Int) < k ∧ k < (T.length : Int)
  | [], _, _, _, _, hk => by cases hk
  | k0 :: r, last, hil, h, k, hk => by
    unfold kidsL at h
    split at h
    · cases h
    · split at h
      · cases h
      · split at h
        · split at h
          · cases h
          · rcases List.mem_cons.1 hk with rfl | hk
            · omega
            · exact kids_in (l := r) (last := k0.toNat) (by omega) h k hk
        · cases h
theorem haveF_kids {T : List NI} : ∀ (f i c r : Nat), haveF T f i c = some r → ∀ j, i ≤ j → j < i + f → kidsL T j j (T.getD j noNI).kids = true
  | 0, _, _, _, _, j, h1, h2 => by omega
  | f + 1, i, c, r, h, j, h1, h2 => by
    unfold haveF at h
    split at h
    · rename_i hk
      by_cases e : j = i
      · subst e; exact hk
      · exact haveF_kids f (i + 1) _ r h j (by omega) (by omega)
    · cases h
theorem haveKids_in {T : List NI} (h : haveKidsB T = true) : KidsIn T := by
  intro i x hx k hk
  unfold haveKidsB at h
  cases hh : haveF T T.length 0 0 with
  | none => rw [hh] at h; cases h
  | some c =>
    have hi := (List.getElem?_eq_some_iff.1 hx).1
    have e : T.getD i noNI = x := by rw [List.getD_eq_getElem?_getD, hx]; rfl
    have := haveF_kids T.length 0 0 c hh i (Nat.zero_le _) (by omega)
    rw [e] at this
    exact kids_in (Nat.le_refl _) this k hk
end Go.SerialKit
namespace Go.Proofs.YtnfkndaggcklkaaGreatDoor
open Go.RowKit Go.RunKit Go.UtfKit Go.CharrefKit Go.Lib Go.TokenKit Go.TreeKit Go.SerialKit

abbrev TTr : TypeId := 28
abbrev TFn : TypeId := 85
/-- The cells that the closure has: the tree's, its own. -/
structure Caught (b bx cl g o n cap : Nat) (W : World) : Prop where
  tree : W.heap[bx]? = some (.cells #[.slice (some ⟨g, o, none⟩) n cap] TTr (0, 0))
  self : W.heap[cl]? = some (.cells #[.func (.func 53) #[] #[.pointer (some ⟨b, 0, none⟩), .pointer (some ⟨bx, 0, none⟩), .pointer (some ⟨cl, 0, none⟩)]] TFn (0, 0))
  apart : bx ≠ b ∧ cl ≠ b
theorem Caught.kept {b bx cl g o n cap : Nat} {W W' : World} (h : Caught b bx cl g o n cap W) (hk : KeepD b W W') : Caught b bx cl g o n cap W' :=
  ⟨hk _ _ h.tree (fun e => h.apart.1 (Option.some.inj e)) (fun c fz e => by cases e), hk _ _ h.self (fun e => h.apart.2 (Option.some.inj e)) (fun c fz e => by cases e), h.apart⟩

set_option maxRecDepth 100000 in
set_option maxHeartbeats 8000000 in
theorem write_any (w0 : World) (b bx cl g o n cap : Nat) (T : List NI) (hn : n = T.length) (hn2 : n ≤ 16384) (hT : TreeIn w0 g o T) (hK : KidsIn T) (hM : ∀ x, x ∈ T → Mild x) :
    ∀ (f i : Nat) (d : Bytes × Bool) (W : World), n - i ≤ f → i < n → d.1.length ≤ 65536 → DocAt w0 b d W → Caught b bx cl g o n cap W →
    Calls Tryz.prog 53 (#[.int .i64 ((i : Nat) : Int)] ++ #[.pointer (some ⟨b, 0, none⟩), .pointer (some ⟨bx, 0, none⟩), .pointer (some ⟨cl, 0, none⟩)]) W fun e w' => e = .returned (.tuple #[]) ∧ DocAt w0 b (writeF T f i d) w' ∧ KeepD b W w'
  | 0, i, d, W, hf, hi, _, _, _ => by omega
  | f + 1, i, d, W, hf, hi, hl, hD, hC => by
    have IH := Lib.hid (write_any w0 b bx cl g o n cap T hn hn2 hT hK hM f)
    have hiT : i < T.length := by omega
    have hx := hT.at_ i _ (node_at hiT)
    have hmem : T.getD i noNI ∈ T := List.mem_of_getElem? (node_at hiT)
    have hmild := hM _ hmem
    have hkids := hK i _ (node_at hiT)
    obtain ⟨x, hxx⟩ : ∃ x, T.getD i noNI = x := ⟨_, rfl⟩
    rw [hxx] at hx hmild hkids
    obtain ⟨m, hm⟩ : ∃ m, o + i * 6 = m := ⟨_, rfl⟩
    rw [hm] at hx
    have hiI : (i : Int) < (n : Int) := by omega
    obtain ⟨pa, bv, hB, hTx⟩ := hD.ex
    obtain ⟨⟨x0, x1, x2⟩, y0, y1, y2⟩ := doc3 hB.blk
    by_cases hlong : d.2 = true
    · have e : writeF T (f + 1) i d = d := by rw [writeF_succ, if_pos hlong]
      rw [e]
      rw [hlong] at x2
      have HD := Lib.hid hD
      clear e hx hmild hkids hB hTx hD hC hK hM hT hmem hxx hlong
      go_enter Tryz.func53, Tryz.ntmps53
      go_big_wp2
      refine bodyPost_ret (results_none rfl _ _ _) rfl ?_
      exact ⟨rfl, HD.out, Lib.OthersKept.refl _ _ _⟩
    · have hl2 : d.2 = false := by simpa using hlong
      rw [hl2] at x2
      have e : writeF T (f + 1) i d = endD (x.kids.foldl (fun d k => writeF T f k.toNat d) (beginL d x)) x := by rw [writeF_succ, if_neg hlong, hxx]
      rw [e]
      have c1 : W.cell? ⟨bx, 0, none⟩ = some (.slice (some ⟨g, o, none⟩) n cap) := by rw [cell_of_row _ _ 0 _ _ _ hC.tree]; rfl
      have HBe := Lib.hid (begin06_any w0 b g m x d W hmild hl hx hD)
      have hlb := beginL_len hl x
      obtain ⟨d1, hd1⟩ : ∃ d1, beginL d x = d1 := ⟨_, rfl⟩
      rw [hd1] at HBe hlb
      rw [hd1]
      have HC := Lib.hid hC
      have HX := Lib.hid hx
      have HKi := Lib.hid hkids
      obtain ⟨ko, kcap, hck, hKI, hkl⟩ := hx.kids
      obtain ⟨q, hq⟩ : ∃ q, x.kids.length = q := ⟨_, rfl⟩
      rw [hq] at hck hkl
      have HCk := Lib.hid hck
      have HKI := Lib.hid hKI
      have HQ := Lib.hid hq
      obtain ⟨d2, hd2⟩ : ∃ d2, x.kids.foldl (fun d k => writeF T f k.toNat d) d1 = d2 := ⟨_, rfl⟩
      rw [hd2]
      have D0 : Hid ((x.kids.drop 0).foldl (fun d k => writeF T f k.toNat d) d1 = d2) := Lib.hid hd2
      have HEn := Lib.hid fun (W1 : World) (dd : Bytes × Bool) (hdl : dd.1.length ≤ 65536) (h1 : DocAt w0 b dd W1) => end06_any w0 b g m x dd W1 hmild hdl hx h1
      have HLn := Lib.hid (writeF_len T f)
      have hnH := Lib.hid hn
      have HL1 := Lib.hid hlb
      have eg : ∀ args w, (callFunc 53 args).run Tryz.prog w = .ok (.enter 53 args) w := enters_of Tryz.func53 (by kernel_rfl) rfl
      clear e hx hmild hkids hB hTx hD hC hK hM hT hmem hxx hlong hl2 hd1 hd2 hck hKI hq hlb hn
      go_enter Tryz.func53, Tryz.ntmps53
      go_big_wp2_with (go_at_call 54
                       go_loud (
                         refine HBe.out.mono ?_
                         rintro e w1 ⟨rfl, hD1, hK1⟩
                         have c2 : w1.cell? ⟨g, m + 5, none⟩ = some (.slice ko q kcap) := by rw [hD1.below.cell (World.block_lt_of_cell? _ _ HCk.out)]; exact HCk.out
                         have HD1 := Lib.hid hD1
                         have HK1 := Lib.hid hK1
                         clear hD1 hK1))
      go_loopw [20] (fun a wr => ∃ (j : Nat) (dj : Bytes × Bool), a = .int .i64 ((j : Nat) : Int) ∧ j ≤ q ∧ Hid (DocAt w0 b dj wr) ∧ Hid (KeepD b W wr) ∧ Hid ((x.kids.drop j).foldl (fun d k => writeF T f k.toNat d) dj = d2) ∧ Hid (dj.1.length ≤ 65536)) (fun a _ => q - (RowKit.intOf a).toNat)
      case atStart => exact ⟨0, d1, rfl, Nat.zero_le _, HD1, HK1, D0, HL1⟩
      case round =>
        clear HD1 HK1 D0 HL1 c2 c1 x0 x1 x2 y0 y1 y2
        obtain ⟨j, dj, rfl, hj, HDj, HKj, HE, HLj⟩ := hrel
        by_cases hlt : j < q
        · have hltI : (j : Int) < (q : Int) := by omega
          obtain ⟨k, hk⟩ : ∃ k, x.kids[j]? = some k := ⟨_, List.getElem?_eq_getElem (by have := HQ.out; omega)⟩
          have hdr : x.kids.drop j = k :: x.kids.drop (j + 1) := by
            obtain ⟨h', e⟩ := List.getElem?_eq_some_iff.1 hk
            rw [List.drop_eq_getElem_cons h', e]
          rw [hdr] at HE
          have hkin := HKi.out k (List.mem_of_getElem? hk)
          obtain ⟨kn, rfl⟩ : ∃ kn : Nat, k = (kn : Int) := ⟨k.toNat, by omega⟩
          obtain ⟨gk, ok, hko, hcell⟩ := (HKI.out.on HDj.out.below).at_ j _ hk
          subst hko
          have c3 : wr.cell? ⟨cl, 0, none⟩ = some (.func (.func 53) #[] #[.pointer (some ⟨b, 0, none⟩), .pointer (some ⟨bx, 0, none⟩), .pointer (some ⟨cl, 0, none⟩)]) := by rw [cell_of_row _ _ 0 _ _ _ (HC.out.kept HKj.out).self]; rfl
          have HW := Lib.hid (IH.out kn dj wr (by have := hnH.out; omega) (by have := hnH.out; omega) HLj.out HDj.out (HC.out.kept HKj.out))
          have hE2 : (x.kids.drop (j + 1)).foldl (fun d k => writeF T f k.toNat d) (writeF T f kn dj) = d2 := HE.out
          have HE2 := Lib.hid hE2
          have HL2 := Lib.hid (HLn.out kn dj HLj.out)
          clear hE2 hdr hk hkin HE
          go_big_wp2_with (go_at_fn 53
                           go_loud (
                             refine HW.out.mono ?_
                             rintro e w2 ⟨rfl, hD2, hK2⟩
                             have HD2 := Lib.hid (And.intro hD2 (HKj.out.trans hK2))
                             clear hD2 hK2))
          exact ⟨⟨j + 1, _, by go_num, by omega, Lib.hid HD2.out.1, Lib.hid HD2.out.2, HE2, HL2⟩, by simp [RowKit.intOf]; omega⟩
        · have hjq : j = q := by omega
          have hdn : x.kids.drop j = [] := List.drop_eq_nil_of_le (by have := HQ.out; omega)
          rw [hdn] at HE
          have hdj : dj = d2 := HE.out
          have hltI : ¬ (j : Int) < (q : Int) := by omega
          have HN := Lib.hid (HEn.out wr dj HLj.out HDj.out)
          rw [hdj] at HN
          clear hdn hdj hjq HE
          go_big_wp2_with (go_at_call 55; refine HN.out.mono ?_; rintro e w3 ⟨rfl, hD3, hK3⟩; have HD3 := Lib.hid (And.intro hD3 (HKj.out.trans hK3)); clear hD3 hK3)
          go_end0
          exact ⟨rfl, HD3.out.1, HD3.out.2⟩
end Go.Proofs.YtnfkndaggcklkaaGreatDoor

namespace Go.Proofs.YtnfkndaggcklkaaGreatDoor
open Go.RowKit Go.RunKit Go.UtfKit Go.CharrefKit Go.Lib Go.TokenKit Go.TreeKit Go.SerialKit

/-- P6.2, as the code tells it. -/
def serialL (T : List NI) : Bytes × Nat :=
  if rightB T = true then (if (writeF T T.length 0 ([], false)).2 = true then ([], 3) else ((writeF T T.length 0 ([], false)).1, 0)) else ([], 53)
theorem standL_mem : ∀ {l : List NI} {i : Nat} {st : List Opd}, standL i st l = true → ∀ x, x ∈ l → (x.kind = 2 ∧ isTextB x = true) ∨ (x.kind = 1 ∧ kindL x.name ≠ 0 ∧ isElementB x = true)
  | [], _, _, _, _, hx => by cases hx
  | y :: r, i, st, h, x, hx => by
    unfold standL at h
    split at h
    · cases h
    · split at h
      · rename_i hk
        split at h
        · rename_i ht
          rcases List.mem_cons.1 hx with rfl | hx
          · exact .inl ⟨hk, ht⟩
          · exact standL_mem h x hx
        · cases h
      · split at h
        · rename_i hk
          split at h
          · cases h
          · rename_i hkn
            split at h
            · rename_i hel
              split at h
              · split at h
                · cases h
                · rcases List.mem_cons.1 hx with rfl | hx
                  · exact .inr ⟨hk, hkn, hel⟩
                  · exact standL_mem h x hx
              · cases h
            · cases h
        · cases h
theorem kind_len {w : Bytes} (h : kindL w ≠ 0) : w.length ≤ 10 := by
  unfold kindL at h
  cases hf : kindTab.find? fun p => p.1 == w with
  | none => rw [hf] at h; exact absurd rfl h
  | some p =>
    have hm := List.mem_of_find?_eq_some hf
    have he : p.1 = w := by simpa using List.find?_some hf
    have : (kindTab.all fun p => decide (p.1.length ≤ 10)) = true := by decide
    have := List.all_eq_true.1 this p hm
    rw [← he]
    simpa using this
theorem mild_of {T : List NI} (h : rightB T = true) (hA : ∀ x, x ∈ T → ∀ a, a ∈ x.attrs → a.1.length ≤ 1048576) : ∀ x, x ∈ T → Mild x := by
  unfold rightB at h
  simp only [Bool.and_eq_true] at h
  obtain ⟨⟨⟨⟨h1, h2⟩, h3⟩, h4⟩, h5⟩ := h
  intro x hx
  have hsplit : x = T.getD 0 noNI ∨ x ∈ T.drop 1 := by
    cases T with
    | nil => cases hx
    | cons y r =>
      rcases List.mem_cons.1 hx with rfl | hx
      · exact .inl rfl
      · exact .inr hx
  rcases hsplit with e | hr
  · rw [← e] at h3
    unfold isRootB at h3
    simp only [Bool.and_eq_true, beq_iff_eq, List.isEmpty_iff] at h3
    obtain ⟨⟨⟨⟨k0, _⟩, kn⟩, _⟩, _⟩ := h3
    exact ⟨by rw [kn]; decide, hA x hx, fun e => by rw [k0] at e; cases e⟩
  · rcases standL_mem h5 x hr with ⟨hk, ht⟩ | ⟨hk, hkn, _⟩
    · unfold isTextB at ht
      simp only [Bool.and_eq_true, List.isEmpty_iff, Bool.not_eq_true'] at ht
      obtain ⟨⟨⟨kn, _⟩, kd⟩, _⟩ := ht
      exact ⟨by rw [kn]; decide, hA x hx, fun _ e => by rw [e] at kd; cases kd⟩
    · have := kind_len hkn
      exact ⟨by omega, hA x hx, fun e => by rw [hk] at e; cases e⟩

set_option maxRecDepth 100000 in
set_option maxHeartbeats 4000000 in
theorem dempty_any (w0 : World) (b : Nat) (lg : Bool) (W : World) (h : DocAt w0 b ([], lg) W) :
    Calls Tryz.prog 56 #[.pointer (some ⟨b, 0, none⟩)] W fun e w' => e = .returned (.string ⟨#[]⟩) ∧ Below w0.heap.size w0 w' := by
  obtain ⟨pa, bv, hB, hT⟩ := h.ex
  obtain ⟨_, rfl, _⟩ : pa = .pointer none ∧ bv = .slice none 0 0 ∧ True := by
    rcases hT with ⟨h1, h2, _⟩ | ⟨_, h2, _⟩
    · exact ⟨h1, h2, trivial⟩
    · exact absurd rfl h2
  have hbk := hB.blk
  have c1 : W.drew.cell? ⟨b, 1, none⟩ = some (.slice none 0 0) := (doc3 (W := W.drew) hbk).1.2.1
  have c2 : W.cell? ⟨b, 1, none⟩ = some (.slice none 0 0) := (doc3 hbk).1.2.1
  have hSD : (Builtin.unsafeSliceData_ #[42] 122 #[.slice none 0 0]).run Tryz.prog W.drew = .ok (.pointer none) W.drew := Lib.run_unsafeSliceData_nil _ _ _ _ _
  have hUS : (Builtin.unsafeString_ #[122, 3] 9 #[.pointer none, .int .i64 0]).run Tryz.prog W.drew = .ok (.string ⟨#[]⟩) W.drew := Lib.run_unsafeString_none _ _ _ _ _
  have HB1 := Lib.hid (hB.below.trans ((Below.refl W.heap.size W).drew.mono hB.below.size))
  clear h hB hbk hT
  go_enter Tryz.func56, Tryz.ntmps56
  go_big_wp2
  go_region
  all_goals (go_big_wp2; go_ret; exact ⟨rfl, HB1.out⟩)
theorem dtext_any (w0 : World) (b : Nat) (t : Bytes) (lg : Bool) (W : World) (h : DocAt w0 b (t, lg) W) :
    Calls Tryz.prog 56 #[.pointer (some ⟨b, 0, none⟩)] W fun e w' => e = .returned (.string ⟨t.toArray⟩) ∧ Below w0.heap.size w0 w' := by
  by_cases ht : t = []
  · subst ht; exact dempty_any w0 b lg W h
  · exact dstring_any w0 b t lg W ht h

set_option maxRecDepth 100000 in
set_option maxHeartbeats 4000000 in
theorem serialize_any (g o cap n : Nat) (T : List NI) (w : World) (hn : n = T.length) (h1 : 1 ≤ n) (hbig : n ≤ 9223372036854775807) (h : TreeIn w g o T) (hv : VTabs w) (hA : ∀ x, x ∈ T → ∀ a, a ∈ x.attrs → a.1.length ≤ 1048576) :
    Calls Tryz.prog 28 #[.slice (some ⟨g, o, none⟩) n cap] w fun e w' => e = .returned (.tuple #[.string ⟨(serialL T).1.toArray⟩, .int .i64 (((serialL T).2 : Nat) : Int)]) ∧ Below w.heap.size w w' := by
  have hb1 : Below w.heap.size w (w.alloc (.cells #[.slice (some ⟨g, o, none⟩) n cap] TTr)) := (Below.refl _ _).alloc (Nat.le_refl _) _
  have hl1 := heap_alloc_new w (.cells #[.slice (some ⟨g, o, none⟩) n cap] TTr)
  have hR := right_any g o cap n T (w.alloc (.cells #[.slice (some ⟨g, o, none⟩) n cap] TTr)) hn h1 hbig (h.on hb1) (hv.on hb1)
  have z1 : (w.alloc (.cells #[.slice (some ⟨g, o, none⟩) n cap] TTr)).cell? ⟨w.heap.size, 0, none⟩ = some (.slice (some ⟨g, o, none⟩) n cap) := by rw [cell_of_row _ _ 0 _ _ _ hl1]; rfl
  obtain ⟨W1, hW1⟩ : ∃ W1, w.alloc (.cells #[.slice (some ⟨g, o, none⟩) n cap] TTr) = W1 := ⟨_, rfl⟩
  rw [hW1] at hb1 hl1 hR z1
  cases hr : rightB T with
  | false =>
    have e : serialL T = ([], 53) := by unfold serialL; rw [hr, if_neg (by decide)]
    rw [e]
    have hr53 : rightE T = 53 := by unfold rightE; rw [hr]; rfl
    rw [hr53] at hR
    have HR := Lib.hid hR
    have HB1 := Lib.hid hb1
    clear hR hb1 hl1 e hr53 hr h hA hn hv
    go_enter Tryz.func28, Tryz.ntmps28
    go_big_wp2_with (go_at_call 19; refine HR.out.mono ?_; rintro e w2 ⟨rfl, hb2⟩)
    go_ret2
    exact ⟨rfl, HB1.out.trans (hb2.mono HB1.out.size)⟩
  | true =>
    have hr0 : rightE T = 0 := by unfold rightE; rw [hr]; rfl
    rw [hr0] at hR
    have hmild := mild_of hr hA
    have hr' := hr
    unfold rightB at hr'
    simp only [Bool.and_eq_true, decide_eq_true_eq] at hr'
    obtain ⟨⟨⟨⟨_, hlim⟩, _⟩, hhave⟩, _⟩ := hr'
    have hkids := haveKids_in hhave
    have HWr := Lib.hid fun (b bx cl : Nat) (W : World) (hD : DocAt w b ([], false) W) (hC : Caught b bx cl g o n cap W) => write_any w b bx cl g o n cap T hn (by omega) h hkids hmild n 0 ([], false) W (by omega) (by omega) (by decide) hD hC
    obtain ⟨out, lg, hres⟩ : ∃ out lg, writeF T n 0 ([], false) = (out, lg) := ⟨_, _, rfl⟩
    rw [hres] at HWr
    have e : serialL T = if lg = true then ([], 3) else (out, 0) := by unfold serialL; rw [hr, if_pos rfl, ← hn, hres]
    rw [e]
    have HR := Lib.hid hR
    have HB1 := Lib.hid (And.intro hb1 hl1)
    have eg : ∀ args w, (callFunc 53 args).run Tryz.prog w = .ok (.enter 53 args) w := enters_of Tryz.func53 (by kernel_rfl) rfl
    have HSet : Hid (∀ w2 : World, Below W1.heap.size W1 w2 → DocAt w w2.heap.size ([], false) ((w2.alloc (.cells #[.pointer none, .slice none 0 0, .bool false] TDc)).alloc (.cells #[.func (.func 53) #[] #[.pointer (some ⟨w2.heap.size, 0, none⟩), .pointer (some ⟨w.heap.size, 0, none⟩), .pointer (some ⟨w2.heap.size + 1, 0, none⟩)]] TFn)) ∧ Caught w2.heap.size w.heap.size (w2.heap.size + 1) g o n cap ((w2.alloc (.cells #[.pointer none, .slice none 0 0, .bool false] TDc)).alloc (.cells #[.func (.func 53) #[] #[.pointer (some ⟨w2.heap.size, 0, none⟩), .pointer (some ⟨w.heap.size, 0, none⟩), .pointer (some ⟨w2.heap.size + 1, 0, none⟩)]] TFn))) := Lib.hid fun w2 hb2 => by
      have hbw := HB1.out.1.trans (hb2.mono HB1.out.1.size)
      have hlt : w.heap.size < w2.heap.size := Nat.lt_of_lt_of_le (Array.getElem?_eq_some_iff.1 HB1.out.2).1 hb2.size
      have ba : Below w2.heap.size w2 (w2.alloc (.cells #[.pointer none, .slice none 0 0, .bool false] TDc)) := (Below.refl _ _).alloc (Nat.le_refl _) _
      have la := heap_alloc_new w2 (.cells #[.pointer none, .slice none 0 0, .bool false] TDc)
      have hsz : (w2.alloc (.cells #[.pointer none, .slice none 0 0, .bool false] TDc)).heap.size = w2.heap.size + 1 := by simp
      generalize w2.alloc (.cells #[.pointer none, .slice none 0 0, .bool false] TDc) = w3 at *
      have bb : Below w3.heap.size w3 (w3.alloc (.cells #[.func (.func 53) #[] #[.pointer (some ⟨w2.heap.size, 0, none⟩), .pointer (some ⟨w.heap.size, 0, none⟩), .pointer (some ⟨w2.heap.size + 1, 0, none⟩)]] TFn)) := (Below.refl _ _).alloc (Nat.le_refl _) _
      have lb := heap_alloc_new w3 (.cells #[.func (.func 53) #[] #[.pointer (some ⟨w2.heap.size, 0, none⟩), .pointer (some ⟨w.heap.size, 0, none⟩), .pointer (some ⟨w2.heap.size + 1, 0, none⟩)]] TFn)
      rw [hsz] at lb
      have hd : DocB w w2.heap.size (.pointer none) (.slice none 0 0) false w3 := ⟨hbw.trans (ba.mono hbw.size), hbw.size, la⟩
      refine ⟨⟨.pointer none, .slice none 0 0, hd.on bb, .inl ⟨rfl, rfl, rfl⟩⟩, ⟨?_, lb, by omega, by omega⟩⟩
      rw [bb.block _ (by omega), ba.block _ hlt, hb2.block _ (Array.getElem?_eq_some_iff.1 HB1.out.2).1]
      exact HB1.out.2
    have HWs : Hid (∀ (b bx cl : Nat) (W : World), DocAt w b ([], false) W → Caught b bx cl g o n cap W → Calls Tryz.prog 53 #[.int .i64 0, .pointer (some ⟨b, 0, none⟩), .pointer (some ⟨bx, 0, none⟩), .pointer (some ⟨cl, 0, none⟩)] W fun e w' => e = .returned (.tuple #[]) ∧ DocAt w b (out, lg) w' ∧ KeepD b W w') := Lib.hid fun b bx cl W hD hC => HWr.out b bx cl W hD hC
    clear hR hb1 hl1 e hr0 hr h hA hn hv hmild hkids hhave hlim hres
    cases lg with
    | true =>
      go_enter Tryz.func28, Tryz.ntmps28
      go_big_wp2_with (first
        | (go_at_call 19
           go_loud (
             refine HR.out.mono ?_
             rintro e w2 ⟨rfl, hb2⟩
             have HS := Lib.hid (HSet.out w2 hb2)
             have HB2 := Lib.hid (HB1.out.1.trans (hb2.mono HB1.out.1.size))
             clear hb2))
        | (go_at_fn 53
           go_loud (
             refine (HWs.out _ _ _ _ HS.out.1 HS.out.2).mono ?_
             rintro e w3 ⟨rfl, hD3, hK3⟩
             obtain ⟨pa, bv, hB3, _⟩ := hD3.ex
             obtain ⟨⟨x0, x1, x2⟩, y0, y1, y2⟩ := doc3 hB3.blk
             have HD3 := Lib.hid hD3
             clear hD3 hK3 hB3))
        | (go_at_call 56; refine (dtext_any w _ out false w3 HD3.out).mono ?_; rintro e w4 ⟨rfl, hb4⟩))
      go_ret2
      exact ⟨rfl, HD3.out.below⟩
    | false =>
      go_enter Tryz.func28, Tryz.ntmps28
      go_big_wp2_with (first
        | (go_at_call 19
           go_loud (
             refine HR.out.mono ?_
             rintro e w2 ⟨rfl, hb2⟩
             have HS := Lib.hid (HSet.out w2 hb2)
             have HB2 := Lib.hid (HB1.out.1.trans (hb2.mono HB1.out.1.size))
             clear hb2))
        | (go_at_fn 53
           go_loud (
             refine (HWs.out _ _ _ _ HS.out.1 HS.out.2).mono ?_
             rintro e w3 ⟨rfl, hD3, hK3⟩
             obtain ⟨pa, bv, hB3, _⟩ := hD3.ex
             obtain ⟨⟨x0, x1, x2⟩, y0, y1, y2⟩ := doc3 hB3.blk
             have HD3 := Lib.hid hD3
             clear hD3 hK3 hB3))
        | (go_at_call 56; refine (dtext_any w _ out false w3 HD3.out).mono ?_; rintro e w4 ⟨rfl, hb4⟩))
      go_ret2
      exact ⟨rfl, hb4⟩
end Go.Proofs.YtnfkndaggcklkaaGreatDoor

namespace Go.SerialKit
open Go Go.Lib Go.TokenKit Go.TreeKit
def wk6T : List NI := [⟨0, [], [], [], -1, [1, 3]⟩, ⟨1, [112], [([99, 108, 97, 115, 115], [120, 34, 121])], [], 0, [2]⟩, ⟨2, [], [], [49, 32, 62, 32, 48], 1, []⟩, ⟨1, [98, 114], [], [], 0, []⟩]
end Go.SerialKit
namespace Go.Proofs.YtnfkndaggcklkaaGreatDoor
open Go.RowKit Go.RunKit Go.UtfKit Go.CharrefKit Go.Lib Go.TokenKit Go.TreeKit Go.SerialKit

theorem wk6_ser : serialL wk6T = ([60, 112, 32, 99, 108, 97, 115, 115, 61, 34, 120, 38, 113, 117, 111, 116, 59, 121, 34, 62, 49, 32, 38, 103, 116, 59, 32, 48, 60, 47, 112, 62, 60, 98, 114, 62], 0) := by kernel_rfl
theorem wk6_esc : escR false (bl ⟨#[97, 32, 60, 32, 98, 32, 38, 32, 99]⟩) = [97, 32, 38, 108, 116, 59, 32, 98, 32, 38, 97, 109, 112, 59, 32, 99] := by kernel_rfl

theorem wk6_in (w : World) (ti ta tn : TypeId) : TreeIn ((((w.alloc (.cells #[.int .i64 1, .int .i64 3] ti)).alloc (.cells #[.string ⟨#[99, 108, 97, 115, 115]⟩, .string ⟨#[120, 34, 121]⟩] ta)).alloc (.cells #[.int .i64 2] ti)).alloc
      (.cells #[.int .u8 0, .string ⟨#[]⟩, .slice none 0 0, .string ⟨#[]⟩, .int .i64 (-1), .slice (some ⟨w.heap.size, 0, none⟩) 2 2, .int .u8 1, .string ⟨#[112]⟩, .slice (some ⟨w.heap.size + 1, 0, none⟩) 1 1, .string ⟨#[]⟩, .int .i64 0, .slice (some ⟨w.heap.size + 1 + 1, 0, none⟩) 1 1,
        .int .u8 2, .string ⟨#[]⟩, .slice none 0 0, .string ⟨#[49, 32, 62, 32, 48]⟩, .int .i64 1, .slice none 0 0, .int .u8 1, .string ⟨#[98, 114]⟩, .slice none 0 0, .string ⟨#[]⟩, .int .i64 0, .slice none 0 0] tn)) (w.heap.size + 1 + 1 + 1) 0 wk6T ∧
    Below w.heap.size w ((((w.alloc (.cells #[.int .i64 1, .int .i64 3] ti)).alloc (.cells #[.string ⟨#[99, 108, 97, 115, 115]⟩, .string ⟨#[120, 34, 121]⟩] ta)).alloc (.cells #[.int .i64 2] ti)).alloc
      (.cells #[.int .u8 0, .string ⟨#[]⟩, .slice none 0 0, .string ⟨#[]⟩, .int .i64 (-1), .slice (some ⟨w.heap.size, 0, none⟩) 2 2, .int .u8 1, .string ⟨#[112]⟩, .slice (some ⟨w.heap.size + 1, 0, none⟩) 1 1, .string ⟨#[]⟩, .int .i64 0, .slice (some ⟨w.heap.size + 1 + 1, 0, none⟩) 1 1,
        .int .u8 2, .string ⟨#[]⟩, .slice none 0 0, .string ⟨#[49, 32, 62, 32, 48]⟩, .int .i64 1, .slice none 0 0, .int .u8 1, .string ⟨#[98, 114]⟩, .slice none 0 0, .string ⟨#[]⟩, .int .i64 0, .slice none 0 0] tn)) := by
  have b1 : Below w.heap.size w (w.alloc (.cells #[.int .i64 1, .int .i64 3] ti)) := (Below.refl _ _).alloc (Nat.le_refl _) _
  have l1 := heap_alloc_new w (.cells #[.int .i64 1, .int .i64 3] ti)
  have s1 : (w.alloc (.cells #[.int .i64 1, .int .i64 3] ti)).heap.size = w.heap.size + 1 := by simp
  obtain ⟨n, hn⟩ : ∃ n, w.heap.size = n := ⟨_, rfl⟩
  rw [hn] at l1 s1 ⊢
  generalize w.alloc (.cells #[.int .i64 1, .int .i64 3] ti) = w1 at *
  have b2 : Below w1.heap.size w1 (w1.alloc (.cells #[.string ⟨#[99, 108, 97, 115, 115]⟩, .string ⟨#[120, 34, 121]⟩] ta)) := (Below.refl _ _).alloc (Nat.le_refl _) _
  have l2 := heap_alloc_new w1 (.cells #[.string ⟨#[99, 108, 97, 115, 115]⟩, .string ⟨#[120, 34, 121]⟩] ta)
  have s2 : (w1.alloc (.cells #[.string ⟨#[99, 108, 97, 115, 115]⟩, .string ⟨#[120, 34, 121]⟩] ta)).heap.size = n + 1 + 1 := by simp [s1]
  rw [s1] at l2
  generalize w1.alloc (.cells #[.string ⟨#[99, 108, 97, 115, 115]⟩, .string ⟨#[120, 34, 121]⟩] ta) = w2 at *
  have b3 : Below w2.heap.size w2 (w2.alloc (.cells #[.int .i64 2] ti)) := (Below.refl _ _).alloc (Nat.le_refl _) _
  have l3 := heap_alloc_new w2 (.cells #[.int .i64 2] ti)
  have s3 : (w2.alloc (.cells #[.int .i64 2] ti)).heap.size = n + 1 + 1 + 1 := by simp [s2]
  rw [s2] at l3
  generalize w2.alloc (.cells #[.int .i64 2] ti) = w3 at *
  obtain ⟨cs, hcs⟩ : ∃ cs : Array Value, #[.int .u8 0, .string ⟨#[]⟩, .slice none 0 0, .string ⟨#[]⟩, .int .i64 (-1), .slice (some ⟨n, 0, none⟩) 2 2, .int .u8 1, .string ⟨#[112]⟩, .slice (some ⟨n + 1, 0, none⟩) 1 1, .string ⟨#[]⟩, .int .i64 0, .slice (some ⟨n + 1 + 1, 0, none⟩) 1 1,
        .int .u8 2, .string ⟨#[]⟩, .slice none 0 0, .string ⟨#[49, 32, 62, 32, 48]⟩, .int .i64 1, .slice none 0 0, .int .u8 1, .string ⟨#[98, 114]⟩, .slice none 0 0, .string ⟨#[]⟩, .int .i64 0, .slice none 0 0] = cs := ⟨_, rfl⟩
  rw [hcs]
  have b4 : Below w3.heap.size w3 (w3.alloc (.cells cs tn)) := (Below.refl _ _).alloc (Nat.le_refl _) _
  have l4 := heap_alloc_new w3 (.cells cs tn)
  rw [s3] at l4
  generalize w3.alloc (.cells cs tn) = w4 at *
  have m1 : w4.heap[n]? = some (.cells #[.int .i64 1, .int .i64 3] ti) := by rw [b4.block _ (by omega), b3.block _ (by omega), b2.block _ (by omega)]; exact l1
  have m2 : w4.heap[n + 1]? = some (.cells #[.string ⟨#[99, 108, 97, 115, 115]⟩, .string ⟨#[120, 34, 121]⟩] ta) := by rw [b4.block _ (by omega), b3.block _ (by omega)]; exact l2
  have m3 : w4.heap[n + 1 + 1]? = some (.cells #[.int .i64 2] ti) := by rw [b4.block _ (by omega)]; exact l3
  have hb : Below n w w4 := ((b1.trans (b2.mono (by omega))).trans (b3.mono (by omega))).trans (b4.mono (by omega)) |> fun h => by rw [hn] at h; exact h
  refine ⟨⟨?_⟩, hb⟩
  have hc := fun j => cell_of_row w4 (n + 1 + 1 + 1) j _ _ _ l4
  have c1 := fun j => cell_of_row w4 n j _ _ _ m1
  have c2 := fun j => cell_of_row w4 (n + 1) j _ _ _ m2
  have c3 := fun j => cell_of_row w4 (n + 1 + 1) j _ _ _ m3
  rw [← hcs] at hc
  have e0 : AttrsIn w4 none [] := ⟨fun j a h => by cases h⟩
  have z0 : IntsIn w4 none [] := ⟨fun j a h => by cases h⟩
  have k0 : IntsIn w4 (some ⟨n, 0, none⟩) [1, 3] := ⟨fun j a h => by
    match j, h with
    | 0, h => obtain rfl := Option.some.inj (show some (1 : Int) = some a from h); exact ⟨n, 0, rfl, (c1 _).trans rfl⟩
    | 1, h => obtain rfl := Option.some.inj (show some (3 : Int) = some a from h); exact ⟨n, 0, rfl, (c1 _).trans rfl⟩⟩
  have k1 : IntsIn w4 (some ⟨n + 1 + 1, 0, none⟩) [2] := ⟨fun j a h => by
    match j, h with
    | 0, h => obtain rfl := Option.some.inj (show some (2 : Int) = some a from h); exact ⟨n + 1 + 1, 0, rfl, (c3 _).trans rfl⟩⟩
  have a1 : AttrsIn w4 (some ⟨n + 1, 0, none⟩) [([99, 108, 97, 115, 115], [120, 34, 121])] := ⟨fun j a h => by
    match j, h with
    | 0, h => obtain rfl := Option.some.inj (show some (([99, 108, 97, 115, 115], [120, 34, 121]) : At) = some a from h); exact ⟨n + 1, 0, rfl, (c2 _).trans rfl, (c2 _).trans rfl⟩⟩
  intro k x hx
  match k, hx with
  | 0, hx =>
    obtain rfl := Option.some.inj (show some (⟨0, [], [], [], -1, [1, 3]⟩ : NI) = some x from hx)
    exact ⟨(hc _).trans rfl, (hc _).trans rfl, ⟨none, 0, (hc _).trans rfl, e0, by decide, by decide⟩, (hc _).trans rfl, (hc _).trans rfl, ⟨_, 2, (hc _).trans rfl, k0, by decide⟩, by decide, fun a ha => by cases ha⟩
  | 1, hx =>
    obtain rfl := Option.some.inj (show some (⟨1, [112], [([99, 108, 97, 115, 115], [120, 34, 121])], [], 0, [2]⟩ : NI) = some x from hx)
    exact ⟨(hc _).trans rfl, (hc _).trans rfl, ⟨_, 1, (hc _).trans rfl, a1, by decide, by decide⟩, (hc _).trans rfl, (hc _).trans rfl, ⟨_, 1, (hc _).trans rfl, k1, by decide⟩, by decide, fun a ha => by
      rcases List.mem_cons.1 ha with rfl | ha
      · exact (by decide : (3 : Nat) ≤ 9223372036854775807)
      · cases ha⟩
  | 2, hx =>
    obtain rfl := Option.some.inj (show some (⟨2, [], [], [49, 32, 62, 32, 48], 1, []⟩ : NI) = some x from hx)
    exact ⟨(hc _).trans rfl, (hc _).trans rfl, ⟨none, 0, (hc _).trans rfl, e0, by decide, by decide⟩, (hc _).trans rfl, (hc _).trans rfl, ⟨_, 0, (hc _).trans rfl, z0, by decide⟩, by decide, fun a ha => by cases ha⟩
  | 3, hx =>
    obtain rfl := Option.some.inj (show some (⟨1, [98, 114], [], [], 0, []⟩ : NI) = some x from hx)
    exact ⟨(hc _).trans rfl, (hc _).trans rfl, ⟨none, 0, (hc _).trans rfl, e0, by decide, by decide⟩, (hc _).trans rfl, (hc _).trans rfl, ⟨_, 0, (hc _).trans rfl, z0, by decide⟩, by decide, fun a ha => by cases ha⟩

set_option maxRecDepth 100000 in
set_option maxHeartbeats 2000000 in
theorem works06_any (w : World) (hv : VTabs w) : Calls Tryz.prog 27 #[] w fun e w' => e = .returned (.bool true) ∧ Below w.heap.size w w' := by
  have HW := Lib.hid (wk6_in w 3 40 38)
  have HS := Lib.hid fun (W : World) (g : Nat) (h : TreeIn W g 0 wk6T) (hb : Below w.heap.size w W) => serialize_any g 0 4 4 wk6T W rfl (by decide) (by decide) h (hv.on hb) (fun x hx a ha => by
    have hall : (wk6T.all fun x => x.attrs.all fun a => decide (a.1.length ≤ 1048576)) = true := by decide
    simpa using List.all_eq_true.1 (List.all_eq_true.1 hall x hx) a ha)
  have HE := Lib.hid fun W => escText_any ⟨#[97, 32, 60, 32, 98, 32, 38, 32, 99]⟩ (by decide) W
  rw [wk6_ser] at HS
  rw [wk6_esc] at HE
  clear hv
  go_enter Tryz.func27, Tryz.ntmps27
  go_big_wp2_with (first
    | (go_at_call 28
       go_loud (
         refine (HS.out _ _ HW.out.1 HW.out.2).mono ?_
         rintro e w1 ⟨rfl, hb1⟩
         have HB1 := Lib.hid (HW.out.2.trans (hb1.mono HW.out.2.size))
         clear hb1))
    | (go_at_call 32
       go_loud (
         refine (HE.out _).mono ?_
         rintro e w2 ⟨rfl, hb2⟩
         have HB2 := Lib.hid (HB1.out.trans (hb2.mono HB1.out.size))
         clear hb2)))
  go_ret
  exact ⟨rfl, HB2.out⟩
end Go.Proofs.YtnfkndaggcklkaaGreatDoor

namespace Go.CharrefKit
open Go Go.Lib

theorem nats_append (a b : List UInt8) : nats (a ++ b) = nats a ++ nats b := by simp [nats]
theorem nats_cons (a : UInt8) (b : List UInt8) : nats (a :: b) = a.toNat :: nats b := rfl
/-- A name with its sign. -/
theorem named_ref {attr : Bool} {e : Entry} (he : e ∈ tab) (t : List Nat) : findL attr (38 :: (e.1 ++ 59 :: t)) = ⟨e.2.1, e.1.length + 2, true⟩ := by
  have hf := tab_fact he
  have hne : ∀ u, e.1 ++ 59 :: t ≠ 35 :: u := by
    intro u h
    cases hl : e.1 with
    | nil => rw [hl] at hf; simp at hf
    | cons c v =>
      rw [hl] at h hf
      simp only [List.cons_append, List.cons.injEq] at h
      have := hf.1 c (List.mem_cons_self ..)
      rw [h.1] at this
      cases this
  rw [findL_name hne]
  have hpre : e.1.isPrefixOf (e.1 ++ 59 :: t) = true := List.isPrefixOf_iff_prefix.2 ⟨_, rfl⟩
  have h59 : (e.1 ++ 59 :: t)[e.1.length]? = some 59 := by rw [List.getElem?_append_right (Nat.le_refl _), Nat.sub_self]; rfl
  have hh : hit (e.1 ++ 59 :: t) e = e.1.length + 1 := by unfold hit; rw [if_pos hpre, if_pos h59]
  have hb := best_is (r := e.1 ++ 59 :: t) he (by omega) (fun e' he' => by
    by_cases hp : 0 < hit (e.1 ++ 59 :: t) e'
    · obtain ⟨q1, q2⟩ := hit_pos hp
      have hle : e'.1.length ≤ e.1.length := by
        rcases Nat.lt_or_ge e.1.length e'.1.length with h | h
        · exfalso
          have h1 := prefix_at q1 h
          rw [h59, List.getElem?_eq_getElem h] at h1
          exact isLet_not ((tab_fact he').1 _ (List.getElem_mem h)) (Option.some.inj h1).symm
        · exact h
      rcases q2 with ⟨_, q⟩ | ⟨_, _, q⟩ <;> omega
    · omega)
  unfold nameL
  rw [hb, hh]
  simp only [Nat.add_sub_cancel]
  rw [if_neg (show ¬ e.1.length + 1 = 0 by omega), if_neg (by rintro ⟨_, q, _⟩; exact q h59)]

/-! What is escaped. -/
def plain (l : List UInt8) : List UInt8 := l.filter fun b => decide (b ≠ 38)
theorem amp_in : (([97, 109, 112], 38, true) : Entry) ∈ tab := of_decide_eq_true (by kernel_rfl)
theorem enc_amp : encodeRune 38 = [38] := by decide
theorem decode_amp (attr : Bool) (t : List UInt8) : decodeL attr ([38, 97, 109, 112, 59] ++ t) = 38 :: decodeL attr t := by
  have h : findL attr (nats ([38, 97, 109, 112, 59] ++ t)) = ⟨38, 5, true⟩ := named_ref (attr := attr) amp_in (nats t)
  rw [decodeL_ref (by rw [h]), h]
  show encodeRune 38 ++ _ = _
  rw [enc_amp]
  rfl
/-- A name with its sign, behind a text. -/
theorem decode_named {attr : Bool} {e : Entry} (he : e ∈ tab) (a b : List UInt8) (ha : ∀ c ∈ a, c.toNat ≠ 38) : decodeL attr (a ++ 38 :: (bytesOf e.1 ++ 59 :: b)) = a ++ (encodeRune ((e.2.1 : Nat) : Int) ++ decodeL attr b) := by
  rw [decodeL_ahead a _ ha]
  congr 1
  have hn := nats_bytesOf (tabC_small (mem_tabC.2 he))
  have h : findL attr (nats (38 :: (bytesOf e.1 ++ 59 :: b))) = ⟨e.2.1, e.1.length + 2, true⟩ := by
    rw [nats_cons, nats_append, hn, nats_cons]
    exact named_ref he (nats b)
  rw [decodeL_ref (by rw [h]), h]
  congr 2
  have hl : (bytesOf e.1).length = e.1.length := by simp [bytesOf]
  rw [show e.1.length + 2 = (e.1.length + 1) + 1 from rfl, List.drop_succ_cons, ← hl]
  rw [List.drop_append]
  simp

/-! A blank between. -/
end Go.CharrefKit

namespace Go.SerialKit
open Go Go.Lib Go.TokenKit Go.TreeKit
theorem oneE_len (attr : Bool) (b : UInt8) : (oneE attr b).length ≤ 6 := by
  unfold oneE
  repeat' split
  all_goals first | decide | simp
theorem escR_len {attr : Bool} : ∀ a : Bytes, (escR attr a).length ≤ 6 * a.length
  | [] => Nat.zero_le _
  | [x] => by
    have := oneE_len attr x
    change (oneE attr x).length ≤ 6
    exact this
  | x :: y :: r => by
    rw [escR]
    split
    · have := escR_len (attr := attr) r
      have h : nbspB.length ≤ 6 := by decide
      simp only [List.length_append, List.length_cons]
      omega
    · have := escR_len (attr := attr) (y :: r)
      have h := oneE_len attr x
      simp only [List.length_append, List.length_cons] at this ⊢
      omega
end Go.SerialKit
namespace Go.Proofs.YtnfkndaggcklkaaGreatDoor
open Go.RowKit Go.RunKit Go.UtfKit Go.CharrefKit Go.Lib Go.TokenKit Go.TreeKit Go.SerialKit

theorem esc_size {attr : Bool} {a : ByteArray} : (⟨(escR attr (bl a)).toArray⟩ : ByteArray).size ≤ 6 * a.size := by
  have := escR_len (attr := attr) (bl a)
  rw [bl_length] at this
  change (escR attr (bl a)).toArray.size ≤ _
  rw [List.size_toArray]
  exact this

end Go.Proofs.YtnfkndaggcklkaaGreatDoor

namespace Go.SerialKit
open Go Go.Lib Go.TokenKit Go.TreeKit Go.CharrefKit
theorem lt_in : (([108, 116], 60, true) : Entry) ∈ tab := of_decide_eq_true (by kernel_rfl)
theorem gt_in : (([103, 116], 62, true) : Entry) ∈ tab := of_decide_eq_true (by kernel_rfl)
theorem quot_in : (([113, 117, 111, 116], 34, true) : Entry) ∈ tab := of_decide_eq_true (by kernel_rfl)
theorem nbsp_in : (([110, 98, 115, 112], 160, true) : Entry) ∈ tab := of_decide_eq_true (by kernel_rfl)
theorem back_lt (d : Bool) (t : Bytes) : decodeL d (ltB ++ t) = 60 :: decodeL d t := by
  have := decode_named (attr := d) lt_in [] t (fun c hc => by cases hc)
  rw [List.nil_append, List.nil_append, show encodeRune ((60 : Nat) : Int) = [60] by decide] at this
  exact this
theorem back_gt (d : Bool) (t : Bytes) : decodeL d (gtB ++ t) = 62 :: decodeL d t := by
  have := decode_named (attr := d) gt_in [] t (fun c hc => by cases hc)
  rw [List.nil_append, List.nil_append, show encodeRune ((62 : Nat) : Int) = [62] by decide] at this
  exact this
theorem back_quot (d : Bool) (t : Bytes) : decodeL d (quotB ++ t) = 34 :: decodeL d t := by
  have := decode_named (attr := d) quot_in [] t (fun c hc => by cases hc)
  rw [List.nil_append, List.nil_append, show encodeRune ((34 : Nat) : Int) = [34] by decide] at this
  exact this
theorem back_nbsp (d : Bool) (t : Bytes) : decodeL d (nbspB ++ t) = 194 :: 160 :: decodeL d t := by
  have := decode_named (attr := d) nbsp_in [] t (fun c hc => by cases hc)
  rw [List.nil_append, List.nil_append, show encodeRune ((160 : Nat) : Int) = [194, 160] by decide] at this
  exact this
theorem number_cr (u : List Nat) : numberL (49 :: 51 :: 59 :: u) = ⟨13, 3, true⟩ := by
  have hd : digs 10 (49 :: 51 :: 59 :: u) = [49, 51] := rfl
  unfold numberL
  rw [show baseOf (49 :: 51 :: 59 :: u) = 10 from rfl, show headOf (49 :: 51 :: 59 :: u) = 0 from rfl, List.drop_zero, hd]
  rfl
theorem back_cr (d : Bool) (t : Bytes) : decodeL d (crB ++ t) = 13 :: decodeL d t := by
  have h : findL d (nats (crB ++ t)) = ⟨13, 5, true⟩ := by
    change findL d (38 :: 35 :: 49 :: 51 :: 59 :: nats t) = _
    rw [findL_num, number_cr]
    rfl
  rw [decodeL_ref (by rw [h]), h]
  rw [show encodeRune ((13 : Nat) : Int) = [13] by decide]
  rfl
theorem back_one (d at_ : Bool) (x : UInt8) (t : Bytes) : decodeL d (oneE at_ x ++ t) = x :: decodeL d t := by
  unfold oneE
  by_cases h1 : x = 38
  · rw [if_pos h1, h1]; exact decode_amp d t
  rw [if_neg h1]
  by_cases h2 : x = 13
  · rw [if_pos h2, h2]; exact back_cr d t
  rw [if_neg h2]
  by_cases h3 : x = 60 ∧ at_ = false
  · rw [if_pos h3, h3.1]; exact back_lt d t
  rw [if_neg h3]
  by_cases h4 : x = 62 ∧ at_ = false
  · rw [if_pos h4, h4.1]; exact back_gt d t
  rw [if_neg h4]
  by_cases h5 : x = 34 ∧ at_ = true
  · rw [if_pos h5, h5.1]; exact back_quot d t
  rw [if_neg h5, decodeL_ahead [x] t (fun c hc => by
    simp at hc
    subst hc
    exact fun e => h1 (UInt8.toNat_inj.1 e))]
  rfl
theorem back_all (d at_ : Bool) : ∀ l : Bytes, decodeL d (escR at_ l) = l
  | [] => rfl
  | [x] => by
    have := back_one d at_ x []
    rw [List.append_nil] at this
    exact this
  | x :: y :: r => by
    rw [escR]
    split
    · rename_i h
      rw [back_nbsp, back_all d at_ r, h.1, h.2]
    · rw [back_one, back_all d at_ (y :: r)]
end Go.SerialKit
namespace Go.Proofs.YtnfkndaggcklkaaGreatDoor
open Go.RowKit Go.RunKit Go.UtfKit Go.CharrefKit Go.Lib Go.TokenKit Go.TreeKit Go.SerialKit

end Go.Proofs.YtnfkndaggcklkaaGreatDoor

