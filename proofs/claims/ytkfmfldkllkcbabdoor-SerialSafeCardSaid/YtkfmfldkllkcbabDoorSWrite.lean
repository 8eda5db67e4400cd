/-
  Serialize's closure of package serial, which calls itself: a node's document, and its children's. Conditions: children stand behind their parent; names are no longer than 2^20 bytes; a text is not empty.
-/
import Derived.Test.YtkfmfldkllkcbabDoorSBegin
import Derived.Test.YtkfmfldkllkcbabDoorRRight
namespace Go.SerialKit
open Go Go.Lib Go.TokenKit Go.TreeKit
/-- What is written of a node and what is below it, unless it is too long already. -/
def writeF (T : List NI) : Nat → Nat → Bytes × Bool → Bytes × Bool
  | 0, _, d => d
  | f + 1, i, d => if d.2 = true then d else endD ((T.getD i noNI).kids.foldl (fun d k => writeF T f k.toNat d) (beginL d (T.getD i noNI))) (T.getD i noNI)
theorem writeF_succ (T : List NI) (f i : Nat) (d : Bytes × Bool) : writeF T (f + 1) i d = if d.2 = true then d else endD ((T.getD i noNI).kids.foldl (fun d k => writeF T f k.toNat d) (beginL d (T.getD i noNI))) (T.getD i noNI) := rfl
/-- Children stand behind their parent, and are there. -/
def KidsIn (T : List NI) : Prop := ∀ (i : Nat) (x : NI), T[i]? = some x → ∀ k, k ∈ x.kids → (i : Int) < k ∧ k < (T.length : Int)
theorem foldl_len {T : List NI} {f : Nat} (ih : ∀ (i : Nat) (d : Bytes × Bool), d.1.length ≤ 65536 → (writeF T f i d).1.length ≤ 65536) : ∀ (l : List Int) (d : Bytes × Bool), d.1.length ≤ 65536 → (l.foldl (fun d k => writeF T f k.toNat d) d).1.length ≤ 65536
  | [], _, h => h
  | _ :: r, d, h => foldl_len ih r _ (ih _ d h)
theorem writeF_len (T : List NI) : ∀ (f i : Nat) (d : Bytes × Bool), d.1.length ≤ 65536 → (writeF T f i d).1.length ≤ 65536
  | 0, _, _, h => h
  | f + 1, i, d, h => by
    unfold writeF
    split
    · exact h
    · exact endD_len (foldl_len (writeF_len T f) _ _ (beginL_len h _)) _
theorem kids_in {T : List NI} {i : Nat} : ∀ {l : List Int} {last : Nat}, i ≤ last → kidsL T i last l = true → ∀ k, k ∈ l → (i : Int) < k ∧ k < (T.length : Int)
  | [], _, _, _, _, hk => by cases hk
  | k0 :: r, last, hil, h, k, hk => by
    unfold kidsL at h
    split at h
    · cases h
    · split at h
      · cases h
      · split at h
        · split at h
          · cases h
          · rcases List.mem_cons.1 hk with rfl | hk
            · omega
            · exact kids_in (l := r) (last := k0.toNat) (by omega) h k hk
        · cases h
theorem haveF_kids {T : List NI} : ∀ (f i c r : Nat), haveF T f i c = some r → ∀ j, i ≤ j → j < i + f → kidsL T j j (T.getD j noNI).kids = true
  | 0, _, _, _, _, j, h1, h2 => by omega
  | f + 1, i, c, r, h, j, h1, h2 => by
    unfold haveF at h
    split at h
    · rename_i hk
      by_cases e : j = i
      · subst e; exact hk
      · exact haveF_kids f (i + 1) _ r h j (by omega) (by omega)
    · cases h
theorem haveKids_in {T : List NI} (h : haveKidsB T = true) : KidsIn T := by
  intro i x hx k hk
  unfold haveKidsB at h
  cases hh : haveF T T.length 0 0 with
  | none => rw [hh] at h; cases h
  | some c =>
    have hi := (List.getElem?_eq_some_iff.1 hx).1
    have e : T.getD i noNI = x := by rw [List.getD_eq_getElem?_getD, hx]; rfl
    have := haveF_kids T.length 0 0 c hh i (Nat.zero_le _) (by omega)
    rw [e] at this
    exact kids_in (Nat.le_refl _) this k hk
end Go.SerialKit
namespace Go.Proofs.YtkfmfldkllkcbabDoor
open Go.RowKit Go.RunKit Go.UtfKit Go.CharrefKit Go.Lib Go.TokenKit Go.TreeKit Go.SerialKit

abbrev TTr : TypeId := 37
abbrev TFn : TypeId := 62
/-- The cells that the closure has: the tree's, its own. -/
structure Caught (b bx cl g o n cap : Nat) (W : World) : Prop where
  tree : W.heap[bx]? = some (.cells #[.slice (some ⟨g, o, none⟩) n cap] TTr (0, 0))
  self : W.heap[cl]? = some (.cells #[.func (.func 27) #[] #[.pointer (some ⟨b, 0, none⟩), .pointer (some ⟨bx, 0, none⟩), .pointer (some ⟨cl, 0, none⟩)]] TFn (0, 0))
  apart : bx ≠ b ∧ cl ≠ b
theorem Caught.kept {b bx cl g o n cap : Nat} {W W' : World} (h : Caught b bx cl g o n cap W) (hk : KeepD b W W') : Caught b bx cl g o n cap W' :=
  ⟨hk _ _ h.tree (fun e => h.apart.1 (Option.some.inj e)) (fun c fz e => by cases e), hk _ _ h.self (fun e => h.apart.2 (Option.some.inj e)) (fun c fz e => by cases e), h.apart⟩

set_option maxRecDepth 100000 in
set_option maxHeartbeats 8000000 in
theorem write_any (w0 : World) (b bx cl g o n cap : Nat) (T : List NI) (hn : n = T.length) (hn2 : n ≤ 16384) (hT : TreeIn w0 g o T) (hK : KidsIn T) (hM : ∀ x, x ∈ T → Mild x) :
    ∀ (f i : Nat) (d : Bytes × Bool) (W : World), n - i ≤ f → i < n → d.1.length ≤ 65536 → DocAt w0 b d W → Caught b bx cl g o n cap W →
    Calls Tryd.prog 27 (#[.int .i64 ((i : Nat) : Int)] ++ #[.pointer (some ⟨b, 0, none⟩), .pointer (some ⟨bx, 0, none⟩), .pointer (some ⟨cl, 0, none⟩)]) W fun e w' => e = .returned (.tuple #[]) ∧ DocAt w0 b (writeF T f i d) w' ∧ KeepD b W w'
  | 0, i, d, W, hf, hi, _, _, _ => by omega
  | f + 1, i, d, W, hf, hi, hl, hD, hC => by
    have IH := Lib.hid (write_any w0 b bx cl g o n cap T hn hn2 hT hK hM f)
    have hiT : i < T.length := by omega
    have hx := hT.at_ i _ (node_at hiT)
    have hmem : T.getD i noNI ∈ T := List.mem_of_getElem? (node_at hiT)
    have hmild := hM _ hmem
    have hkids := hK i _ (node_at hiT)
    obtain ⟨x, hxx⟩ : ∃ x, T.getD i noNI = x := ⟨_, rfl⟩
    rw [hxx] at hx hmild hkids
    obtain ⟨m, hm⟩ : ∃ m, o + i * 6 = m := ⟨_, rfl⟩
    rw [hm] at hx
    have hiI : (i : Int) < (n : Int) := by omega
    obtain ⟨pa, bv, hB, hTx⟩ := hD.ex
    obtain ⟨⟨x0, x1, x2⟩, y0, y1, y2⟩ := doc3 hB.blk
    by_cases hlong : d.2 = true
    · have e : writeF T (f + 1) i d = d := by rw [writeF_succ, if_pos hlong]
      rw [e]
      rw [hlong] at x2
      have HD := Lib.hid hD
      clear e hx hmild hkids hB hTx hD hC hK hM hT hmem hxx hlong
      go_enter Tryd.func27, Tryd.ntmps27
      go_big_wp2
      refine bodyPost_ret (results_none rfl _ _ _) rfl ?_
      exact ⟨rfl, HD.out, Lib.OthersKept.refl _ _ _⟩
    · have hl2 : d.2 = false := by simpa using hlong
      rw [hl2] at x2
      have e : writeF T (f + 1) i d = endD (x.kids.foldl (fun d k => writeF T f k.toNat d) (beginL d x)) x := by rw [writeF_succ, if_neg hlong, hxx]
      rw [e]
      have c1 : W.cell? ⟨bx, 0, none⟩ = some (.slice (some ⟨g, o, none⟩) n cap) := by rw [cell_of_row _ _ 0 _ _ _ hC.tree]; rfl
      have HBe := Lib.hid (begin06_any w0 b g m x d W hmild hl hx hD)
      have hlb := beginL_len hl x
      obtain ⟨d1, hd1⟩ : ∃ d1, beginL d x = d1 := ⟨_, rfl⟩
      rw [hd1] at HBe hlb
      rw [hd1]
      have HC := Lib.hid hC
      have HX := Lib.hid hx
      have HKi := Lib.hid hkids
      obtain ⟨ko, kcap, hck, hKI, hkl⟩ := hx.kids
      obtain ⟨q, hq⟩ : ∃ q, x.kids.length = q := ⟨_, rfl⟩
      rw [hq] at hck hkl
      have HCk := Lib.hid hck
      have HKI := Lib.hid hKI
      have HQ := Lib.hid hq
      obtain ⟨d2, hd2⟩ : ∃ d2, x.kids.foldl (fun d k => writeF T f k.toNat d) d1 = d2 := ⟨_, rfl⟩
      rw [hd2]
      have D0 : Hid ((x.kids.drop 0).foldl (fun d k => writeF T f k.toNat d) d1 = d2) := Lib.hid hd2
      have HEn := Lib.hid fun (W1 : World) (dd : Bytes × Bool) (hdl : dd.1.length ≤ 65536) (h1 : DocAt w0 b dd W1) => end06_any w0 b g m x dd W1 hmild hdl hx h1
      have HLn := Lib.hid (writeF_len T f)
      have hnH := Lib.hid hn
      have HL1 := Lib.hid hlb
      have eg : ∀ args w, (callFunc 27 args).run Tryd.prog w = .ok (.enter 27 args) w := enters_of Tryd.func27 (by kernel_rfl) rfl
      clear e hx hmild hkids hB hTx hD hC hK hM hT hmem hxx hlong hl2 hd1 hd2 hck hKI hq hlb hn
      go_enter Tryd.func27, Tryd.ntmps27
      go_big_wp2_with (go_at_call 28
                       go_loud (
                         refine HBe.out.mono ?_
                         rintro e w1 ⟨rfl, hD1, hK1⟩
                         have c2 : w1.cell? ⟨g, m + 5, none⟩ = some (.slice ko q kcap) := by rw [hD1.below.cell (World.block_lt_of_cell? _ _ HCk.out)]; exact HCk.out
                         have HD1 := Lib.hid hD1
                         have HK1 := Lib.hid hK1
                         clear hD1 hK1))
      go_loopw [20] (fun a wr => ∃ (j : Nat) (dj : Bytes × Bool), a = .int .i64 ((j : Nat) : Int) ∧ j ≤ q ∧ Hid (DocAt w0 b dj wr) ∧ Hid (KeepD b W wr) ∧ Hid ((x.kids.drop j).foldl (fun d k => writeF T f k.toNat d) dj = d2) ∧ Hid (dj.1.length ≤ 65536)) (fun a _ => q - (RowKit.intOf a).toNat)
      case atStart => exact ⟨0, d1, rfl, Nat.zero_le _, HD1, HK1, D0, HL1⟩
      case round =>
        clear HD1 HK1 D0 HL1 c2 c1 x0 x1 x2 y0 y1 y2
        obtain ⟨j, dj, rfl, hj, HDj, HKj, HE, HLj⟩ := hrel
        by_cases hlt : j < q
        · have hltI : (j : Int) < (q : Int) := by omega
          obtain ⟨k, hk⟩ : ∃ k, x.kids[j]? = some k := ⟨_, List.getElem?_eq_getElem (by have := HQ.out; omega)⟩
          have hdr : x.kids.drop j = k :: x.kids.drop (j + 1) := by
            obtain ⟨h', e⟩ := List.getElem?_eq_some_iff.1 hk
            rw [List.drop_eq_getElem_cons h', e]
          rw [hdr] at HE
          have hkin := HKi.out k (List.mem_of_getElem? hk)
          obtain ⟨kn, rfl⟩ : ∃ kn : Nat, k = (kn : Int) := ⟨k.toNat, by omega⟩
          obtain ⟨gk, ok, hko, hcell⟩ := (HKI.out.on HDj.out.below).at_ j _ hk
          subst hko
          have c3 : wr.cell? ⟨cl, 0, none⟩ = some (.func (.func 27) #[] #[.pointer (some ⟨b, 0, none⟩), .pointer (some ⟨bx, 0, none⟩), .pointer (some ⟨cl, 0, none⟩)]) := by rw [cell_of_row _ _ 0 _ _ _ (HC.out.kept HKj.out).self]; rfl
          have HW := Lib.hid (IH.out kn dj wr (by have := hnH.out; omega) (by have := hnH.out; omega) HLj.out HDj.out (HC.out.kept HKj.out))
          have hE2 : (x.kids.drop (j + 1)).foldl (fun d k => writeF T f k.toNat d) (writeF T f kn dj) = d2 := HE.out
          have HE2 := Lib.hid hE2
          have HL2 := Lib.hid (HLn.out kn dj HLj.out)
          clear hE2 hdr hk hkin HE
          go_big_wp2_with (go_at_fn 27
                           go_loud (
                             refine HW.out.mono ?_
                             rintro e w2 ⟨rfl, hD2, hK2⟩
                             have HD2 := Lib.hid (And.intro hD2 (HKj.out.trans hK2))
                             clear hD2 hK2))
          exact ⟨⟨j + 1, _, by go_num, by omega, Lib.hid HD2.out.1, Lib.hid HD2.out.2, HE2, HL2⟩, by simp [RowKit.intOf]; omega⟩
        · have hjq : j = q := by omega
          have hdn : x.kids.drop j = [] := List.drop_eq_nil_of_le (by have := HQ.out; omega)
          rw [hdn] at HE
          have hdj : dj = d2 := HE.out
          have hltI : ¬ (j : Int) < (q : Int) := by omega
          have HN := Lib.hid (HEn.out wr dj HLj.out HDj.out)
          rw [hdj] at HN
          clear hdn hdj hjq HE
          go_big_wp2_with (go_at_call 29; refine HN.out.mono ?_; rintro e w3 ⟨rfl, hD3, hK3⟩; have HD3 := Lib.hid (And.intro hD3 (HKj.out.trans hK3)); clear hD3 hK3)
          go_end0
          exact ⟨rfl, HD3.out.1, HD3.out.2⟩
end Go.Proofs.YtkfmfldkllkcbabDoor

