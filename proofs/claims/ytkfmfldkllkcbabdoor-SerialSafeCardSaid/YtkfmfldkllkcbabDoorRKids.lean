/-
  areKids, haveTheirKids of package tree: the children of a tree's nodes. Conditions: the tree has at most 16384 nodes.
-/
import Derived.Test.YtkfmfldkllkcbabDoorRNode
namespace Go.TreeKit
open Go Go.Lib Go.TokenKit
def noNI : NI := ⟨0, [], [], [], 0, []⟩
/-- Are these the children of node i, rising from the last one on, and no text behind one? -/
def kidsL (T : List NI) (i : Nat) : Nat → List Int → Bool
  | _, [] => true
  | last, k :: r =>
    if k ≤ (last : Int) then false
    else if (T.length : Int) ≤ k then false
    else if (T.getD k.toNat noNI).up = (i : Int) then
      (if (T.getD last noNI).kind = 2 ∧ (T.getD k.toNat noNI).kind = 2 then false else kidsL T i k.toNat r)
    else false
theorem kidsL_len {T : List NI} {i : Nat} : ∀ {l : List Int} {last : Nat}, last < T.length → kidsL T i last l = true → l.length + last + 1 ≤ T.length
  | [], last, h, _ => by simp; omega
  | k :: r, last, h, hk => by
    unfold kidsL at hk
    split at hk
    · cases hk
    · split at hk
      · cases hk
      · split at hk
        · split at hk
          · cases hk
          · have := kidsL_len (l := r) (last := k.toNat) (by omega) hk
            simp only [List.length_cons]
            omega
        · cases hk
/-- Do all nodes from i on have their children? How many there are. -/
def haveF (T : List NI) : Nat → Nat → Nat → Option Nat
  | 0, _, c => some c
  | f + 1, i, c => if kidsL T i i (T.getD i noNI).kids then haveF T f (i + 1) (c + (T.getD i noNI).kids.length) else none
def haveR (n : Nat) : Option Nat → Bool
  | some c => decide ((c : Int) = (n : Int) - 1)
  | none => false
def haveKidsB (T : List NI) : Bool := haveR T.length (haveF T T.length 0 0)
end Go.TreeKit
namespace Go.Proofs.YtkfmfldkllkcbabDoor
open Go.RowKit Go.RunKit Go.CharrefKit Go.Lib Go.TokenKit Go.TreeKit

theorem node_at {T : List NI} {k : Nat} (h : k < T.length) : T[k]? = some (T.getD k noNI) := by
  rw [List.getD_eq_getElem?_getD, List.getElem?_eq_getElem h]
  rfl

set_option maxRecDepth 100000 in
set_option maxHeartbeats 4000000 in
theorem areKids_any (g o cap n i : Nat) (T : List NI) (w : World) (hn : n = T.length) (_hn2 : n ≤ 16384) (hi : i < n) (h : TreeIn w g o T) :
    Calls Tryd.prog 53 #[.slice (some ⟨g, o, none⟩) n cap, .int .i64 ((i : Nat) : Int)] w fun e w' => e = .returned (.bool (kidsL T i i (T.getD i noNI).kids)) ∧ w = w' := by
  have hx := h.at_ i _ (node_at (by omega))
  obtain ⟨ko, kcap, ck, hI, hlong⟩ := hx.kids
  have HI := Lib.hid hI
  have HT := Lib.hid h
  obtain ⟨ks, hks⟩ : ∃ ks, (T.getD i noNI).kids = ks := ⟨_, rfl⟩
  rw [hks] at ck HI hlong
  rw [hks]
  obtain ⟨ans, hans⟩ : ∃ a, kidsL T i i ks = a := ⟨_, rfl⟩
  rw [hans]
  have D0 : Hid (kidsL T i i (ks.drop 0) = ans) := Lib.hid hans
  clear hx hI h hks hans
  have hiI : (i : Int) < (n : Int) := by omega
  have hnH := Lib.hid hn
  clear hn
  obtain ⟨m, hm⟩ : ∃ m, ks.length = m := ⟨_, rfl⟩
  rw [hm] at ck hlong
  have hM := Lib.hid hm
  clear hm
  go_enter Tryd.func53, Tryd.ntmps53
  go_big_wp2
  go_loop [5, 15] (fun a b => ∃ (last j : Nat), a = .int .i64 ((last : Nat) : Int) ∧ b = .int .i64 ((j : Nat) : Int) ∧ last < n ∧ j ≤ m ∧ Hid (kidsL T i last (ks.drop j) = ans)) (fun _ b => m - (RowKit.intOf b).toNat)
  case atStart => exact ⟨i, 0, rfl, rfl, hi, Nat.zero_le _, D0⟩
  case round =>
    clear D0
    obtain ⟨last, j, rfl, rfl, hl, hj, HE⟩ := hrel
    by_cases hlt : j < m
    · have hltI : (j : Int) < (m : Int) := by omega
      obtain ⟨k, hk⟩ : ∃ k, ks[j]? = some k := ⟨_, List.getElem?_eq_getElem (by have := hM.out; omega)⟩
      have hd : ks.drop j = k :: ks.drop (j + 1) := by
        obtain ⟨h', e⟩ := List.getElem?_eq_some_iff.1 hk
        rw [List.drop_eq_getElem_cons h', e]
      rw [hd] at HE
      obtain ⟨gk, ok, hko, hck⟩ := HI.out.at_ j k hk
      subst hko
      clear hk hd
      unfold kidsL at HE
      by_cases h1 : k ≤ (last : Int)
      · rw [if_pos h1] at HE
        go_big_wp2
        go_ret
        exact ⟨ret1_eq (congrArg Value.bool HE.out), rfl⟩
      · have h1I := eq_false h1
        rw [if_neg h1] at HE
        by_cases h2 : (T.length : Int) ≤ k
        · have h2I : (n : Int) ≤ k := by have := hnH.out; omega
          rw [if_pos h2] at HE
          clear h2
          go_big_wp2
          go_ret
          exact ⟨ret1_eq (congrArg Value.bool HE.out), rfl⟩
        · obtain ⟨kn, rfl⟩ : ∃ kn : Nat, k = (kn : Int) := ⟨k.toNat, by omega⟩
          rw [if_neg h2] at HE
          have hkn : kn < n := by have := hnH.out; omega
          have h2I : ((n : Int) ≤ (kn : Int)) = False := eq_false (by omega)
          have h0I : (0 : Int) ≤ (kn : Int) := by omega
          have h3I : (kn : Int) < (n : Int) := by omega
          have hlI : (last : Int) < (n : Int) := by omega
          rw [Int.toNat_natCast] at HE
          have hy := HT.out.at_ kn _ (node_at (by have := hnH.out; omega))
          have hz := HT.out.at_ last _ (node_at (by have := hnH.out; omega))
          have cu := hy.up
          have cy := hy.kind
          have cz := hz.kind
          clear hy hz h2 h1
          by_cases h4 : (T.getD kn noNI).up = (i : Int)
          · rw [if_pos h4] at HE
            rw [h4] at cu
            clear h4
            obtain ⟨ky, hky⟩ : ∃ ky, (T.getD kn noNI).kind = ky := ⟨_, rfl⟩
            obtain ⟨kz, hkz⟩ : ∃ kz, (T.getD last noNI).kind = kz := ⟨_, rfl⟩
            rw [hky] at cy HE
            rw [hkz] at cz HE
            clear hky hkz
            by_cases h5 : kz = 2
            · subst h5
              by_cases h6 : ky = 2
              · subst h6
                rw [if_pos ⟨rfl, rfl⟩] at HE
                go_big_wp2
                go_ret
                exact ⟨ret1_eq (congrArg Value.bool HE.out), rfl⟩
              · have h6I : (((ky : Nat) : Int) = 2) = False := eq_false (by omega)
                have h6B : (((ky : Nat) : Int) == 2) = false := by rw [beq_eq_false_iff_ne]; omega
                rw [if_neg (fun e => h6 e.2)] at HE
                clear h6
                go_big_wp2
                exact ⟨⟨kn, j + 1, rfl, by go_num, hkn, by omega, HE⟩, by simp [RowKit.intOf]; omega⟩
            · have h5I : (((kz : Nat) : Int) = 2) = False := eq_false (by omega)
              have h5B : (((kz : Nat) : Int) == 2) = false := by rw [beq_eq_false_iff_ne]; omega
              rw [if_neg (fun e => h5 e.1)] at HE
              clear h5
              go_big_wp2
              exact ⟨⟨kn, j + 1, rfl, by go_num, hkn, by omega, HE⟩, by simp [RowKit.intOf]; omega⟩
          · rw [if_neg h4] at HE
            have h4I := eq_false h4
            have h4B : ((T.getD kn noNI).up != (i : Int)) = true := bne_iff_ne.2 h4
            obtain ⟨u, hu⟩ : ∃ u, (T.getD kn noNI).up = u := ⟨_, rfl⟩
            rw [hu] at cu h4I h4B
            clear h4 hu
            go_big_wp2
            go_ret
            exact ⟨ret1_eq (congrArg Value.bool HE.out), rfl⟩
    · obtain rfl : j = m := by omega
      have hd : ks.drop j = [] := List.drop_eq_nil_of_le (by have := hM.out; omega)
      rw [hd] at HE
      have hltI : ((j : Int) < (j : Int)) = False := eq_false (by omega)
      clear hd
      go_big_wp2
      go_ret
      exact ⟨ret1_eq (congrArg Value.bool HE.out), rfl⟩

set_option maxRecDepth 100000 in
set_option maxHeartbeats 4000000 in
theorem haveKids_any (g o cap n : Nat) (T : List NI) (w : World) (hn : n = T.length) (hn2 : n ≤ 16384) (h : TreeIn w g o T) :
    Calls Tryd.prog 38 #[.slice (some ⟨g, o, none⟩) n cap] w fun e w' => e = .returned (.bool (haveKidsB T)) ∧ w = w' := by
  have HA := Lib.hid fun (i : Nat) (hi : i < n) => areKids_any g o cap n i T w hn hn2 hi h
  have HT := Lib.hid h
  have hnH := Lib.hid hn
  obtain ⟨res, hres⟩ : ∃ r, haveF T T.length 0 0 = r := ⟨_, rfl⟩
  have D0 : Hid (haveF T n 0 0 = res) := Lib.hid (by rw [hn, hres])
  obtain ⟨ans, hans⟩ : ∃ a, haveKidsB T = a := ⟨_, rfl⟩
  have HAl : Hid (ans = haveR T.length res) := Lib.hid (by rw [← hans, ← hres]; rfl)
  rw [hans]
  clear hn h hres hans
  go_enter Tryd.func38, Tryd.ntmps38
  go_big_wp2
  go_loop [3, 7] (fun a b => ∃ (c j : Nat), a = .int .i64 ((c : Nat) : Int) ∧ b = .int .i64 ((j : Nat) : Int) ∧ j ≤ n ∧ c ≤ j * 16384 ∧ Hid (haveF T (n - j) j c = res)) (fun _ b => n - (RowKit.intOf b).toNat)
  case atStart => exact ⟨0, 0, rfl, rfl, Nat.zero_le _, by omega, D0⟩
  case round =>
    clear D0
    obtain ⟨c, j, rfl, rfl, hj, hc, HE⟩ := hrel
    by_cases hlt : j < n
    · have hltI : (j : Int) < (n : Int) := by omega
      obtain ⟨f, hf⟩ : ∃ f, n - j = f + 1 := ⟨n - j - 1, by omega⟩
      rw [hf] at HE
      unfold haveF at HE
      have hC := HA.out j hlt
      have hx := HT.out.at_ j _ (node_at (by have := hnH.out; omega))
      obtain ⟨ko, kcap, ck, _, _⟩ := hx.kids
      have hle : kidsL T j j (T.getD j noNI).kids = true → (T.getD j noNI).kids.length ≤ 16384 := fun hk => by
        have := kidsL_len (by have := hnH.out; omega) hk
        have := hnH.out
        omega
      obtain ⟨ks, hks⟩ : ∃ ks, (T.getD j noNI).kids = ks := ⟨_, rfl⟩
      rw [hks] at hC ck hle HE
      clear hx hks
      cases hb : kidsL T j j ks with
      | false =>
        rw [hb] at hC HE
        rw [if_neg (by decide)] at HE
        have HC := Lib.hid hC
        clear hC hle
        have hans : ans = false := by rw [HAl.out, ← HE.out]; rfl
        have HAns := Lib.hid hans
        clear hans
        go_big_wp2_with (go_at_call 53; refine HC.out.mono ?_; rintro e w1 ⟨rfl, rfl⟩)
        go_ret
        exact ⟨ret1_eq (congrArg Value.bool HAns.out.symm), rfl⟩
      | true =>
        rw [hb] at hC HE
        rw [if_pos rfl] at HE
        have HC := Lib.hid hC
        have hle2 := hle hb
        obtain ⟨m, hm⟩ : ∃ m, ks.length = m := ⟨_, rfl⟩
        rw [hm] at ck hle2 HE
        clear hC hle hb hm
        have hsum : wrap64 ((c : Int) + (m : Int)) = ((c + m : Nat) : Int) := by rw [IntWalk.wrap64_in _ ⟨by omega, by omega⟩]; omega
        go_big_wp2_with (go_at_call 53; refine HC.out.mono ?_; rintro e w1 ⟨rfl, rfl⟩)
        exact ⟨⟨c + m, j + 1, by go_num, by go_num, by omega, by omega, by rw [show n - (j + 1) = f by omega]; exact HE⟩, by simp [RowKit.intOf]; omega⟩
    · obtain rfl : j = n := by omega
      rw [Nat.sub_self] at HE
      have hans : ans = decide ((c : Int) = (j : Int) - 1) := by rw [HAl.out, ← HE.out, hnH.out]; rfl
      have HAns := Lib.hid hans
      clear hans
      have hltI : ((j : Int) < (j : Int)) = False := eq_false (by omega)
      have hsub : wrap64 ((j : Int) - 1) = (j : Int) - 1 := IntWalk.wrap64_in _ ⟨by omega, by omega⟩
      by_cases he : (c : Int) = (j : Int) - 1
      · go_big_wp2
        go_ret
        refine ⟨ret1_eq (congrArg Value.bool ?_), rfl⟩
        rw [HAns.out]
        simp [he]
      · go_big_wp2
        go_ret
        refine ⟨ret1_eq (congrArg Value.bool ?_), rfl⟩
        rw [HAns.out]
        simp [he]
end Go.Proofs.YtkfmfldkllkcbabDoor

