/-
  Print of package csstok. Conditions: as for names.
-/
import Derived.Test.YtmhdocgoeahbdaaGreatDoorQPt
namespace Go.CssKit
open Go Go.Lib Go.UtfKit
/-- Would two tokens be read as others if nothing stood between them? -/
def joinT (a x : CT) : Bool :=
  if a.kind = 1 then x.kind == 1
  else if a.kind = 2 then joinsK x.kind || (x.kind == 11 && x.value == [40])
  else if a.kind = 4 ∨ a.kind = 5 ∨ a.kind = 8 ∨ a.kind = 9 ∨ a.kind = 10 ∨ a.kind = 12 then joinsK x.kind
  else false
def noT : CT := ⟨0, [], [], false⟩
def printF (t : CT) : List CT → List UInt8
  | [] => []
  | x :: r => ((if joinT t x = true then [47, 42, 42, 47] else []) ++ tokenW t x) ++ printF x r
/-- The document's Print. -/
def printC (l : List CT) : List UInt8 := printF noT l
def sumT : List CT → Nat
  | [] => 0
  | x :: r => 11 * (x.value.length + x.unit.length) + 24 + sumT r
theorem tokenW_len (t x : CT) : (tokenW t x).length ≤ 11 * (x.value.length + x.unit.length) + 16 := by
  have h1 := valC_len x
  have h2 := unitC_len x
  have h3 := nameW_len (misFirst (valC x)) (valC x) 0
  have h4 := nameW_len (hashM x) (valC x) 0
  have h5 := quoteW_len (valC x)
  have h6 := nameW_len (misUnit (unitC x)) (unitC x) 0
  have key : ∀ (c : Prop) [Decidable c] (a b : List UInt8) (n : Nat), a.length ≤ n → b.length ≤ n → (if c then a else b).length ≤ n := fun c _ a b n h1 h2 => by split <;> assumption
  unfold tokenW whiteW
  repeat' (refine key _ _ _ _ ?_ ?_)
  all_goals (try simp only [List.length_append, List.length_cons, List.length_nil])
  all_goals omega
end Go.CssKit
namespace Go.Proofs.YtmhdocgoeahbdaaGreatDoor
open Go.RowKit Go.RunKit Go.UtfKit Go.Lib Go.CssKit

set_option maxRecDepth 100000 in
set_option maxHeartbeats 4000000 in
theorem wouldJoin_any (a x : CT) (w : World) :
    Calls Tryz.prog 25 #[ctV a, ctV x] w fun e w' => e = .returned (.bool (joinT a x)) ∧ Below w.heap.size w w' := by
  have HJ := Lib.hid (joins_any x.kind)
  have HB : Hid (Below w.heap.size w ((w.alloc (.cells (bxC a) TTc)).alloc (.cells (bxC x) TTc))) := Lib.hid (((Below.refl _ _).alloc (Nat.le_refl _) _).alloc (by simp) _)
  unfold joinT
  obtain ⟨ka, va, ua, ia⟩ := a
  obtain ⟨kx, vx, ux, ix⟩ := x
  simp only at HJ ⊢
  unfold ctV
  by_cases h1 : ka = 1
  · subst h1
    have hb : (((kx : Nat) : Int) == 1) = (kx == 1) := by rw [Bool.eq_iff_iff, beq_iff_eq, beq_iff_eq]; omega
    clear HJ
    go_enter Tryz.func25, Tryz.ntmps25
    go_big_wp2
    go_ret
    refine ⟨ret1_eq (congrArg Value.bool ?_), HB.out⟩
    rw [← hb]
  · rw [if_neg h1]
    have c1 : (((ka : Nat) : Int) == 1) = false := by rw [beq_eq_false_iff_ne]; omega
    by_cases h2 : ka = 2
    · subst h2
      rw [if_pos rfl]
      generalize joinsK kx = p at *
      cases p
      · by_cases h11 : kx = 11
        · subst h11
          have hv1 : ((⟨vx.toArray⟩ : ByteArray).toList == [40]) = (vx == [40]) := by rw [show (⟨vx.toArray⟩ : ByteArray).toList = vx by simp]
          by_cases hv : vx = [40]
          · subst hv
            go_enter Tryz.func25, Tryz.ntmps25
            go_big_wp2_with (go_at_call 55; refine (HJ.out _).mono ?_; rintro e w2 ⟨rfl, rfl⟩)
            go_ret
            exact ⟨rfl, HB.out⟩
          · have bv : (vx == [40]) = false := by rw [beq_eq_false_iff_ne]; exact hv
            rw [bv] at hv1
            go_enter Tryz.func25, Tryz.ntmps25
            go_big_wp2_with (go_at_call 55; refine (HJ.out _).mono ?_; rintro e w2 ⟨rfl, rfl⟩)
            go_ret
            refine ⟨ret1_eq (congrArg Value.bool ?_), HB.out⟩
            simp [bv]
        · have b11 : (((kx : Nat) : Int) == 11) = false := by rw [beq_eq_false_iff_ne]; omega
          have n11 : (kx == 11) = false := by rw [beq_eq_false_iff_ne]; exact h11
          rw [n11]
          go_enter Tryz.func25, Tryz.ntmps25
          go_big_wp2_with (go_at_call 55; refine (HJ.out _).mono ?_; rintro e w2 ⟨rfl, rfl⟩)
          go_ret
          exact ⟨rfl, HB.out⟩
      · go_enter Tryz.func25, Tryz.ntmps25
        go_big_wp2_with (go_at_call 55; refine (HJ.out _).mono ?_; rintro e w2 ⟨rfl, rfl⟩)
        go_ret
        exact ⟨rfl, HB.out⟩
    · rw [if_neg h2]
      have c2 : (((ka : Nat) : Int) == 2) = false := by rw [beq_eq_false_iff_ne]; omega
      by_cases h3 : ka = 4 ∨ ka = 5 ∨ ka = 8 ∨ ka = 9 ∨ ka = 10 ∨ ka = 12
      · rw [if_pos h3]
        generalize joinsK kx = p at *
        rcases h3 with rfl | rfl | rfl | rfl | rfl | rfl
        all_goals
          clear c1 c2 h1 h2
          go_enter Tryz.func25, Tryz.ntmps25
          go_big_wp2_with (go_at_call 55; refine (HJ.out _).mono ?_; rintro e w2 ⟨rfl, rfl⟩)
          go_ret
          exact ⟨rfl, HB.out⟩
      · rw [if_neg h3]
        have c4 : (((ka : Nat) : Int) == 4) = false := by rw [beq_eq_false_iff_ne]; omega
        have c5 : (((ka : Nat) : Int) == 5) = false := by rw [beq_eq_false_iff_ne]; omega
        have c8 : (((ka : Nat) : Int) == 8) = false := by rw [beq_eq_false_iff_ne]; omega
        have c9 : (((ka : Nat) : Int) == 9) = false := by rw [beq_eq_false_iff_ne]; omega
        have c10 : (((ka : Nat) : Int) == 10) = false := by rw [beq_eq_false_iff_ne]; omega
        have c12 : (((ka : Nat) : Int) == 12) = false := by rw [beq_eq_false_iff_ne]; omega
        clear h1 h2 h3 HJ
        go_enter Tryz.func25, Tryz.ntmps25
        go_big_wp2
        go_ret
        exact ⟨rfl, HB.out⟩
/-- Tokens in a row, seen from now on. -/
def TksSee (W : World) (ao : Option Addr) (l : List CT) : Prop := ∀ W', Below W.heap.size W W' → ∀ k x, l[k]? = some x → ∃ g, ao = some ⟨g, 0, none⟩ ∧ W'.cell? ⟨g, k * 4, none⟩ = some (.int .u8 ((x.kind : Nat) : Int)) ∧ W'.cell? ⟨g, k * 4 + 1, none⟩ = some (.string ⟨x.value.toArray⟩) ∧ W'.cell? ⟨g, k * 4 + 2, none⟩ = some (.string ⟨x.unit.toArray⟩) ∧ W'.cell? ⟨g, k * 4 + 3, none⟩ = some (.bool x.id)
theorem pr_begin (w : World) : PrAt w w.heap.size [] noT (w.alloc (.cells #[.pointer none, .slice none 0 0, .int .u8 0, .string ⟨#[]⟩, .string ⟨#[]⟩, .bool false] TPr)) :=
  ⟨_, _, ⟨(Below.refl _ _).alloc (Nat.le_refl _) _, Nat.le_refl _, heap_alloc_new w _⟩, .inl ⟨rfl, rfl, rfl⟩⟩

theorem TextP.set {w0 W : World} {b i : Nat} {pa bv v : Value} {s : List UInt8} {cs : Array Value} {fr : Nat × Nat} (h : TextP w0 b pa bv s W) (hb : W.heap[b]? = some (.cells cs TPr fr)) : TextP w0 b pa bv s (W.setCell ⟨b, i, none⟩ v) := by
  rcases h with h | ⟨h1, h2, h3⟩
  · exact .inl h
  · exact .inr ⟨h1, q_fset h2 hb (by decide), h3⟩
/-- The token ahead is this one. -/
theorem PrAt.last {w0 W : World} {b : Nat} {s : List UInt8} {t : CT} (x : CT) (h : PrAt w0 b s t W) :
    PrAt w0 b s x ((((W.setCell ⟨b, 2, none⟩ (.int .u8 ((x.kind : Nat) : Int))).setCell ⟨b, 3, none⟩ (.string ⟨x.value.toArray⟩)).setCell ⟨b, 4, none⟩ (.string ⟨x.unit.toArray⟩)).setCell ⟨b, 5, none⟩ (.bool x.id)) := by
  obtain ⟨pa, bv, hB, hT⟩ := h.ex
  have e1 := heap_setCell_same W b 2 _ _ (.int .u8 ((x.kind : Nat) : Int)) hB.blk
  have e2 := heap_setCell_same _ b 3 _ _ (.string ⟨x.value.toArray⟩) e1
  have e3 := heap_setCell_same _ b 4 _ _ (.string ⟨x.unit.toArray⟩) e2
  have e4 := heap_setCell_same _ b 5 _ _ (.bool x.id) e3
  exact ⟨pa, bv, ⟨(((hB.below.setCell hB.le _).setCell hB.le _).setCell hB.le _).setCell hB.le _, hB.le, e4⟩, (((hT.set hB.blk).set e1).set e2).set e3⟩

set_option maxRecDepth 100000 in
set_option maxHeartbeats 8000000 in
theorem print_any (l : List CT) (ao : Option Addr) (cap : Nat) (w : World) (ht : U.Tabs w) (hsee : TksSee w ao l)
    (hv : ∀ x, x ∈ l → x.value.length ≤ 1073741824 ∧ x.unit.length ≤ 1073741824) (hsum : sumT l ≤ 70368744177664) (hlen : l.length ≤ 1099511627776)
    (hE : ∀ b t x z, x ∈ l → z ∈ escZ x → EscAs w b t z) :
    Calls Tryz.prog 12 #[.slice ao l.length cap] w fun e w' => e = .returned (.string ⟨(printC l).toArray⟩) ∧ Below w.heap.size w w' := by
  have HT := Lib.hid ht
  have HSee := Lib.hid hsee
  have HV := Lib.hid hv
  have HE := Lib.hid hE
  obtain ⟨ans, hans⟩ : ∃ a, printC l = a := ⟨_, rfl⟩
  rw [hans]
  have D0 : Hid (([] : List UInt8) ++ printF noT (l.drop 0) = ans) := Lib.hid (by rw [List.drop_zero, List.nil_append]; exact hans)
  have S0 : ([] : List UInt8).length + sumT (l.drop 0) ≤ 70368744177664 := by rw [List.drop_zero]; simpa using hsum
  have P0 := Lib.hid (pr_begin w)
  clear ht hsee hv hE hans hsum
  go_enter Tryz.func12, Tryz.ntmps12
  go_big_wp2
  generalize w.alloc (.cells #[.pointer none, .slice none 0 0, .int .u8 0, .string ⟨#[]⟩, .string ⟨#[]⟩, .bool false] TPr) = W1 at *
  generalize w.heap.size = b at *
  have HBw := Lib.hid (P0.out.below)
  go_loopw [8] (fun i wr => ∃ (k : Nat) (s' : List UInt8) (t : CT), i = .int .i64 ((k : Nat) : Int) ∧ k ≤ l.length ∧ s'.length + sumT (l.drop k) ≤ 70368744177664 ∧ Hid (PrAt w b s' t wr) ∧ Hid (s' ++ printF t (l.drop k) = ans)) (fun i _ => l.length - (RowKit.intOf i).toNat)
  case atStart => exact ⟨0, [], noT, rfl, Nat.zero_le _, S0, P0, D0⟩
  case round =>
    clear P0 D0 S0
    obtain ⟨k, s', t, rfl, hk, hl', HP, HD⟩ := hrel
    by_cases hlt : k < l.length
    · obtain ⟨x, hx⟩ := some_at (l := l) rfl hlt
      have hd : l.drop k = x :: l.drop (k + 1) := by rw [List.drop_eq_getElem_cons hlt]; rw [List.getElem?_eq_getElem hlt] at hx; cases hx; rfl
      have hst := HD.out
      rw [hd, printF] at hst
      rw [hd, sumT] at hl'
      obtain ⟨g, rfl, c0, c1, c2, c3⟩ := HSee.out wr HP.out.below k x hx
      have hltI : (k : Int) < l.length := by omega
      have hvx := HV.out x (List.mem_of_getElem? hx)
      have HEx := Lib.hid (fun z hz => HE.out b t x z (List.mem_of_getElem? hx) hz)
      have hwl := tokenW_len t x
      have HJ := Lib.hid (wouldJoin_any t x)
      have HTok := Lib.hid (fun s2 W2 (h2 : s2.length ≤ s'.length + 4) (hp : PrAt w b s2 t W2) => token_any w b s2 t x W2 ⟨HT.out, hvx.1, hvx.2, HEx.out, by omega⟩ hp)
      obtain ⟨jn, hjn⟩ : ∃ j, joinT t x = j := ⟨_, rfl⟩
      rw [hjn] at HJ hst
      have hl2 : (s' ++ (if jn = true then [47, 42, 42, 47] else []) ++ tokenW t x).length + sumT (l.drop (k + 1)) ≤ 70368744177664 := by
        rw [List.length_append, List.length_append]
        have : (if jn = true then ([47, 42, 42, 47] : List UInt8) else []).length ≤ 4 := by split <;> simp
        omega
      have HS : Hid ((s' ++ (if jn = true then [47, 42, 42, 47] else []) ++ tokenW t x) ++ printF x (l.drop (k + 1)) = ans) := Lib.hid (by simpa [List.append_assoc] using hst)
      have hwl2 := tokenW_len t x
      generalize tokenW t x = tw at *
      obtain ⟨kd, vl, un, idb⟩ := x
      simp only at c0 c1 c2 c3
      have hP5 : PrAt w b s' t (wr.alloc (.cells #[.int .u8 ((kd : Nat) : Int), .string ⟨vl.toArray⟩, .string ⟨un.toArray⟩, .bool idb] TTc)) := HP.out.on ((Below.refl _ _).alloc (Nat.le_refl _) _)
      obtain ⟨pa, bv, hB, _⟩ := hP5.ex
      obtain ⟨⟨_, _, x2, x3, x4, x5⟩, _⟩ := pr6 hB.blk
      have HP5 := Lib.hid hP5
      have HLt := Lib.hid HP.out.lt
      have HBx := Lib.hid (heap_alloc_new wr (.cells #[.int .u8 ((kd : Nat) : Int), .string ⟨vl.toArray⟩, .string ⟨un.toArray⟩, .bool idb] TTc))
      have HSl := Lib.hid (show s'.length + 4 ≤ 70368744177664 by omega)
      have hne : ¬ wr.heap.size = b := by have := HLt.out; omega
      unfold ctV at HJ HTok
      clear hx hd HD hst hP5 hB hjn hwl hwl2 hvx HEx hl' HP
      cases jn
      · rw [if_neg (by simp), List.append_nil] at hl2 HS
        go_big_wp2_with (first
          | (go_at_call 25; refine (HJ.out _).mono ?_; clear HJ; rintro e w2 ⟨rfl, hb2⟩; have HP2 := Lib.hid (HP5.out.on hb2); have HBx2 := Lib.hid ((hb2.block _ (Array.getElem?_eq_some_iff.1 HBx.out).1).trans HBx.out); obtain ⟨z0, z1, z2, z3⟩ := box4 HBx2.out; clear hb2)
          | (go_at_call 27; refine (HTok.out _ _ (by omega) HP2.out).mono ?_; clear HTok; rintro e w3 ⟨rfl, hp3, hk3⟩; have HBx3 := Lib.hid (hk3 _ _ HBx2.out (by simpa using hne) (fun c fz e => by simp only [Obj.cells.injEq] at e; exact absurd e.2.1 (by decide))); obtain ⟨y0, y1, y2, y3⟩ := box4 HBx3.out; have HP3 := Lib.hid hp3; obtain ⟨pa3, bv3, hB3, _⟩ := hp3.ex; obtain ⟨⟨_, _, u2, u3, u4, u5⟩, yf⟩ := pr6 hB3.blk; have f2 := yf 2; have f3 := yf 3; have f4 := yf 4; have f5 := yf 5; clear hp3 hk3 hB3 yf))
        have HF := Lib.hid (HP3.out.last ⟨kd, vl, un, idb⟩)
        exact ⟨⟨k + 1, _, ⟨kd, vl, un, idb⟩, by go_num, by omega, hl2, HF, HS⟩, by simp [RowKit.intOf]; omega⟩
      · rw [if_pos rfl] at hl2 HS
        have HW := Lib.hid (fun W2 hp => pwrite_any w b ⟨#[47, 42, 42, 47]⟩ s' t W2 (by have : (⟨#[47, 42, 42, 47]⟩ : ByteArray).size = 4 := rfl; have := HSl.out; omega) hp)
        go_big_wp2_with (first
          | (go_at_call 25; refine (HJ.out _).mono ?_; clear HJ; rintro e w2 ⟨rfl, hb2⟩; have HP1 := Lib.hid (HP5.out.on hb2); have HBx1 := Lib.hid ((hb2.block _ (Array.getElem?_eq_some_iff.1 HBx.out).1).trans HBx.out); obtain ⟨z0, z1, z2, z3⟩ := box4 HBx1.out; clear hb2)
          | (go_at_call 26; refine (HW.out _ HP1.out).mono ?_; clear HW; rintro e w4 ⟨rfl, hp4, hk4⟩; have HBx2 := Lib.hid (hk4 _ _ HBx1.out (by simpa using hne) (fun c fz e => by simp only [Obj.cells.injEq] at e; exact absurd e.2.1 (by decide))); obtain ⟨v0, v1, v2, v3⟩ := box4 HBx2.out; have HP2 := Lib.hid hp4; clear hp4 hk4)
          | (go_at_call 27; refine (HTok.out _ _ (by simp) HP2.out).mono ?_; clear HTok; rintro e w3 ⟨rfl, hp3, hk3⟩; have HBx3 := Lib.hid (hk3 _ _ HBx2.out (by simpa using hne) (fun c fz e => by simp only [Obj.cells.injEq] at e; exact absurd e.2.1 (by decide))); obtain ⟨y0, y1, y2, y3⟩ := box4 HBx3.out; have HP3 := Lib.hid hp3; obtain ⟨pa3, bv3, hB3, _⟩ := hp3.ex; obtain ⟨⟨_, _, u2, u3, u4, u5⟩, yf⟩ := pr6 hB3.blk; have f2 := yf 2; have f3 := yf 3; have f4 := yf 4; have f5 := yf 5; clear hp3 hk3 hB3 yf))
        have HF := Lib.hid (HP3.out.last ⟨kd, vl, un, idb⟩)
        exact ⟨⟨k + 1, _, ⟨kd, vl, un, idb⟩, by go_num, by omega, hl2, HF, HS⟩, by simp [RowKit.intOf]; omega⟩
    · have hkl : k = l.length := by omega
      subst hkl
      have hst := HD.out
      rw [List.drop_length, printF, List.append_nil] at hst
      subst hst
      have HS := Lib.hid (pstring_any w b s' t wr HP.out)
      go_big_wp2_with (go_at_call 28; refine HS.out.mono ?_; clear HS; rintro e w2 ⟨rfl, hb2⟩; have HB2 := Lib.hid hb2; clear hb2)
      go_ret
      exact ⟨rfl, HB2.out⟩
end Go.Proofs.YtmhdocgoeahbdaaGreatDoor
