/-
  PACKS: CByte CNum CNum2 CNameM CName1 CSearch CTab CName2 CFind CBuild CEnc CDec
  Functions of one byte; the beginning of a text. No conditions.
  References by number: the program's way. No conditions.
  References by number, walked: the program's way. Conditions: the text begins with &#.
  Names, asked for from the longest on: what is found is what the document says. No conditions.
  How many letters; what goes on behind a name. No conditions.
  sort.Search over a closure that only reads, and may draw: it hands back how many places below n are false. Conditions: the closure answers p at each place; p does not fall.
  The names of the program, looked up by halves. No conditions.
  References by name, walked: the program's way. Conditions: the text begins with &.
  Find of charref. Conditions: the text is no longer than 2^40 bytes.
  strings.Builder in this program: copyCheck and WriteString at a builder that the call itself has made. Conditions: the bytes are no more than 2^47.
  A character as a text, and texts as rows of bytes. No conditions.
  Decode of charref: it tells what the document says. Conditions: the text is no longer than 2^40 bytes.
-/
import Derived.Test.YtkfmfldkllkcbaaGreatDoorCMath
import Derived.Test.YtkfmfldkllkcbaaGreatDoorBelow
import Derived.Test.YtkfmfldkllkcbaaGreatDoorShelf
import Derived.Laws.Strings
import Derived.Laws.Cover1
import Derived.Test.YtkfmfldkllkcbaaGreatDoorLit
import Derived.Deep.CutBlock
import Derived.Deep.LoopGhost
import Derived.Deep.Draws
import Derived.Shelf.Abstract
import Derived.BigRegion
import Derived.Shelf.Strings.BuilderRune
import Derived.Shelf.Strings.BuilderF
import Derived.Lib.OthersKept
import Derived.Laws.Cover4
import Derived.Laws.IdiomStrings
import Derived.Lib.QuoteLoop
namespace Go.Proofs.YtkfmfldkllkcbaaGreatDoor
open Go.RowKit Go.RunKit Go.CharrefKit Go.Lib

set_option maxRecDepth 100000 in
set_option maxHeartbeats 1000000 in
theorem isLetter_any (b : Nat) (hb : b < 256) (w : World) :
    Calls Tryz.prog 221 #[.int .u8 (b : Nat)] w fun e w' => e = .returned (.bool (isLet b)) ∧ w = w' := by
  by_cases h1 : (97 : Int) ≤ b <;> by_cases h2 : (b : Int) ≤ 122 <;> by_cases h3 : (65 : Int) ≤ b <;> by_cases h4 : (b : Int) ≤ 90
  all_goals (try (exfalso; omega))
  all_goals
    go_enter Tryz.func221, Tryz.ntmps221
    go_wp2
    go_ret
    refine ⟨ret1_eq (congrArg Value.bool ?_), rfl⟩
    unfold isLet
    try simp
    try omega
def refDigV (b : Nat) : Int := if digitV b < 16 then ((digitV b : Nat) : Int) else -1
theorem digitV_cases (b : Nat) : (48 ≤ b ∧ b ≤ 57 ∧ digitV b = b - 48) ∨ (97 ≤ b ∧ b ≤ 102 ∧ digitV b = b - 97 + 10) ∨ (65 ≤ b ∧ b ≤ 70 ∧ digitV b = b - 65 + 10) ∨ (¬ (48 ≤ b ∧ b ≤ 57) ∧ ¬ (97 ≤ b ∧ b ≤ 102) ∧ ¬ (65 ≤ b ∧ b ≤ 70) ∧ digitV b = 16) := by
  unfold digitV
  repeat' split
  all_goals omega
set_option maxRecDepth 100000 in
set_option maxHeartbeats 1000000 in
theorem digit_any (b : Nat) (hb : b < 256) (w : World) :
    Calls Tryz.prog 203 #[.int .u8 (b : Nat)] w fun e w' => e = .returned (.int .i32 (((digitV b : Nat) : Int))) ∧ w = w' := by
  by_cases h1 : (48 : Int) ≤ b <;> by_cases h2 : (b : Int) ≤ 57 <;> by_cases h3 : (97 : Int) ≤ b <;> by_cases h4 : (b : Int) ≤ 102 <;> by_cases h5 : (65 : Int) ≤ b <;> by_cases h6 : (b : Int) ≤ 70
  all_goals (try (exfalso; omega))
  all_goals
    go_enter Tryz.func203, Tryz.ntmps203
    go_wp2
    go_ret
    refine ⟨ret1_eq (congrArg (Value.int IntKind.i32) ?_), rfl⟩
    have hd := digitV_cases b
    try unfold refDigV
    (try split) <;> omega
/-! Texts as lists. -/
def natsOf (s : ByteArray) : List Nat := nats s.data.toList
theorem natsOf_length (s : ByteArray) : (natsOf s).length = s.size := by simp [natsOf, nats]
theorem natsOf_extract (s : ByteArray) (i j : Nat) : natsOf (s.extract i j) = ((natsOf s).drop i).take (j - i) := by
  simp [natsOf, nats, List.extract]
theorem natsOf_drop (s : ByteArray) (i : Nat) : natsOf (s.extract i s.size) = (natsOf s).drop i := by
  rw [natsOf_extract s i _, List.take_of_length_le]
  simp [natsOf_length]
theorem nats_inj : ∀ {a b : List UInt8}, nats a = nats b → a = b
  | [], [], _ => rfl
  | [], _ :: _, h => by cases h
  | _ :: _, [], h => by cases h
  | x :: a, y :: b, h => by
    simp only [nats, List.map_cons, List.cons.injEq] at h
    rw [UInt8.toNat_inj.1 h.1, nats_inj (a := a) (b := b) h.2]
theorem natsOf_inj {s t : ByteArray} (h : natsOf s = natsOf t) : s = t := by
  apply ByteArray.ext
  apply Array.ext'
  exact nats_inj h
theorem toList_eq_nats (a b : ByteArray) : (a.toList == b.toList) = decide (natsOf a = natsOf b) := by
  rw [Bool.eq_iff_iff, beq_iff_eq, decide_eq_true_eq, ByteArray.toList_eq, ByteArray.toList_eq]
  exact ⟨fun h => by unfold natsOf; rw [h], fun h => nats_inj h⟩
/-- Does a text begin with another one? -/
def hasPre (s p : ByteArray) : Bool := (natsOf p).isPrefixOf (natsOf s)
theorem hasPre_yes (s p : ByteArray) : ((s.extract 0 p.size).toList == p.toList) = hasPre s p := by
  have h2 := natsOf_length p
  have e : natsOf (s.extract 0 p.size) = (natsOf s).take p.size := by rw [natsOf_extract s 0 _]; simp
  unfold hasPre
  rw [toList_eq_nats, Bool.eq_iff_iff, List.isPrefixOf_iff_prefix, decide_eq_true_eq, List.prefix_iff_eq_take, h2, ← e]
  exact ⟨fun h => h.symm, fun h => h.symm⟩
theorem hasPre_no {s p : ByteArray} (h : ¬ p.size ≤ s.size) : hasPre s p = false := by
  have h1 := natsOf_length s
  have h2 := natsOf_length p
  unfold hasPre
  rw [Bool.eq_false_iff]
  intro hp
  have := (List.isPrefixOf_iff_prefix.1 hp).length_le
  omega
theorem natsOf_at (s : ByteArray) (i : Nat) (h : i < s.size) : (natsOf s)[i]? = some (s[i]'h).toNat := by
  have h2 : i < s.data.toList.length := by simpa using h
  simp only [natsOf, nats, List.getElem?_map, List.getElem?_eq_getElem h2, Option.map_some]
  rfl

set_option maxRecDepth 100000 in
set_option maxHeartbeats 1000000 in
theorem hasPrefix1_any (s p : ByteArray) (w : World) :
    Calls Tryz.prog 144 #[.string s, .string p] w fun e w' => e = .returned (.bool (hasPre s p)) ∧ w = w' := by
  by_cases h : (p.size : Int) ≤ s.size
  · go_enter Tryz.func144, Tryz.ntmps144
    go_wp2
    go_ret
    exact ⟨ret1_eq (congrArg Value.bool (hasPre_yes s p)), rfl⟩
  · have hF := eq_false h
    go_enter Tryz.func144, Tryz.ntmps144
    go_wp2
    go_ret
    exact ⟨ret1_eq (congrArg Value.bool (hasPre_no (by omega)).symm), rfl⟩
set_option maxRecDepth 100000 in
set_option maxHeartbeats 1000000 in
theorem hasPrefix_any (s p : ByteArray) (w : World) :
    Calls Tryz.prog 114 #[.string s, .string p] w fun e w' => e = .returned (.bool (hasPre s p)) ∧ w = w' := by
  have H := Lib.hid (hasPrefix1_any s p w)
  go_enter Tryz.func114, Tryz.ntmps114
  go_wp2_with (go_at_call 144; refine H.out.mono ?_; rintro e w1 ⟨rfl, rfl⟩)
  go_ret
  exact ⟨rfl, rfl⟩
end Go.Proofs.YtkfmfldkllkcbaaGreatDoor
namespace Go.RunKit
open Go Go.RowKit
variable {P : Program}
/-- An operation that hands back a value, run by the kernel. -/
theorem wpList_value {ops : Array Oper} {Q : Exit → Act → World → Prop} {rest : List Oper} {o : Oper} {a : Act} {w : World} {v : Value} (hg : o.guard = none)
    (hr : (execOp a.eval o).run P w = .ok (.value v) w) (h : wpList P ops Q rest (a.put o.dst v) w) : wpList P ops Q (o :: rest) a w := by
  refine wpList_plain hg fun K hK => ?_
  unfold Oper.wp
  rw [hr, Oper.upon_value]
  exact hK _ _ h
end Go.RunKit
namespace Go.Proofs.YtkfmfldkllkcbaaGreatDoor
open Go.RowKit Go.RunKit Go.CharrefKit Go.Lib

def winCells : List Value := winTab.map fun x : Nat => .int .i32 ((x : Nat) : Int)
theorem info32 : (Tryz.prog.info? 206).map (fun i => (i.zero, i.size)) = some (some (.agg (Array.replicate 32 (.int .i32 0))), 32) := by kernel_rfl
theorem size32 : (Tryz.prog.info? 206).map (·.size) = some winCells.toArray.size := by kernel_rfl
theorem win_one : winCells.toArray.all (·.oneCell') = true := by kernel_rfl
theorem win_at (k : Nat) (hk : k < 32) : winCells.toArray[k]? = some (.int .i32 ((winTab.getD k 0 : Nat) : Int)) := by
  have h : k < winTab.length := hk
  simp only [winCells, List.getElem?_toArray, List.getElem?_map, List.getElem?_eq_getElem h, Option.map_some, List.getD_eq_getElem?_getD, Option.getD_some]

set_option maxRecDepth 100000 in
set_option maxHeartbeats 1000000 in
theorem windows_any (k : Nat) (hk : k < 32) (w : World) :
    Calls Tryz.prog 220 #[.int .i32 ((k : Int) + 128)] w fun e w' => e = .returned (.int .i32 ((winTab.getD k 0 : Nat) : Int)) ∧ Below w.heap.size w w' := by
  have hkI : (k : Int) < 32 := by omega
  have HC := Lib.hid (win_at k hk)
  have HS := Lib.hid size32
  have HO := Lib.hid win_one
  go_enter Tryz.func220, Tryz.ntmps220
  go_upto_region 1 with (fail)
  rename_i Q' K hK
  refine wp_region_list ?_
  refine wpList_value (v := .agg winCells.toArray) rfl (by kernel_rfl) ?_
  refine wpList_alloc_row rfl rfl info32 ?_
  refine wpList_store_row rfl _ _ _ rfl w.heap.size winCells.toArray (by rfl) (by rfl) 206 _ (heap_alloc_last w _) HS.out (by kernel_rfl) HO.out ?_
  rw [World.setRow_alloc_new]
  refine wpList_nil ?_
  refine hK _ _ ?_
  go_frame
  have hb : Below w.heap.size w (w.alloc (.cells winCells.toArray 206)) := (Below.refl _ _).alloc (Nat.le_refl _) _
  have hc : (w.alloc (.cells winCells.toArray 206)).cell? ⟨w.heap.size, k, none⟩ = some (.int .i32 ((winTab.getD k 0 : Nat) : Int)) := by
    rw [World.cell?_alloc_at _ _ _ _ rfl]; exact HC.out
  generalize winCells.toArray = cs at *
  generalize w.alloc (.cells cs 206) = W at *
  clear HC HS HO
  go_wp2
  go_ret
  exact ⟨rfl, hb⟩

set_option maxRecDepth 100000 in
set_option maxHeartbeats 1000000 in
theorem numbered_any (v : Nat) (hv : v ≤ 17825791) (w : World) :
    Calls Tryz.prog 204 #[.int .i32 (v : Nat)] w fun e w' => e = .returned (.int .i32 ((charOf v : Nat) : Int)) ∧ Below w.heap.size w w' := by
  by_cases h0 : 128 ≤ v ∧ v ≤ 159
  · obtain ⟨h1, h2⟩ := h0
    have H := windows_any (v - 128) (by omega) w
    have e : (((v - 128 : Nat) : Int) + 128) = v := by omega
    rw [e] at H
    have H := Lib.hid H
    have hc : charOf v = winTab.getD (v - 128) 0 := by unfold charOf; rw [if_pos ⟨h1, h2⟩]
    rw [← hc] at H
    have i1 : (128 : Int) ≤ v := by omega
    have i2 : (v : Int) ≤ 159 := by omega
    clear hc e
    go_enter Tryz.func204, Tryz.ntmps204
    go_wp2_with (go_at_call 220; refine H.out.mono ?_; rintro e w1 ⟨rfl, hb⟩)
    go_ret
    exact ⟨rfl, hb⟩
  by_cases h1 : v = 0 ∨ 1114111 < v ∨ (55296 ≤ v ∧ v ≤ 57343)
  · have hc : charOf v = 65533 := by unfold charOf; rw [if_neg h0, if_pos h1]
    rw [hc]
    by_cases a1 : (128 : Int) ≤ v <;> by_cases a2 : (v : Int) ≤ 159 <;> by_cases a3 : (v : Int) = 0 <;> by_cases a4 : (1114111 : Int) < v <;> by_cases a5 : (55296 : Int) ≤ v <;> by_cases a6 : (v : Int) ≤ 57343
    all_goals (try (exfalso; omega))
    all_goals
      clear hc h0 h1
      go_enter Tryz.func204, Tryz.ntmps204
      go_wp2
      go_ret
      exact ⟨rfl, Below.refl _ _⟩
  · have hc : charOf v = v := by unfold charOf; rw [if_neg h0, if_neg h1]
    rw [hc]
    by_cases a1 : (128 : Int) ≤ v <;> by_cases a2 : (v : Int) ≤ 159 <;> by_cases a3 : (v : Int) = 0 <;> by_cases a4 : (1114111 : Int) < v <;> by_cases a5 : (55296 : Int) ≤ v <;> by_cases a6 : (v : Int) ≤ 57343
    all_goals (try (exfalso; omega))
    all_goals
      clear hc h0 h1
      go_enter Tryz.func204, Tryz.ntmps204
      go_wp2
      go_ret
      exact ⟨rfl, Below.refl _ _⟩
end Go.Proofs.YtkfmfldkllkcbaaGreatDoor
namespace Go.CharrefKit
open Go

theorem valueOf_snoc (base : Nat) (ds : List Nat) (d : Nat) : valueOf base (ds ++ [d]) = valueOf base ds * base + digitV d := by simp [valueOf]

/-- The first k of the digits are summed; what is past all characters stays so. -/
structure NumAt (base : Nat) (l : List Nat) (k c : Nat) : Prop where
  all : ∀ b ∈ l.take k, isDig base b = true
  le : k ≤ l.length
  sum : (c ≤ 1114111 ∧ c = valueOf base (l.take k)) ∨ (1114111 < c ∧ c ≤ 17825791 ∧ 1114111 < valueOf base (l.take k))
theorem NumAt.zero (base : Nat) (l : List Nat) : NumAt base l 0 0 := ⟨by simp, Nat.zero_le _, .inl ⟨by omega, by simp [valueOf]⟩⟩
theorem NumAt.small {base : Nat} {l : List Nat} {k c : Nat} (h : NumAt base l k c) : c ≤ 17825791 := by rcases h.sum with h | h <;> omega
theorem take_snoc {l : List Nat} {k b : Nat} (hb : l[k]? = some b) : l.take (k + 1) = l.take k ++ [b] := by rw [List.take_add_one, hb]; rfl
theorem NumAt.next {base : Nat} {l : List Nat} {k c b : Nat} (h : NumAt base l k c) (hbase : 1 ≤ base ∧ base ≤ 16) (hb : l[k]? = some b) (hd : digitV b < base) (hc : c ≤ 1114111) : NumAt base l (k + 1) (c * base + digitV b) := by
  have hlt := (List.getElem?_eq_some_iff.1 hb).1
  have hv : c = valueOf base (l.take k) := by rcases h.sum with h | h <;> omega
  refine ⟨fun x hx => ?_, hlt, ?_⟩
  · rw [take_snoc hb, List.mem_append] at hx
    rcases hx with hx | hx
    · exact h.all x hx
    · simp at hx; subst hx; simpa [isDig] using hd
  · rw [take_snoc hb, valueOf_snoc, ← hv]
    have : c * base ≤ 1114111 * 16 := Nat.mul_le_mul hc hbase.2
    by_cases hh : c * base + digitV b ≤ 1114111
    · exact .inl ⟨hh, rfl⟩
    · exact .inr ⟨by omega, by omega, by omega⟩
theorem NumAt.stay {base : Nat} {l : List Nat} {k c b : Nat} (h : NumAt base l k c) (hbase : 1 ≤ base ∧ base ≤ 16) (hb : l[k]? = some b) (hd : digitV b < base) (hc : 1114111 < c) : NumAt base l (k + 1) c := by
  have hlt := (List.getElem?_eq_some_iff.1 hb).1
  have hv : c ≤ 17825791 ∧ 1114111 < valueOf base (l.take k) := by rcases h.sum with h | h <;> omega
  refine ⟨fun x hx => ?_, hlt, .inr ⟨hc, hv.1, ?_⟩⟩
  · rw [take_snoc hb, List.mem_append] at hx
    rcases hx with hx | hx
    · exact h.all x hx
    · simp at hx; subst hx; simpa [isDig] using hd
  · rw [take_snoc hb, valueOf_snoc]
    have : valueOf base (l.take k) * 1 ≤ valueOf base (l.take k) * base := Nat.mul_le_mul (Nat.le_refl _) hbase.1
    omega
theorem takeWhile_take {α : Type} {p : α → Bool} : ∀ {l : List α} {k : Nat}, (∀ b ∈ l.take k, p b = true) → (∀ b, l[k]? = some b → p b = false) → l.takeWhile p = l.take k
  | [], k, _, _ => by simp
  | x :: r, 0, _, h => by
    have := h x rfl
    simp [List.takeWhile, this]
  | x :: r, k + 1, h1, h2 => by
    have hx := h1 x (by simp)
    rw [List.takeWhile_cons, if_pos hx, List.take_succ_cons, takeWhile_take (fun b (hb : b ∈ r.take k) => h1 b (by rw [List.take_succ_cons]; exact List.mem_cons_of_mem _ hb)) (fun b hb => h2 b (by simpa using hb))]
theorem charOf_big {a b : Nat} (ha : 1114111 < a) (hb : 1114111 < b) : charOf a = charOf b := by
  unfold charOf
  rw [if_neg (by omega), if_pos (by omega), if_neg (by omega), if_pos (by omega)]
theorem NumAt.char {base : Nat} {l : List Nat} {k c : Nat} (h : NumAt base l k c) : charOf c = charOf (valueOf base (l.take k)) := by
  rcases h.sum with h | h
  · rw [← h.2]
  · exact charOf_big h.1 h.2.2
theorem NumAt.done {base : Nat} {l : List Nat} {k c : Nat} (h : NumAt base l k c) (he : ∀ b, l[k]? = some b → ¬ digitV b < base) : digs base l = l.take k ∧ (l.take k).length = k :=
  ⟨takeWhile_take h.all (fun b hb => by simpa [isDig] using he b hb), by rw [List.length_take]; have := h.le; omega⟩
theorem number_none {attr : Bool} {r : List Nat} {c : Nat} (h : NumAt (baseOf r) (r.drop (headOf r)) 0 c) (he : ∀ b, (r.drop (headOf r))[0]? = some b → ¬ digitV b < baseOf r) : findL attr (38 :: 35 :: r) = noRef := by
  have e := (h.done he).1
  have hn : numberL r = noRef := by unfold numberL; rw [e]; simp
  rw [findL_num, hn]; rfl
theorem number_some {attr : Bool} {r : List Nat} {k c : Nat} (h : NumAt (baseOf r) (r.drop (headOf r)) k c) (he : ∀ b, (r.drop (headOf r))[k]? = some b → ¬ digitV b < baseOf r) (hk : 0 < k) :
    findL attr (38 :: 35 :: r) = ⟨charOf c, headOf r + k + (if r[headOf r + k]? = some 59 then 1 else 0) + 2, true⟩ := by
  obtain ⟨e, e2⟩ := h.done he
  have hn : numberL r = ⟨charOf c, headOf r + k + (if r[headOf r + k]? = some 59 then 1 else 0), true⟩ := by
    unfold numberL
    simp only [e, e2]
    rw [if_neg (fun h => by rw [h] at e2; simp at e2; omega), h.char]
  rw [findL_num, hn]; rfl
end Go.CharrefKit
namespace Go.Proofs.YtkfmfldkllkcbaaGreatDoor
open Go.RowKit Go.RunKit Go.CharrefKit Go.Lib

def refV (x : Ref) : Value := .tuple #[.int .i32 ((x.char : Nat) : Int), .int .i64 ((x.len : Nat) : Int), .bool x.ok]
theorem refV_none : refV noRef = .tuple #[.int .i32 0, .int .i64 0, .bool false] := rfl
theorem semi_at (s : ByteArray) (n : Nat) : hasPre (s.extract n s.size) ⟨#[59]⟩ = decide ((natsOf s)[n]? = some 59) := by
  unfold hasPre
  rw [natsOf_drop]
  have e : natsOf ⟨#[59]⟩ = [59] := rfl
  rw [e]
  have h0 : (natsOf s)[n]? = ((natsOf s).drop n)[0]? := by rw [List.getElem?_drop, Nat.add_zero]
  rw [h0]
  cases (natsOf s).drop n with
  | nil => rfl
  | cons b t =>
    show ((59 == b) && List.isPrefixOf [] t) = decide (some b = some 59)
    by_cases h : b = 59
    · subst h; rfl
    · have h1 : (59 == b) = false := beq_eq_false_iff_ne.2 (fun e => h e.symm)
      rw [h1, decide_eq_false (fun e => h (Option.some.inj e))]
      rfl

set_option maxRecDepth 100000 in
set_option maxHeartbeats 4000000 in
theorem byNumber_empty (attr : Bool) (s : ByteArray) (r : List Nat) (hs : natsOf s = 38 :: 35 :: r) (_hsz : s.size ≤ 1099511627776) (w : World) (hr : r = []) (hx : isHex r = false) :
    Calls Tryz.prog 187 #[.string s] w fun e w' => e = .returned (refV (findL attr (natsOf s))) ∧ Below w.heap.size w w' := by
  have HS := Lib.hid hs
  have hsl := natsOf_length s
  rw [hs] at hsl
  simp only [List.length_cons] at hsl
  have hrl : r.length = 0 := by rw [hr]; rfl
  have hbase : baseOf r = 10 := by unfold baseOf; rw [hx]; rfl
  have hhead : headOf r = 0 := by unfold headOf; rw [hx]; rfl
  have HNUM : ∀ {k c : Nat}, NumAt 10 r k c → NumAt (baseOf r) (r.drop (headOf r)) k c := fun h => by rw [hbase, hhead]; exact h
  have HEND : ∀ {k : Nat}, (∀ b, r[k]? = some b → ¬ digitV b < 10) → ∀ b, (r.drop (headOf r))[k]? = some b → ¬ digitV b < baseOf r := fun h => by rw [hbase, hhead]; exact h
  have HHEAD := hhead
  have HAT : Hid (∀ k, (natsOf s)[k + 2]? = r[k]?) := Lib.hid (fun k => by rw [hs]; rfl)
  have HAT2 : Hid (∀ k, (natsOf s)[k + 2]? = r[headOf r + k]?) := Lib.hid (fun k => by rw [hs, hhead, Nat.zero_add]; rfl)
  have h2 : ¬ (2 : Int) < s.size := by omega
  have hF := eq_false h2
  clear hs
  go_enter Tryz.func187, Tryz.ntmps187
  go_wp2
  go_loopw [6, 7] (fun n c wr => ∃ k c' : Nat, n = .int .i64 ((k : Int) + 2) ∧ c = .int .i32 (c' : Nat) ∧ Hid (NumAt 10 r k c') ∧ k ≤ r.length ∧ c' ≤ 17825791 ∧ Below w.heap.size w wr) (fun n _ _ => s.size - (RowKit.intOf n).toNat)
  case atStart => exact ⟨0, 0, rfl, rfl, Lib.hid (NumAt.zero _ _), Nat.zero_le _, by omega, Below.refl _ _⟩
  case round =>
    obtain ⟨k, c, rfl, rfl, HN, hk, hc, hb⟩ := hrel
    by_cases hlt : k < r.length
    · exact absurd hlt (by omega)
    · have hslI := eq_false (show ¬ (k : Int) + 2 < s.size by omega)
      have HE : Hid (∀ b, r[k]? = some b → ¬ digitV b < 10) := Lib.hid (fun x hx => by rw [List.getElem?_eq_none (by omega)] at hx; cases hx)
      have HDG : True := trivial
      by_cases hk0 : k = 0
      · subst hk0
        have HV : Hid (refV (findL attr (natsOf s)) = .tuple #[.int .i32 0, .int .i64 0, .bool false]) := Lib.hid (by rw [HS.out, number_none (HNUM HN.out) (HEND HE.out)]; rfl)
        clear HN HE
        go_wp2
        go_ret3
        exact ⟨by rw [HV.out]; rfl, hb⟩
      · exact absurd hk0 (by omega)

set_option maxRecDepth 100000 in
set_option maxHeartbeats 4000000 in
theorem byNumber_dec (attr : Bool) (s : ByteArray) (r : List Nat) (hs : natsOf s = 38 :: 35 :: r) (hsz : s.size ≤ 1099511627776) (w : World) (q : Nat) (l : List Nat) (hq : r = q :: l) (hx : isHex r = false) (hq1' : q ≠ 120) (hq2' : q ≠ 88) :
    Calls Tryz.prog 187 #[.string s] w fun e w' => e = .returned (refV (findL attr (natsOf s))) ∧ Below w.heap.size w w' := by
  have HS := Lib.hid hs
  have hsl := natsOf_length s
  rw [hs] at hsl
  simp only [List.length_cons] at hsl
  have hrl : r.length = l.length + 1 := by rw [hq]; rfl
  have hbase : baseOf r = 10 := by unfold baseOf; rw [hx]; rfl
  have hhead : headOf r = 0 := by unfold headOf; rw [hx]; rfl
  have HNUM : ∀ {k c : Nat}, NumAt 10 r k c → NumAt (baseOf r) (r.drop (headOf r)) k c := fun h => by rw [hbase, hhead]; exact h
  have HEND : ∀ {k : Nat}, (∀ b, r[k]? = some b → ¬ digitV b < 10) → ∀ b, (r.drop (headOf r))[k]? = some b → ¬ digitV b < baseOf r := fun h => by rw [hbase, hhead]; exact h
  have HHEAD := hhead
  have HAT : Hid (∀ k, (natsOf s)[k + 2]? = r[k]?) := Lib.hid (fun k => by rw [hs]; rfl)
  have HAT2 : Hid (∀ k, (natsOf s)[k + 2]? = r[headOf r + k]?) := Lib.hid (fun k => by rw [hs, hhead, Nat.zero_add]; rfl)
  have h2 : 2 < s.size := by omega
  have h2I : (2 : Int) < s.size := by omega
  have hc2 : (s[2]'h2).toNat = q := by
    have h1 := natsOf_at s 2 h2
    rw [hs, hq] at h1
    exact (Option.some.inj h1).symm
  have hq1 : ((((s[2]'h2).toNat : Nat) : Int) == 120) = false := beq_eq_false_iff_ne.2 (by rw [hc2]; omega)
  have hq2 : ((((s[2]'h2).toNat : Nat) : Int) == 88) = false := beq_eq_false_iff_ne.2 (by rw [hc2]; omega)
  clear hc2
  clear hs
  go_enter Tryz.func187, Tryz.ntmps187
  go_wp2
  go_loopw [6, 7] (fun n c wr => ∃ k c' : Nat, n = .int .i64 ((k : Int) + 2) ∧ c = .int .i32 (c' : Nat) ∧ Hid (NumAt 10 r k c') ∧ k ≤ r.length ∧ c' ≤ 17825791 ∧ Below w.heap.size w wr) (fun n _ _ => s.size - (RowKit.intOf n).toNat)
  case atStart => exact ⟨0, 0, rfl, rfl, Lib.hid (NumAt.zero _ _), Nat.zero_le _, by omega, Below.refl _ _⟩
  case round =>
    obtain ⟨k, c, rfl, rfl, HN, hk, hc, hb⟩ := hrel
    by_cases hlt : k < r.length
    · obtain ⟨b, hbk⟩ := some_at (l := r) rfl hlt
      have hsl : k + 2 < s.size := by omega
      have hbs : (s[k + 2]'hsl).toNat = b := by
        have h1 := natsOf_at s (k + 2) hsl
        have h2 := HAT.out k
        rw [h1, hbk] at h2
        exact Option.some.inj h2
      have hslI : (k : Int) + 2 < s.size := by omega
      have HDG := Lib.hid (fun w => digit_any (s[k + 2]'hsl).toNat (UInt8.toNat_lt _) w)
      by_cases hd : digitV b < 10
      · have hdI : ((digitV (s[k + 2]'hsl).toNat : Nat) : Int) < 10 := by rw [hbs]; omega
        by_cases hcs : c ≤ 1114111
        · have hcI : (c : Int) ≤ 1114111 := by omega
          have HX := Lib.hid (HN.out.next ⟨by omega, by omega⟩ hbk hd hcs)
          have hcast : ((c * 10 + digitV b : Nat) : Int) = (c : Int) * 10 + ((digitV (s[k + 2]'hsl).toNat : Nat) : Int) := by rw [hbs]; omega
          have hsm := HX.out.small
          have HY := Lib.hid (And.intro hcast hsm)
          have hdr : ((digitV (s[k + 2]'hsl).toNat : Nat) : Int) ≤ 15 := by omega
          clear hbk hcast hsm hbs
          go_wp2_with (go_at_call 203; refine (HDG.out _).mono ?_; rintro e w1 ⟨rfl, rfl⟩)
          exact ⟨⟨k + 1, _, by go_num, by rw [HY.out.1], HX, by omega, HY.out.2, hb⟩, by simp [RowKit.intOf]; omega⟩
        · have hcI := eq_false (show ¬ (c : Int) ≤ 1114111 by omega)
          have HX := Lib.hid (HN.out.stay ⟨by omega, by omega⟩ hbk hd (by omega))
          clear hbk hbs
          go_wp2_with (go_at_call 203; refine (HDG.out _).mono ?_; rintro e w1 ⟨rfl, rfl⟩)
          exact ⟨⟨k + 1, _, by go_num, rfl, HX, by omega, hc, hb⟩, by simp [RowKit.intOf]; omega⟩
      · have hdI := eq_false (show ¬ ((digitV (s[k + 2]'hsl).toNat : Nat) : Int) < 10 by rw [hbs]; omega)
        have HE : Hid (∀ b, r[k]? = some b → ¬ digitV b < 10) := Lib.hid (fun x hx => by rw [hbk] at hx; cases hx; exact hd)
        clear hbk hbs
        by_cases hk0 : k = 0
        · subst hk0
          have HV : Hid (refV (findL attr (natsOf s)) = .tuple #[.int .i32 0, .int .i64 0, .bool false]) := Lib.hid (by rw [HS.out, number_none (HNUM HN.out) (HEND HE.out)]; rfl)
          clear HN HE
          go_wp2_with (go_at_call 203; refine (HDG.out _).mono ?_; rintro e w1 ⟨rfl, rfl⟩)
          go_ret3
          exact ⟨by rw [HV.out]; rfl, hb⟩
        · have hkne : ¬ (k : Int) = 0 := by omega
          have hsn := semi_at s (k + 2)
          have hat : (natsOf s)[k + 2]? = r[headOf r + k]? := HAT2.out k
          rw [hat] at hsn
          have HNB := Lib.hid (fun w => numbered_any c hc w)
          have hV := number_some (attr := attr) (HNUM HN.out) (HEND HE.out) (by omega)
          rw [← HS.out] at hV
          by_cases h59 : r[headOf r + k]? = some 59
          · rw [decide_eq_true h59] at hsn
            rw [if_pos h59] at hV
            have HP := Lib.hid (fun w => hasPrefix_any (s.extract (k + 2) s.size) ⟨#[59]⟩ w)
            rw [hsn] at HP
            have HV : Hid (refV (findL attr (natsOf s)) = .tuple #[.int .i32 ((charOf c : Nat) : Int), .int .i64 ((k : Int) + 2 + 1), .bool true]) := Lib.hid (by
              rw [hV]
              show Value.tuple #[.int .i32 ((charOf c : Nat) : Int), .int .i64 ((headOf r + k + 1 + 2 : Nat) : Int), .bool true] = _
              have e : ((headOf r + k + 1 + 2 : Nat) : Int) = (k : Int) + 2 + 1 := by omega
              rw [e])
            clear HN HE hsn hat h59 hV
            go_wp2_with (first
              | (go_at_call 203; refine (HDG.out _).mono ?_; rintro e w1 ⟨rfl, rfl⟩)
              | (go_at_call 114; refine (HP.out _).mono ?_; rintro e w2 ⟨rfl, rfl⟩)
              | (go_at_call 204; refine (HNB.out _).mono ?_; rintro e w3 ⟨rfl, hb3⟩))
            go_ret3
            exact ⟨by rw [HV.out]; rfl, hb.trans (hb3.mono hb.size)⟩
          · rw [decide_eq_false h59] at hsn
            rw [if_neg h59] at hV
            have HP := Lib.hid (fun w => hasPrefix_any (s.extract (k + 2) s.size) ⟨#[59]⟩ w)
            rw [hsn] at HP
            have HV : Hid (refV (findL attr (natsOf s)) = .tuple #[.int .i32 ((charOf c : Nat) : Int), .int .i64 ((k : Int) + 2), .bool true]) := Lib.hid (by
              rw [hV]
              show Value.tuple #[.int .i32 ((charOf c : Nat) : Int), .int .i64 ((headOf r + k + 0 + 2 : Nat) : Int), .bool true] = _
              have e : ((headOf r + k + 0 + 2 : Nat) : Int) = (k : Int) + 2 := by omega
              rw [e])
            clear HN HE hsn hat h59 hV
            go_wp2_with (first
              | (go_at_call 203; refine (HDG.out _).mono ?_; rintro e w1 ⟨rfl, rfl⟩)
              | (go_at_call 114; refine (HP.out _).mono ?_; rintro e w2 ⟨rfl, rfl⟩)
              | (go_at_call 204; refine (HNB.out _).mono ?_; rintro e w3 ⟨rfl, hb3⟩))
            go_ret3
            exact ⟨by rw [HV.out]; rfl, hb.trans (hb3.mono hb.size)⟩
    · have hslI := eq_false (show ¬ (k : Int) + 2 < s.size by omega)
      have HE : Hid (∀ b, r[k]? = some b → ¬ digitV b < 10) := Lib.hid (fun x hx => by rw [List.getElem?_eq_none (by omega)] at hx; cases hx)
      have HDG : True := trivial
      by_cases hk0 : k = 0
      · subst hk0
        exact absurd hlt (by omega)
      · have hkne : ¬ (k : Int) = 0 := by omega
        have hsn := semi_at s (k + 2)
        have hat : (natsOf s)[k + 2]? = r[headOf r + k]? := HAT2.out k
        rw [hat] at hsn
        have HNB := Lib.hid (fun w => numbered_any c hc w)
        have hV := number_some (attr := attr) (HNUM HN.out) (HEND HE.out) (by omega)
        rw [← HS.out] at hV
        by_cases h59 : r[headOf r + k]? = some 59
        · rw [decide_eq_true h59] at hsn
          rw [if_pos h59] at hV
          have HP := Lib.hid (fun w => hasPrefix_any (s.extract (k + 2) s.size) ⟨#[59]⟩ w)
          rw [hsn] at HP
          have HV : Hid (refV (findL attr (natsOf s)) = .tuple #[.int .i32 ((charOf c : Nat) : Int), .int .i64 ((k : Int) + 2 + 1), .bool true]) := Lib.hid (by
            rw [hV]
            show Value.tuple #[.int .i32 ((charOf c : Nat) : Int), .int .i64 ((headOf r + k + 1 + 2 : Nat) : Int), .bool true] = _
            have e : ((headOf r + k + 1 + 2 : Nat) : Int) = (k : Int) + 2 + 1 := by omega
            rw [e])
          clear HN HE hsn hat h59 hV
          go_wp2_with (first
            | (go_at_call 114; refine (HP.out _).mono ?_; rintro e w2 ⟨rfl, rfl⟩)
            | (go_at_call 204; refine (HNB.out _).mono ?_; rintro e w3 ⟨rfl, hb3⟩))
          go_ret3
          exact ⟨by rw [HV.out]; rfl, hb.trans (hb3.mono hb.size)⟩
        · rw [decide_eq_false h59] at hsn
          rw [if_neg h59] at hV
          have HP := Lib.hid (fun w => hasPrefix_any (s.extract (k + 2) s.size) ⟨#[59]⟩ w)
          rw [hsn] at HP
          have HV : Hid (refV (findL attr (natsOf s)) = .tuple #[.int .i32 ((charOf c : Nat) : Int), .int .i64 ((k : Int) + 2), .bool true]) := Lib.hid (by
            rw [hV]
            show Value.tuple #[.int .i32 ((charOf c : Nat) : Int), .int .i64 ((headOf r + k + 0 + 2 : Nat) : Int), .bool true] = _
            have e : ((headOf r + k + 0 + 2 : Nat) : Int) = (k : Int) + 2 := by omega
            rw [e])
          clear HN HE hsn hat h59 hV
          go_wp2_with (first
            | (go_at_call 114; refine (HP.out _).mono ?_; rintro e w2 ⟨rfl, rfl⟩)
            | (go_at_call 204; refine (HNB.out _).mono ?_; rintro e w3 ⟨rfl, hb3⟩))
          go_ret3
          exact ⟨by rw [HV.out]; rfl, hb.trans (hb3.mono hb.size)⟩

set_option maxRecDepth 100000 in
set_option maxHeartbeats 4000000 in
theorem byNumber_hex (attr : Bool) (s : ByteArray) (r : List Nat) (hs : natsOf s = 38 :: 35 :: r) (hsz : s.size ≤ 1099511627776) (w : World) (hx : isHex r = true) (hq : r.head? = some 120) :
    Calls Tryz.prog 187 #[.string s] w fun e w' => e = .returned (refV (findL attr (natsOf s))) ∧ Below w.heap.size w w' := by
  have HS := Lib.hid hs
  have hsl := natsOf_length s
  rw [hs] at hsl
  simp only [List.length_cons] at hsl
  have hbase : baseOf r = 16 := by unfold baseOf; rw [hx]; rfl
  have hhead : headOf r = 1 := by unfold headOf; rw [hx]; rfl
  obtain ⟨q, l, rfl⟩ : ∃ q l, r = q :: l := by
    cases r with
    | nil => cases hx
    | cons q l => exact ⟨q, l, rfl⟩
  simp only [List.length_cons] at hsl
  simp only [List.head?_cons, Option.some.injEq] at hq
  have HNUM : ∀ {k c : Nat}, NumAt 16 l k c → NumAt (baseOf (q :: l)) ((q :: l).drop (headOf (q :: l))) k c := fun h => by rw [hbase, hhead]; exact h
  have HEND : ∀ {k : Nat}, (∀ b, l[k]? = some b → ¬ digitV b < 16) → ∀ b, ((q :: l).drop (headOf (q :: l)))[k]? = some b → ¬ digitV b < baseOf (q :: l) := fun h => by rw [hbase, hhead]; exact h
  have HHEAD := hhead
  have HAT : Hid (∀ k, (natsOf s)[k + 3]? = l[k]?) := Lib.hid (fun k => by rw [hs]; rfl)
  have HAT2 : Hid (∀ k, (natsOf s)[k + 3]? = (q :: l)[headOf (q :: l) + k]?) := Lib.hid (fun k => by rw [hs, hhead, Nat.add_comm 1 k]; rfl)
  have h2 : 2 < s.size := by omega
  have h2I : (2 : Int) < s.size := by omega
  have hc2 : (s[2]'h2).toNat = q := by
    have h1 := natsOf_at s 2 h2
    rw [hs] at h1
    exact (Option.some.inj h1).symm
  rw [hq] at hc2
  clear hs
  go_enter Tryz.func187, Tryz.ntmps187
  go_wp2
  go_loopw [6, 7] (fun n c wr => ∃ k c' : Nat, n = .int .i64 ((k : Int) + 3) ∧ c = .int .i32 (c' : Nat) ∧ Hid (NumAt 16 l k c') ∧ k ≤ l.length ∧ c' ≤ 17825791 ∧ Below w.heap.size w wr) (fun n _ _ => s.size - (RowKit.intOf n).toNat)
  case atStart => exact ⟨0, 0, rfl, rfl, Lib.hid (NumAt.zero _ _), Nat.zero_le _, by omega, Below.refl _ _⟩
  case round =>
    obtain ⟨k, c, rfl, rfl, HN, hk, hc, hb⟩ := hrel
    by_cases hlt : k < l.length
    · obtain ⟨b, hbk⟩ := some_at (l := l) rfl hlt
      have hsl : k + 3 < s.size := by omega
      have hbs : (s[k + 3]'hsl).toNat = b := by
        have h1 := natsOf_at s (k + 3) hsl
        have h2 := HAT.out k
        rw [h1, hbk] at h2
        exact Option.some.inj h2
      have hslI : (k : Int) + 3 < s.size := by omega
      have HDG := Lib.hid (fun w => digit_any (s[k + 3]'hsl).toNat (UInt8.toNat_lt _) w)
      by_cases hd : digitV b < 16
      · have hdI : ((digitV (s[k + 3]'hsl).toNat : Nat) : Int) < 16 := by rw [hbs]; omega
        by_cases hcs : c ≤ 1114111
        · have hcI : (c : Int) ≤ 1114111 := by omega
          have HX := Lib.hid (HN.out.next ⟨by omega, by omega⟩ hbk hd hcs)
          have hcast : ((c * 16 + digitV b : Nat) : Int) = (c : Int) * 16 + ((digitV (s[k + 3]'hsl).toNat : Nat) : Int) := by rw [hbs]; omega
          have hsm := HX.out.small
          have HY := Lib.hid (And.intro hcast hsm)
          have hdr : ((digitV (s[k + 3]'hsl).toNat : Nat) : Int) ≤ 15 := by omega
          clear hbk hcast hsm hbs
          go_wp2_with (go_at_call 203; refine (HDG.out _).mono ?_; rintro e w1 ⟨rfl, rfl⟩)
          exact ⟨⟨k + 1, _, by go_num, by rw [HY.out.1], HX, by omega, HY.out.2, hb⟩, by simp [RowKit.intOf]; omega⟩
        · have hcI := eq_false (show ¬ (c : Int) ≤ 1114111 by omega)
          have HX := Lib.hid (HN.out.stay ⟨by omega, by omega⟩ hbk hd (by omega))
          clear hbk hbs
          go_wp2_with (go_at_call 203; refine (HDG.out _).mono ?_; rintro e w1 ⟨rfl, rfl⟩)
          exact ⟨⟨k + 1, _, by go_num, rfl, HX, by omega, hc, hb⟩, by simp [RowKit.intOf]; omega⟩
      · have hdI := eq_false (show ¬ ((digitV (s[k + 3]'hsl).toNat : Nat) : Int) < 16 by rw [hbs]; omega)
        have HE : Hid (∀ b, l[k]? = some b → ¬ digitV b < 16) := Lib.hid (fun x hx => by rw [hbk] at hx; cases hx; exact hd)
        clear hbk hbs
        by_cases hk0 : k = 0
        · subst hk0
          have HV : Hid (refV (findL attr (natsOf s)) = .tuple #[.int .i32 0, .int .i64 0, .bool false]) := Lib.hid (by rw [HS.out, number_none (HNUM HN.out) (HEND HE.out)]; rfl)
          clear HN HE
          go_wp2_with (go_at_call 203; refine (HDG.out _).mono ?_; rintro e w1 ⟨rfl, rfl⟩)
          go_ret3
          exact ⟨by rw [HV.out]; rfl, hb⟩
        · have hkne : ¬ (k : Int) = 0 := by omega
          have hsn := semi_at s (k + 3)
          have hat : (natsOf s)[k + 3]? = (q :: l)[headOf (q :: l) + k]? := HAT2.out k
          rw [hat] at hsn
          have HNB := Lib.hid (fun w => numbered_any c hc w)
          have hV := number_some (attr := attr) (HNUM HN.out) (HEND HE.out) (by omega)
          rw [← HS.out] at hV
          by_cases h59 : (q :: l)[headOf (q :: l) + k]? = some 59
          · rw [decide_eq_true h59] at hsn
            rw [if_pos h59] at hV
            have HP := Lib.hid (fun w => hasPrefix_any (s.extract (k + 3) s.size) ⟨#[59]⟩ w)
            rw [hsn] at HP
            have HV : Hid (refV (findL attr (natsOf s)) = .tuple #[.int .i32 ((charOf c : Nat) : Int), .int .i64 ((k : Int) + 3 + 1), .bool true]) := Lib.hid (by
              rw [hV]
              show Value.tuple #[.int .i32 ((charOf c : Nat) : Int), .int .i64 ((headOf (q :: l) + k + 1 + 2 : Nat) : Int), .bool true] = _
              have e : ((headOf (q :: l) + k + 1 + 2 : Nat) : Int) = (k : Int) + 3 + 1 := by omega
              rw [e])
            clear HN HE hsn hat h59 hV
            go_wp2_with (first
              | (go_at_call 203; refine (HDG.out _).mono ?_; rintro e w1 ⟨rfl, rfl⟩)
              | (go_at_call 114; refine (HP.out _).mono ?_; rintro e w2 ⟨rfl, rfl⟩)
              | (go_at_call 204; refine (HNB.out _).mono ?_; rintro e w3 ⟨rfl, hb3⟩))
            go_ret3
            exact ⟨by rw [HV.out]; rfl, hb.trans (hb3.mono hb.size)⟩
          · rw [decide_eq_false h59] at hsn
            rw [if_neg h59] at hV
            have HP := Lib.hid (fun w => hasPrefix_any (s.extract (k + 3) s.size) ⟨#[59]⟩ w)
            rw [hsn] at HP
            have HV : Hid (refV (findL attr (natsOf s)) = .tuple #[.int .i32 ((charOf c : Nat) : Int), .int .i64 ((k : Int) + 3), .bool true]) := Lib.hid (by
              rw [hV]
              show Value.tuple #[.int .i32 ((charOf c : Nat) : Int), .int .i64 ((headOf (q :: l) + k + 0 + 2 : Nat) : Int), .bool true] = _
              have e : ((headOf (q :: l) + k + 0 + 2 : Nat) : Int) = (k : Int) + 3 := by omega
              rw [e])
            clear HN HE hsn hat h59 hV
            go_wp2_with (first
              | (go_at_call 203; refine (HDG.out _).mono ?_; rintro e w1 ⟨rfl, rfl⟩)
              | (go_at_call 114; refine (HP.out _).mono ?_; rintro e w2 ⟨rfl, rfl⟩)
              | (go_at_call 204; refine (HNB.out _).mono ?_; rintro e w3 ⟨rfl, hb3⟩))
            go_ret3
            exact ⟨by rw [HV.out]; rfl, hb.trans (hb3.mono hb.size)⟩
    · have hslI := eq_false (show ¬ (k : Int) + 3 < s.size by omega)
      have HE : Hid (∀ b, l[k]? = some b → ¬ digitV b < 16) := Lib.hid (fun x hx => by rw [List.getElem?_eq_none (by omega)] at hx; cases hx)
      have HDG : True := trivial
      by_cases hk0 : k = 0
      · subst hk0
        have HV : Hid (refV (findL attr (natsOf s)) = .tuple #[.int .i32 0, .int .i64 0, .bool false]) := Lib.hid (by rw [HS.out, number_none (HNUM HN.out) (HEND HE.out)]; rfl)
        clear HN HE
        go_wp2
        go_ret3
        exact ⟨by rw [HV.out]; rfl, hb⟩
      · have hkne : ¬ (k : Int) = 0 := by omega
        have hsn := semi_at s (k + 3)
        have hat : (natsOf s)[k + 3]? = (q :: l)[headOf (q :: l) + k]? := HAT2.out k
        rw [hat] at hsn
        have HNB := Lib.hid (fun w => numbered_any c hc w)
        have hV := number_some (attr := attr) (HNUM HN.out) (HEND HE.out) (by omega)
        rw [← HS.out] at hV
        by_cases h59 : (q :: l)[headOf (q :: l) + k]? = some 59
        · rw [decide_eq_true h59] at hsn
          rw [if_pos h59] at hV
          have HP := Lib.hid (fun w => hasPrefix_any (s.extract (k + 3) s.size) ⟨#[59]⟩ w)
          rw [hsn] at HP
          have HV : Hid (refV (findL attr (natsOf s)) = .tuple #[.int .i32 ((charOf c : Nat) : Int), .int .i64 ((k : Int) + 3 + 1), .bool true]) := Lib.hid (by
            rw [hV]
            show Value.tuple #[.int .i32 ((charOf c : Nat) : Int), .int .i64 ((headOf (q :: l) + k + 1 + 2 : Nat) : Int), .bool true] = _
            have e : ((headOf (q :: l) + k + 1 + 2 : Nat) : Int) = (k : Int) + 3 + 1 := by omega
            rw [e])
          clear HN HE hsn hat h59 hV
          go_wp2_with (first
            | (go_at_call 114; refine (HP.out _).mono ?_; rintro e w2 ⟨rfl, rfl⟩)
            | (go_at_call 204; refine (HNB.out _).mono ?_; rintro e w3 ⟨rfl, hb3⟩))
          go_ret3
          exact ⟨by rw [HV.out]; rfl, hb.trans (hb3.mono hb.size)⟩
        · rw [decide_eq_false h59] at hsn
          rw [if_neg h59] at hV
          have HP := Lib.hid (fun w => hasPrefix_any (s.extract (k + 3) s.size) ⟨#[59]⟩ w)
          rw [hsn] at HP
          have HV : Hid (refV (findL attr (natsOf s)) = .tuple #[.int .i32 ((charOf c : Nat) : Int), .int .i64 ((k : Int) + 3), .bool true]) := Lib.hid (by
            rw [hV]
            show Value.tuple #[.int .i32 ((charOf c : Nat) : Int), .int .i64 ((headOf (q :: l) + k + 0 + 2 : Nat) : Int), .bool true] = _
            have e : ((headOf (q :: l) + k + 0 + 2 : Nat) : Int) = (k : Int) + 3 := by omega
            rw [e])
          clear HN HE hsn hat h59 hV
          go_wp2_with (first
            | (go_at_call 114; refine (HP.out _).mono ?_; rintro e w2 ⟨rfl, rfl⟩)
            | (go_at_call 204; refine (HNB.out _).mono ?_; rintro e w3 ⟨rfl, hb3⟩))
          go_ret3
          exact ⟨by rw [HV.out]; rfl, hb.trans (hb3.mono hb.size)⟩

set_option maxRecDepth 100000 in
set_option maxHeartbeats 4000000 in
theorem byNumber_heX (attr : Bool) (s : ByteArray) (r : List Nat) (hs : natsOf s = 38 :: 35 :: r) (hsz : s.size ≤ 1099511627776) (w : World) (hx : isHex r = true) (hq : r.head? = some 88) :
    Calls Tryz.prog 187 #[.string s] w fun e w' => e = .returned (refV (findL attr (natsOf s))) ∧ Below w.heap.size w w' := by
  have HS := Lib.hid hs
  have hsl := natsOf_length s
  rw [hs] at hsl
  simp only [List.length_cons] at hsl
  have hbase : baseOf r = 16 := by unfold baseOf; rw [hx]; rfl
  have hhead : headOf r = 1 := by unfold headOf; rw [hx]; rfl
  obtain ⟨q, l, rfl⟩ : ∃ q l, r = q :: l := by
    cases r with
    | nil => cases hx
    | cons q l => exact ⟨q, l, rfl⟩
  simp only [List.length_cons] at hsl
  simp only [List.head?_cons, Option.some.injEq] at hq
  have HNUM : ∀ {k c : Nat}, NumAt 16 l k c → NumAt (baseOf (q :: l)) ((q :: l).drop (headOf (q :: l))) k c := fun h => by rw [hbase, hhead]; exact h
  have HEND : ∀ {k : Nat}, (∀ b, l[k]? = some b → ¬ digitV b < 16) → ∀ b, ((q :: l).drop (headOf (q :: l)))[k]? = some b → ¬ digitV b < baseOf (q :: l) := fun h => by rw [hbase, hhead]; exact h
  have HHEAD := hhead
  have HAT : Hid (∀ k, (natsOf s)[k + 3]? = l[k]?) := Lib.hid (fun k => by rw [hs]; rfl)
  have HAT2 : Hid (∀ k, (natsOf s)[k + 3]? = (q :: l)[headOf (q :: l) + k]?) := Lib.hid (fun k => by rw [hs, hhead, Nat.add_comm 1 k]; rfl)
  have h2 : 2 < s.size := by omega
  have h2I : (2 : Int) < s.size := by omega
  have hc2 : (s[2]'h2).toNat = q := by
    have h1 := natsOf_at s 2 h2
    rw [hs] at h1
    exact (Option.some.inj h1).symm
  rw [hq] at hc2
  clear hs
  go_enter Tryz.func187, Tryz.ntmps187
  go_wp2
  go_loopw [6, 7] (fun n c wr => ∃ k c' : Nat, n = .int .i64 ((k : Int) + 3) ∧ c = .int .i32 (c' : Nat) ∧ Hid (NumAt 16 l k c') ∧ k ≤ l.length ∧ c' ≤ 17825791 ∧ Below w.heap.size w wr) (fun n _ _ => s.size - (RowKit.intOf n).toNat)
  case atStart => exact ⟨0, 0, rfl, rfl, Lib.hid (NumAt.zero _ _), Nat.zero_le _, by omega, Below.refl _ _⟩
  case round =>
    obtain ⟨k, c, rfl, rfl, HN, hk, hc, hb⟩ := hrel
    by_cases hlt : k < l.length
    · obtain ⟨b, hbk⟩ := some_at (l := l) rfl hlt
      have hsl : k + 3 < s.size := by omega
      have hbs : (s[k + 3]'hsl).toNat = b := by
        have h1 := natsOf_at s (k + 3) hsl
        have h2 := HAT.out k
        rw [h1, hbk] at h2
        exact Option.some.inj h2
      have hslI : (k : Int) + 3 < s.size := by omega
      have HDG := Lib.hid (fun w => digit_any (s[k + 3]'hsl).toNat (UInt8.toNat_lt _) w)
      by_cases hd : digitV b < 16
      · have hdI : ((digitV (s[k + 3]'hsl).toNat : Nat) : Int) < 16 := by rw [hbs]; omega
        by_cases hcs : c ≤ 1114111
        · have hcI : (c : Int) ≤ 1114111 := by omega
          have HX := Lib.hid (HN.out.next ⟨by omega, by omega⟩ hbk hd hcs)
          have hcast : ((c * 16 + digitV b : Nat) : Int) = (c : Int) * 16 + ((digitV (s[k + 3]'hsl).toNat : Nat) : Int) := by rw [hbs]; omega
          have hsm := HX.out.small
          have HY := Lib.hid (And.intro hcast hsm)
          have hdr : ((digitV (s[k + 3]'hsl).toNat : Nat) : Int) ≤ 15 := by omega
          clear hbk hcast hsm hbs
          go_wp2_with (go_at_call 203; refine (HDG.out _).mono ?_; rintro e w1 ⟨rfl, rfl⟩)
          exact ⟨⟨k + 1, _, by go_num, by rw [HY.out.1], HX, by omega, HY.out.2, hb⟩, by simp [RowKit.intOf]; omega⟩
        · have hcI := eq_false (show ¬ (c : Int) ≤ 1114111 by omega)
          have HX := Lib.hid (HN.out.stay ⟨by omega, by omega⟩ hbk hd (by omega))
          clear hbk hbs
          go_wp2_with (go_at_call 203; refine (HDG.out _).mono ?_; rintro e w1 ⟨rfl, rfl⟩)
          exact ⟨⟨k + 1, _, by go_num, rfl, HX, by omega, hc, hb⟩, by simp [RowKit.intOf]; omega⟩
      · have hdI := eq_false (show ¬ ((digitV (s[k + 3]'hsl).toNat : Nat) : Int) < 16 by rw [hbs]; omega)
        have HE : Hid (∀ b, l[k]? = some b → ¬ digitV b < 16) := Lib.hid (fun x hx => by rw [hbk] at hx; cases hx; exact hd)
        clear hbk hbs
        by_cases hk0 : k = 0
        · subst hk0
          have HV : Hid (refV (findL attr (natsOf s)) = .tuple #[.int .i32 0, .int .i64 0, .bool false]) := Lib.hid (by rw [HS.out, number_none (HNUM HN.out) (HEND HE.out)]; rfl)
          clear HN HE
          go_wp2_with (go_at_call 203; refine (HDG.out _).mono ?_; rintro e w1 ⟨rfl, rfl⟩)
          go_ret3
          exact ⟨by rw [HV.out]; rfl, hb⟩
        · have hkne : ¬ (k : Int) = 0 := by omega
          have hsn := semi_at s (k + 3)
          have hat : (natsOf s)[k + 3]? = (q :: l)[headOf (q :: l) + k]? := HAT2.out k
          rw [hat] at hsn
          have HNB := Lib.hid (fun w => numbered_any c hc w)
          have hV := number_some (attr := attr) (HNUM HN.out) (HEND HE.out) (by omega)
          rw [← HS.out] at hV
          by_cases h59 : (q :: l)[headOf (q :: l) + k]? = some 59
          · rw [decide_eq_true h59] at hsn
            rw [if_pos h59] at hV
            have HP := Lib.hid (fun w => hasPrefix_any (s.extract (k + 3) s.size) ⟨#[59]⟩ w)
            rw [hsn] at HP
            have HV : Hid (refV (findL attr (natsOf s)) = .tuple #[.int .i32 ((charOf c : Nat) : Int), .int .i64 ((k : Int) + 3 + 1), .bool true]) := Lib.hid (by
              rw [hV]
              show Value.tuple #[.int .i32 ((charOf c : Nat) : Int), .int .i64 ((headOf (q :: l) + k + 1 + 2 : Nat) : Int), .bool true] = _
              have e : ((headOf (q :: l) + k + 1 + 2 : Nat) : Int) = (k : Int) + 3 + 1 := by omega
              rw [e])
            clear HN HE hsn hat h59 hV
            go_wp2_with (first
              | (go_at_call 203; refine (HDG.out _).mono ?_; rintro e w1 ⟨rfl, rfl⟩)
              | (go_at_call 114; refine (HP.out _).mono ?_; rintro e w2 ⟨rfl, rfl⟩)
              | (go_at_call 204; refine (HNB.out _).mono ?_; rintro e w3 ⟨rfl, hb3⟩))
            go_ret3
            exact ⟨by rw [HV.out]; rfl, hb.trans (hb3.mono hb.size)⟩
          · rw [decide_eq_false h59] at hsn
            rw [if_neg h59] at hV
            have HP := Lib.hid (fun w => hasPrefix_any (s.extract (k + 3) s.size) ⟨#[59]⟩ w)
            rw [hsn] at HP
            have HV : Hid (refV (findL attr (natsOf s)) = .tuple #[.int .i32 ((charOf c : Nat) : Int), .int .i64 ((k : Int) + 3), .bool true]) := Lib.hid (by
              rw [hV]
              show Value.tuple #[.int .i32 ((charOf c : Nat) : Int), .int .i64 ((headOf (q :: l) + k + 0 + 2 : Nat) : Int), .bool true] = _
              have e : ((headOf (q :: l) + k + 0 + 2 : Nat) : Int) = (k : Int) + 3 := by omega
              rw [e])
            clear HN HE hsn hat h59 hV
            go_wp2_with (first
              | (go_at_call 203; refine (HDG.out _).mono ?_; rintro e w1 ⟨rfl, rfl⟩)
              | (go_at_call 114; refine (HP.out _).mono ?_; rintro e w2 ⟨rfl, rfl⟩)
              | (go_at_call 204; refine (HNB.out _).mono ?_; rintro e w3 ⟨rfl, hb3⟩))
            go_ret3
            exact ⟨by rw [HV.out]; rfl, hb.trans (hb3.mono hb.size)⟩
    · have hslI := eq_false (show ¬ (k : Int) + 3 < s.size by omega)
      have HE : Hid (∀ b, l[k]? = some b → ¬ digitV b < 16) := Lib.hid (fun x hx => by rw [List.getElem?_eq_none (by omega)] at hx; cases hx)
      have HDG : True := trivial
      by_cases hk0 : k = 0
      · subst hk0
        have HV : Hid (refV (findL attr (natsOf s)) = .tuple #[.int .i32 0, .int .i64 0, .bool false]) := Lib.hid (by rw [HS.out, number_none (HNUM HN.out) (HEND HE.out)]; rfl)
        clear HN HE
        go_wp2
        go_ret3
        exact ⟨by rw [HV.out]; rfl, hb⟩
      · have hkne : ¬ (k : Int) = 0 := by omega
        have hsn := semi_at s (k + 3)
        have hat : (natsOf s)[k + 3]? = (q :: l)[headOf (q :: l) + k]? := HAT2.out k
        rw [hat] at hsn
        have HNB := Lib.hid (fun w => numbered_any c hc w)
        have hV := number_some (attr := attr) (HNUM HN.out) (HEND HE.out) (by omega)
        rw [← HS.out] at hV
        by_cases h59 : (q :: l)[headOf (q :: l) + k]? = some 59
        · rw [decide_eq_true h59] at hsn
          rw [if_pos h59] at hV
          have HP := Lib.hid (fun w => hasPrefix_any (s.extract (k + 3) s.size) ⟨#[59]⟩ w)
          rw [hsn] at HP
          have HV : Hid (refV (findL attr (natsOf s)) = .tuple #[.int .i32 ((charOf c : Nat) : Int), .int .i64 ((k : Int) + 3 + 1), .bool true]) := Lib.hid (by
            rw [hV]
            show Value.tuple #[.int .i32 ((charOf c : Nat) : Int), .int .i64 ((headOf (q :: l) + k + 1 + 2 : Nat) : Int), .bool true] = _
            have e : ((headOf (q :: l) + k + 1 + 2 : Nat) : Int) = (k : Int) + 3 + 1 := by omega
            rw [e])
          clear HN HE hsn hat h59 hV
          go_wp2_with (first
            | (go_at_call 114; refine (HP.out _).mono ?_; rintro e w2 ⟨rfl, rfl⟩)
            | (go_at_call 204; refine (HNB.out _).mono ?_; rintro e w3 ⟨rfl, hb3⟩))
          go_ret3
          exact ⟨by rw [HV.out]; rfl, hb.trans (hb3.mono hb.size)⟩
        · rw [decide_eq_false h59] at hsn
          rw [if_neg h59] at hV
          have HP := Lib.hid (fun w => hasPrefix_any (s.extract (k + 3) s.size) ⟨#[59]⟩ w)
          rw [hsn] at HP
          have HV : Hid (refV (findL attr (natsOf s)) = .tuple #[.int .i32 ((charOf c : Nat) : Int), .int .i64 ((k : Int) + 3), .bool true]) := Lib.hid (by
            rw [hV]
            show Value.tuple #[.int .i32 ((charOf c : Nat) : Int), .int .i64 ((headOf (q :: l) + k + 0 + 2 : Nat) : Int), .bool true] = _
            have e : ((headOf (q :: l) + k + 0 + 2 : Nat) : Int) = (k : Int) + 3 := by omega
            rw [e])
          clear HN HE hsn hat h59 hV
          go_wp2_with (first
            | (go_at_call 114; refine (HP.out _).mono ?_; rintro e w2 ⟨rfl, rfl⟩)
            | (go_at_call 204; refine (HNB.out _).mono ?_; rintro e w3 ⟨rfl, hb3⟩))
          go_ret3
          exact ⟨by rw [HV.out]; rfl, hb.trans (hb3.mono hb.size)⟩
end Go.Proofs.YtkfmfldkllkcbaaGreatDoor
namespace Go.CharrefKit
open Go

abbrev Entry := List Nat × Nat × Bool
theorem tab_fact {e : Entry} (h : e ∈ tab) : (∀ b ∈ e.1, isLet b = true) ∧ 2 ≤ e.1.length ∧ e.1.length ≤ 6 := by
  have := List.all_eq_true.1 tab_letters e h
  simp only [Bool.and_eq_true, decide_eq_true_eq, List.all_eq_true] at this
  exact ⟨this.1.1, this.1.2, this.2⟩
theorem tab_same {e e' : Entry} (h : e ∈ tab) (h' : e' ∈ tab) (hn : e.1 = e'.1) : e = e' := by
  have := List.all_eq_true.1 (List.all_eq_true.1 tab_names e h) e' h'
  simp only [Bool.or_eq_true, Bool.not_eq_true', decide_eq_false_iff_not, decide_eq_true_eq] at this
  rcases this with h | h
  · exact absurd hn h
  · exact h
theorem mem_tabC {e : Entry} : e ∈ tabC ↔ e ∈ tab :=
  ⟨fun h => of_decide_eq_true (List.all_eq_true.1 tabC_in e h), fun h => of_decide_eq_true (List.all_eq_true.1 tab_in e h)⟩
theorem isLet_not {b : Nat} (h : isLet b = true) : b ≠ 59 := by
  rintro rfl
  cases h

theorem hit_pos {r : List Nat} {e : Entry} (h : 0 < hit r e) : e.1 <+: r ∧ ((r[e.1.length]? = some 59 ∧ hit r e = e.1.length + 1) ∨ (r[e.1.length]? ≠ some 59 ∧ e.2.2 = true ∧ hit r e = e.1.length)) := by
  unfold hit at h ⊢
  by_cases hp : e.1.isPrefixOf r = true
  · rw [if_pos hp] at h ⊢
    refine ⟨List.isPrefixOf_iff_prefix.1 hp, ?_⟩
    by_cases h1 : r[e.1.length]? = some 59
    · rw [if_pos h1]; exact .inl ⟨h1, rfl⟩
    · rw [if_neg h1] at h ⊢
      by_cases h2 : e.2.2 = true
      · rw [if_pos h2]; exact .inr ⟨h1, h2, rfl⟩
      · rw [if_neg h2] at h; omega
  · rw [if_neg hp] at h; omega
theorem prefix_at {a r : List Nat} (h : a <+: r) {j : Nat} (hj : j < a.length) : r[j]? = a[j]? := by
  obtain ⟨t, rfl⟩ := h
  rw [List.getElem?_append_left hj]
theorem prefix_take {a r : List Nat} (h : a <+: r) : a = r.take a.length := List.prefix_iff_eq_take.1 h
theorem hit_one {r : List Nat} {e e' : Entry} (h : e ∈ tab) (h' : e' ∈ tab) (hp : 0 < hit r e) (he : hit r e = hit r e') : e = e' := by
  have key : ∀ {a b : Entry}, a ∈ tab → b ∈ tab → 0 < hit r a → hit r a = hit r b → ¬ a.1.length < b.1.length := by
    intro a b ha hb hpa hab hlt
    obtain ⟨p1, q1⟩ := hit_pos hpa
    obtain ⟨p2, q2⟩ := hit_pos (hab ▸ hpa)
    rcases q1 with ⟨c, q1⟩ | ⟨_, _, q1⟩
    · have hx : r[a.1.length]? = b.1[a.1.length]? := prefix_at p2 hlt
      have hm : b.1[a.1.length]'hlt ∈ b.1 := List.getElem_mem hlt
      have := isLet_not ((tab_fact hb).1 _ hm)
      rw [c, List.getElem?_eq_getElem hlt] at hx
      exact this (Option.some.inj hx).symm
    · rcases q2 with ⟨_, q2⟩ | ⟨_, _, q2⟩ <;> omega
  have h1 := key h h' hp he
  have h2 := key h' h (he ▸ hp) he.symm
  obtain ⟨p1, _⟩ := hit_pos hp
  obtain ⟨p2, _⟩ := hit_pos (he ▸ hp)
  refine tab_same h h' ?_
  rw [prefix_take p1, prefix_take p2, show e.1.length = e'.1.length by omega]

theorem best_spec (r : List Nat) : ∀ (l : List Entry) (b : Nat × Nat), b.1 ≤ (best r l b).1 ∧ (∀ e ∈ l, hit r e ≤ (best r l b).1) ∧ (best r l b = b ∨ ∃ e ∈ l, best r l b = (hit r e, e.2.1) ∧ 0 < hit r e)
  | [], b => ⟨Nat.le_refl _, fun _ h => by simp at h, .inl rfl⟩
  | x :: l, b => by
    have e0 : best r (x :: l) b = best r l (if b.1 < hit r x then (hit r x, x.2.1) else b) := rfl
    rw [e0]
    obtain ⟨i1, i2, i3⟩ := best_spec r l (if b.1 < hit r x then (hit r x, x.2.1) else b)
    by_cases hx : b.1 < hit r x
    · rw [if_pos hx] at i1 i2 i3 ⊢
      refine ⟨by simp only at i1; omega, fun e he => ?_, ?_⟩
      · rcases List.mem_cons.1 he with rfl | he
        · exact i1
        · exact i2 e he
      · rcases i3 with h | ⟨e, he, h⟩
        · exact .inr ⟨x, List.mem_cons_self .., h, by omega⟩
        · exact .inr ⟨e, List.mem_cons_of_mem _ he, h⟩
    · rw [if_neg hx] at i1 i2 i3 ⊢
      refine ⟨i1, fun e he => ?_, ?_⟩
      · rcases List.mem_cons.1 he with rfl | he
        · omega
        · exact i2 e he
      · rcases i3 with h | ⟨e, he, h⟩
        · exact .inl h
        · exact .inr ⟨e, List.mem_cons_of_mem _ he, h⟩
/-- The longest is the one that is as long as any. -/
theorem best_is {r : List Nat} {e : Entry} (he : e ∈ tab) (hp : 0 < hit r e) (hmax : ∀ e' ∈ tab, hit r e' ≤ hit r e) : best r tab (0, 0) = (hit r e, e.2.1) := by
  obtain ⟨_, h2, h3⟩ := best_spec r tab (0, 0)
  have h2 := h2 e he
  rcases h3 with h | ⟨e', he', h, hp'⟩
  · rw [h] at h2; simp only at h2; omega
  · have : hit r e' = hit r e := by
      have := hmax e' he'
      rw [h] at h2; simp only at h2; omega
    have := hit_one he' he hp' this
    subst this; exact h
theorem best_none {r : List Nat} (h : ∀ e ∈ tab, hit r e = 0) : best r tab (0, 0) = (0, 0) := by
  obtain ⟨_, _, h3⟩ := best_spec r tab (0, 0)
  rcases h3 with h3 | ⟨e, he, _, hp⟩
  · exact h3
  · have := h e he; omega

/-- The program's way: from k letters down. -/
def codeName (attr : Bool) (r : List Nat) : Nat → Ref
  | 0 => noRef
  | k + 1 =>
    match tabC.find? (fun e => decide (e.1 = r.take (k + 1))) with
    | none => codeName attr r k
    | some e =>
      if r[k + 1]? = some 59 then ⟨e.2.1, k + 3, true⟩
      else if e.2.2 = true then (if attr = true ∧ goesOn r[k + 1]? = true then noRef else ⟨e.2.1, k + 2, true⟩)
      else codeName attr r k
theorem codeName_nameL (attr : Bool) (r : List Nat) : ∀ (K : Nat), K ≤ r.length → (∀ e ∈ tab, 0 < hit r e → e.1.length ≤ K) → codeName attr r K = nameL attr r
  | 0, _, h => by
    have hn : best r tab (0, 0) = (0, 0) := best_none (fun e he => by
      by_cases hp : 0 < hit r e
      · have := h e he hp
        have := (tab_fact he).2.1
        omega
      · omega)
    unfold nameL
    rw [hn]; rfl
  | k + 1, hK, h => by
    unfold codeName
    cases hf : tabC.find? (fun e => decide (e.1 = r.take (k + 1))) with
    | none =>
      refine codeName_nameL attr r k (by omega) (fun e he hp => ?_)
      have h1 := h e he hp
      by_cases h2 : e.1.length = k + 1
      · exfalso
        have := List.find?_eq_none.1 hf e (mem_tabC.2 he)
        simp only [decide_eq_true_eq] at this
        apply this
        rw [← h2]
        exact prefix_take (hit_pos hp).1
      · omega
    | some e =>
      have hm : e ∈ tab := mem_tabC.1 (List.mem_of_find?_eq_some hf)
      have hn : e.1 = r.take (k + 1) := by simpa using List.find?_some hf
      have hl : e.1.length = k + 1 := by rw [hn, List.length_take]; omega
      have hpre : e.1.isPrefixOf r = true := List.isPrefixOf_iff_prefix.2 (List.prefix_iff_eq_take.2 (by rw [hl]; exact hn))
      have same : ∀ e' ∈ tab, 0 < hit r e' → e'.1.length = k + 1 → e' = e := fun e' he' hp' hl' => tab_same he' hm (by rw [prefix_take (hit_pos hp').1, hl', hn])
      have hk : r[k]? = e.1[k]? := prefix_at (List.isPrefixOf_iff_prefix.1 hpre) (by omega)
      have hk59 : r[k]? ≠ some 59 := by
        rw [hk, List.getElem?_eq_getElem (by omega)]
        intro e2
        exact isLet_not ((tab_fact hm).1 _ (List.getElem_mem (by omega))) (Option.some.inj e2)
      simp only
      by_cases h59 : r[k + 1]? = some 59
      · rw [if_pos h59]
        have hh : hit r e = k + 2 := by unfold hit; rw [if_pos hpre, hl, if_pos h59]
        have hb := best_is (r := r) hm (by omega) (fun e' he' => by
          by_cases hp' : 0 < hit r e'
          · have := h e' he' hp'
            rcases (hit_pos hp').2 with ⟨_, q⟩ | ⟨_, _, q⟩ <;> omega
          · omega)
        unfold nameL
        rw [hb, hh]
        simp only
        rw [if_neg (show ¬ k + 2 = 0 by omega), if_neg (by rintro ⟨_, q, _⟩; exact q h59)]
      · rw [if_neg h59]
        by_cases hbare : e.2.2 = true
        · rw [if_pos hbare]
          have hh : hit r e = k + 1 := by unfold hit; rw [if_pos hpre, hl, if_neg h59, if_pos hbare]
          have hb := best_is (r := r) hm (by omega) (fun e' he' => by
            by_cases hp' : 0 < hit r e'
            · have h1 := h e' he' hp'
              by_cases h2 : e'.1.length = k + 1
              · rw [same e' he' hp' h2]; exact Nat.le_refl _
              · rcases (hit_pos hp').2 with ⟨_, q⟩ | ⟨_, _, q⟩ <;> omega
            · omega)
          unfold nameL
          rw [hb, hh]
          simp only [Nat.add_sub_cancel]
          rw [if_neg (show ¬ k + 1 = 0 by omega)]
          by_cases hg : attr = true ∧ goesOn r[k + 1]? = true
          · rw [if_pos hg, if_pos ⟨hg.1, hk59, hg.2⟩]
          · rw [if_neg hg, if_neg (fun q => hg ⟨q.1, q.2.2⟩)]
        · rw [if_neg hbare]
          refine codeName_nameL attr r k (by omega) (fun e' he' hp' => ?_)
          have h1 := h e' he' hp'
          by_cases h2 : e'.1.length = k + 1
          · exfalso
            have := same e' he' hp' h2
            subst this
            rcases (hit_pos hp').2 with ⟨q, _⟩ | ⟨_, q, _⟩
            · rw [hl] at q; exact h59 q
            · exact hbare q
          · omega
/-- How many letters, no more than six. -/
def lettersN (r : List Nat) : Nat := ((r.take 6).takeWhile isLet).length
theorem lettersN_le (r : List Nat) : lettersN r ≤ r.length ∧ lettersN r ≤ 6 := by
  have h1 : ((r.take 6).takeWhile isLet).length ≤ (r.take 6).length := (List.takeWhile_sublist _).length_le
  rw [List.length_take] at h1
  unfold lettersN
  omega
theorem takeWhile_more {p : Nat → Bool} : ∀ {l : List Nat} {k : Nat}, k ≤ l.length → (∀ b ∈ l.take k, p b = true) → k ≤ (l.takeWhile p).length
  | _, 0, _, _ => Nat.zero_le _
  | [], k + 1, h, _ => by simp at h
  | x :: r, k + 1, h, hp => by
    have hx := hp x (by simp)
    rw [List.takeWhile_cons, if_pos hx]
    have := takeWhile_more (p := p) (l := r) (k := k) (by simpa using h) (fun b hb => hp b (by rw [List.take_succ_cons]; exact List.mem_cons_of_mem _ hb))
    simp only [List.length_cons]; omega
theorem letters_hits (r : List Nat) : ∀ e ∈ tab, 0 < hit r e → e.1.length ≤ lettersN r := by
  intro e he hp
  have hf := tab_fact he
  have hpre := (hit_pos hp).1
  have hl := hpre.length_le
  unfold lettersN
  refine takeWhile_more (by rw [List.length_take]; omega) (fun b hb => ?_)
  rw [List.take_take, Nat.min_eq_left hf.2.2, ← prefix_take hpre] at hb
  exact hf.1 b hb
theorem codeName_letters (attr : Bool) (r : List Nat) : codeName attr r (lettersN r) = nameL attr r := codeName_nameL attr r _ (lettersN_le r).1 (letters_hits r)
end Go.CharrefKit
namespace Go.Proofs.YtkfmfldkllkcbaaGreatDoor
open Go.RowKit Go.RunKit Go.CharrefKit Go.Lib

theorem letters_done {r : List Nat} {k : Nat} (hk : k ≤ r.length) (h6 : k ≤ 6) (hall : ∀ b ∈ r.take k, isLet b = true) (he : k = 6 ∨ ∀ b, r[k]? = some b → isLet b = false) : lettersN r = k := by
  unfold lettersN
  rw [takeWhile_take (k := k)]
  · rw [List.length_take, List.length_take]; omega
  · intro b hb
    rw [List.take_take, Nat.min_eq_left h6] at hb
    exact hall b hb
  · intro b hb
    rw [List.getElem?_take] at hb
    split at hb
    · rcases he with h | h
      · omega
      · exact h b hb
    · cases hb

set_option maxRecDepth 100000 in
set_option maxHeartbeats 1000000 in
theorem letters_any (s : ByteArray) (hsz : s.size ≤ 1099511627776) (w : World) :
    Calls Tryz.prog 206 #[.string s] w fun e w' => e = .returned (.int .i64 ((lettersN (natsOf s) : Nat) : Int)) ∧ w = w' := by
  have hl := natsOf_length s
  go_enter Tryz.func206, Tryz.ntmps206
  go_wp2
  go_loop [3] (fun i => ∃ k : Nat, i = .int .i64 (k : Nat) ∧ k ≤ s.size ∧ k ≤ 6 ∧ Hid (∀ b ∈ (natsOf s).take k, isLet b = true)) (fun i => 6 - (RowKit.intOf i).toNat)
  case atStart => exact ⟨0, rfl, by omega, by omega, Lib.hid (by simp)⟩
  case round =>
    obtain ⟨k, rfl, hk, h6, HA⟩ := hrel
    by_cases hlt : k < s.size
    · have hltI : (k : Int) < s.size := by omega
      have hat := natsOf_at s k hlt
      by_cases hk6 : k < 6
      · have hk6I : (k : Int) < 6 := by omega
        have HL := Lib.hid (isLetter_any (s[k]'hlt).toNat (UInt8.toNat_lt _) w)
        cases hv : isLet (s[k]'hlt).toNat with
        | true =>
          rw [hv] at HL
          have HX : Hid (∀ b ∈ (natsOf s).take (k + 1), isLet b = true) := Lib.hid (fun b hb => by
            rw [take_snoc hat, List.mem_append] at hb
            rcases hb with hb | hb
            · exact HA.out b hb
            · simp at hb; subst hb; exact hv)
          clear hat hv
          go_wp2_with (go_at_call 221; refine HL.out.mono ?_; rintro e w1 ⟨rfl, rfl⟩)
          exact ⟨⟨k + 1, by go_num, by omega, by omega, HX⟩, by simp [RowKit.intOf]; omega⟩
        | false =>
          rw [hv] at HL
          have HE := Lib.hid (letters_done (r := natsOf s) (by omega) h6 HA.out (.inr (fun b hb => by rw [hat] at hb; cases hb; exact hv)))
          clear hat hv
          go_wp2_with (go_at_call 221; refine HL.out.mono ?_; rintro e w1 ⟨rfl, rfl⟩)
          go_ret
          exact ⟨by rw [HE.out]; rfl, rfl⟩
      · have hk6I := eq_false (show ¬ (k : Int) < 6 by omega)
        have HE := Lib.hid (letters_done (r := natsOf s) (by omega) h6 HA.out (.inl (by omega)))
        clear hat
        go_wp2
        go_ret
        exact ⟨by rw [HE.out]; rfl, rfl⟩
    · have hltI := eq_false (show ¬ (k : Int) < s.size by omega)
      have HE := Lib.hid (letters_done (r := natsOf s) (by omega) h6 HA.out (.inr (fun b hb => by rw [List.getElem?_eq_none (by omega)] at hb; cases hb)))
      go_wp2
      go_ret
      exact ⟨by rw [HE.out]; rfl, rfl⟩

theorem isNum_digit (b : Nat) : isNum b = decide (digitV b < 10) := by
  have := digitV_cases b
  unfold isNum
  rw [decide_eq_decide]
  omega
set_option maxRecDepth 100000 in
set_option maxHeartbeats 1000000 in
theorem goesOn_any (s : ByteArray) (w : World) :
    Calls Tryz.prog 209 #[.string s] w fun e w' => e = .returned (.bool (goesOn (natsOf s)[0]?)) ∧ w = w' := by
  have hl := natsOf_length s
  by_cases h0 : s.size = 0
  · have he : s = ⟨#[]⟩ := ByteArray.ext (Array.eq_empty_of_size_eq_zero h0)
    subst he
    go_enter Tryz.func209, Tryz.ntmps209
    go_wp2
    go_ret
    exact ⟨rfl, rfl⟩
  · have hp : 0 < s.size := by omega
    have hpI : (0 : Int) < s.size := by omega
    have hne : (s.toList == []) = false := by
      rw [ByteArray.toList_eq, beq_eq_false_iff_ne]
      intro e
      have : s.data.toList.length = s.size := by simp
      rw [e] at this
      simp at this; omega
    have hat := natsOf_at s 0 hp
    have HL := Lib.hid (isLetter_any (s[0]'hp).toNat (UInt8.toNat_lt _) w)
    have HD := Lib.hid (digit_any (s[0]'hp).toNat (UInt8.toNat_lt _) w)
    have HV : Hid (goesOn (natsOf s)[0]? = (decide ((s[0]'hp).toNat = 61) || isLet (s[0]'hp).toNat || decide (digitV (s[0]'hp).toNat < 10))) := Lib.hid (by rw [hat]; unfold goesOn; simp only; rw [isNum_digit])
    clear hat hl
    by_cases h61 : (s[0]'hp).toNat = 61
    · have HV2 : Hid (goesOn (natsOf s)[0]? = true) := Lib.hid (by rw [HV.out, decide_eq_true h61]; rfl)
      have h61I : ((((s[0]'hp).toNat : Nat) : Int) == 61) = true := beq_iff_eq.2 (by rw [h61]; rfl)
      clear h61 HV
      go_enter Tryz.func209, Tryz.ntmps209
      go_wp2
      go_ret
      exact ⟨by rw [HV2.out]; rfl, rfl⟩
    · have h61I : ((((s[0]'hp).toNat : Nat) : Int) == 61) = false := beq_eq_false_iff_ne.2 (by omega)
      cases hv : isLet (s[0]'hp).toNat with
      | true =>
        rw [hv] at HL
        have HV2 : Hid (goesOn (natsOf s)[0]? = true) := Lib.hid (by rw [HV.out, hv]; simp)
        clear h61 HV hv
        go_enter Tryz.func209, Tryz.ntmps209
        go_wp2_with (go_at_call 221; refine HL.out.mono ?_; rintro e w1 ⟨rfl, rfl⟩)
        go_ret
        exact ⟨by rw [HV2.out]; rfl, rfl⟩
      | false =>
        rw [hv] at HL
        by_cases hd : digitV (s[0]'hp).toNat < 10
        · have HV2 : Hid (goesOn (natsOf s)[0]? = true) := Lib.hid (by rw [HV.out, decide_eq_true hd]; simp)
          have hdI : ((digitV (s[0]'hp).toNat : Nat) : Int) < 10 := by omega
          clear h61 HV hv hd
          go_enter Tryz.func209, Tryz.ntmps209
          go_wp2_with (first
            | (go_at_call 221; refine HL.out.mono ?_; rintro e w1 ⟨rfl, rfl⟩)
            | (go_at_call 203; refine HD.out.mono ?_; rintro e w1 ⟨rfl, rfl⟩))
          go_ret
          exact ⟨by rw [HV2.out]; rfl, rfl⟩
        · have HV2 : Hid (goesOn (natsOf s)[0]? = false) := Lib.hid (by rw [HV.out, decide_eq_false hd, decide_eq_false h61, hv]; rfl)
          have hdI := eq_false (show ¬ ((digitV (s[0]'hp).toNat : Nat) : Int) < 10 by omega)
          clear h61 HV hv hd
          go_enter Tryz.func209, Tryz.ntmps209
          go_wp2_with (first
            | (go_at_call 221; refine HL.out.mono ?_; rintro e w1 ⟨rfl, rfl⟩)
            | (go_at_call 203; refine HD.out.mono ?_; rintro e w1 ⟨rfl, rfl⟩))
          go_ret
          exact ⟨by rw [HV2.out]; rfl, rfl⟩
end Go.Proofs.YtkfmfldkllkcbaaGreatDoor
namespace Go.Proofs.YtkfmfldkllkcbaaGreatDoor
open Go.RowKit Go.RunKit Go.Shelf

/-- The first place at which p holds lies at c. -/
def FirstAt (p : Nat → Bool) (n c : Nat) : Prop := c ≤ n ∧ (∀ t, t < c → p t = false) ∧ (∀ t, c ≤ t → t < n → p t = true)

set_option maxHeartbeats 1000000 in
set_option maxRecDepth 100000 in
theorem search_any (g : Nat) (cb : Array Value) (n : Nat) (p : Nat → Bool) (w : World) (eg : ∀ args w, (callFunc g args).run Tryz.prog w = .ok (.enter g args) w) (hsz : n < 4611686018427387904)
    (hf : ∀ (m i : Nat), i < n → Calls Tryz.prog g (#[.int .i64 i] ++ cb) (w.drewN m) fun e w' => e = .returned (.bool (p i)) ∧ ∃ q, w' = (w.drewN m).drewN q)
    (hmono : ∀ a b, a ≤ b → b < n → p a = true → p b = true) :
    Calls Tryz.prog 207 #[.int .i64 n, .func (.func g) #[] cb] w fun e w' => (∃ c, e = .returned (.int .i64 (c : Nat)) ∧ FirstAt p n c) ∧ ∃ q, w' = w.drewN q := by
  have HF := Lib.hid hf; clear hf
  have M := Lib.hid hmono; clear hmono
  go_enter Tryz.func207, Tryz.ntmps207
  go_wp2
  go_loopg [5, 6] n (fun kx s5 s6 wr => ∃ (lo hi q : Nat), s5 = .int .i64 lo ∧ s6 = .int .i64 hi ∧ lo ≤ hi ∧ hi ≤ n ∧ hi - lo ≤ kx ∧ wr = w.drewN q ∧
    Hid ((∀ t, t < lo → p t = false) ∧ (∀ t, hi ≤ t → t < n → p t = true)))
  case atStart => exact ⟨0, n, 0, rfl, rfl, Nat.zero_le _, Nat.le_refl _, by omega, rfl, Lib.hid ⟨fun t ht => absurd ht (Nat.not_lt_zero _), fun t h1 h2 => by omega⟩⟩
  case round =>
    obtain ⟨lo, hi, q, rfl, rfl, hlh, hin, hg, rfl, I⟩ := hrel
    by_cases hlt : lo < hi
    · have hc := HF.out q ((lo + hi) / 2) (by omega)
      rw [show (((lo + hi) / 2 : Nat) : Int) = ((lo : Int) + (hi : Int)) / 2 by omega] at hc
      cases hp : p ((lo + hi) / 2) <;> rw [hp] at hc
      · have HP := Lib.hid hp
        clear hp
        go_wp2_with (go_at_fn g; refine hc.mono ?_; rintro e w' ⟨rfl, nq, rfl⟩)
        go_roundg (hi - ((lo + hi) / 2 + 1))
        case measure => omega
        case rel =>
          exact ⟨(lo + hi) / 2 + 1, hi, q + nq, by rw [show ((lo : Int) + (hi : Int)) / 2 + 1 = (((lo + hi) / 2 + 1 : Nat) : Int) by omega], rfl, by omega, hin, Nat.le_refl _, rfl, Lib.hid ⟨fun t ht => (by
            cases h : p t with
            | false => rfl
            | true => have := M.out t ((lo + hi) / 2) (by omega) (by omega) h; rw [HP.out] at this; cases this), I.out.2⟩⟩
      · have HP := Lib.hid hp
        clear hp
        go_wp2_with (go_at_fn g; refine hc.mono ?_; rintro e w' ⟨rfl, nq, rfl⟩)
        go_roundg ((lo + hi) / 2 - lo)
        case measure => omega
        case rel =>
          exact ⟨lo, (lo + hi) / 2, q + nq, rfl, by rw [show ((lo : Int) + (hi : Int)) / 2 = (((lo + hi) / 2 : Nat) : Int) by omega], by omega, by omega, Nat.le_refl _, rfl, Lib.hid ⟨I.out.1, fun t ht htn => M.out ((lo + hi) / 2) t ht htn HP.out⟩⟩
    · obtain rfl : hi = lo := by omega
      go_wp2
      go_ret
      exact ⟨⟨hi, rfl, hin, I.out.1, I.out.2⟩, q, rfl⟩
end Go.Proofs.YtkfmfldkllkcbaaGreatDoor
namespace Go.CharrefKit
open Go
/-- Names as texts. -/
def strOf (l : List Nat) : ByteArray := ⟨(l.map Nat.toUInt8).toArray⟩
def nameCells : List Entry → List Value
  | [] => []
  | (n, c, b) :: r => .string (strOf n) :: .int .i32 ((c : Nat) : Int) :: .bool b :: nameCells r
theorem nameCells_at : ∀ {l : List Entry} {k : Nat} {e : Entry}, l[k]? = some e → (nameCells l)[k * 3]? = some (.string (strOf e.1)) ∧ (nameCells l)[k * 3 + 1]? = some (.int .i32 ((e.2.1 : Nat) : Int)) ∧ (nameCells l)[k * 3 + 2]? = some (.bool e.2.2)
  | [], _, _, h => by simp at h
  | (n, c, b) :: r, 0, e, h => by
    simp only [List.getElem?_cons_zero, Option.some.injEq] at h; subst h; exact ⟨rfl, rfl, rfl⟩
  | (n, c, b) :: r, k + 1, e, h => by
    have := nameCells_at (l := r) (k := k) (e := e) (by simpa using h)
    rw [show (k + 1) * 3 = k * 3 + 1 + 1 + 1 from by omega]
    simpa [nameCells] using this
def oldNames : Nat → List Value
  | 0 => []
  | n + 1 => .string ⟨#[]⟩ :: .int .i32 0 :: .bool false :: oldNames n

/-- The order of texts is one. -/
theorem less_trans : ∀ {a b c : List UInt8}, Op.bytesLess a b = true → Op.bytesLess b c = true → Op.bytesLess a c = true
  | _, [], _, h, _ => by simp [Op.bytesLess] at h
  | _, _ :: _, [], _, h => by simp [Op.bytesLess] at h
  | [], _ :: _, _ :: _, _, _ => rfl
  | x :: a, y :: b, z :: c, h1, h2 => by
    simp only [Op.bytesLess, Bool.or_eq_true, decide_eq_true_eq, Bool.and_eq_true, beq_iff_eq] at h1 h2 ⊢
    rcases h1 with h1 | ⟨rfl, h1⟩
    · rcases h2 with h2 | ⟨rfl, h2⟩
      · exact .inl (UInt8.lt_trans h1 h2)
      · exact .inl h1
    · rcases h2 with h2 | ⟨rfl, h2⟩
      · exact .inl h2
      · exact .inr ⟨rfl, less_trans h1 h2⟩
theorem less_irrefl : ∀ (a : List UInt8), Op.bytesLess a a = false
  | [] => rfl
  | x :: a => by
    simp only [Op.bytesLess, Bool.or_eq_false_iff, decide_eq_false_iff_not, Bool.and_eq_false_iff]
    exact ⟨UInt8.lt_irrefl x, .inr (less_irrefl a)⟩
def bytesOf (l : List Nat) : List UInt8 := l.map Nat.toUInt8
theorem rising_table : ((List.range 58).all fun i => Op.bytesLess (bytesOf (tabC.getD i ([], 0, false)).1) (bytesOf (tabC.getD (i + 1) ([], 0, false)).1)) = true := by kernel_rfl
theorem small_table : (tabC.all fun e => e.1.all fun b => decide (b < 256)) = true := by kernel_rfl
theorem tabC_len : tabC.length = 59 := by kernel_rfl
theorem rising {i j : Nat} (hij : i < j) (hj : j < 59) : Op.bytesLess (bytesOf (tabC.getD i ([], 0, false)).1) (bytesOf (tabC.getD j ([], 0, false)).1) = true := by
  induction j with
  | zero => omega
  | succ j ih =>
    have hs := List.all_eq_true.1 rising_table j (List.mem_range.2 (by omega))
    by_cases e : i = j
    · subst e; exact hs
    · exact less_trans (ih (by omega) (by omega)) hs
/-- What the search asks. -/
def atLeast (word : List UInt8) (i : Nat) : Bool := !Op.bytesLess (bytesOf (tabC.getD i ([], 0, false)).1) word
theorem atLeast_mono (word : List UInt8) (a b : Nat) (hab : a ≤ b) (hb : b < 59) (h : atLeast word a = true) : atLeast word b = true := by
  by_cases e : a = b
  · subst e; exact h
  · unfold atLeast at h ⊢
    rw [Bool.not_eq_true'] at h ⊢
    cases hl : Op.bytesLess (bytesOf (tabC.getD b ([], 0, false)).1) word with
    | false => rfl
    | true => rw [less_trans (rising (by omega) hb) hl] at h; cases h
theorem nats_bytesOf {l : List Nat} (h : ∀ b ∈ l, b < 256) : nats (bytesOf l) = l := by
  induction l with
  | nil => rfl
  | cons x r ih =>
    have h1 := h x (List.mem_cons_self ..)
    show (x.toUInt8).toNat :: nats (bytesOf r) = x :: r
    rw [ih (fun b hb => h b (List.mem_cons_of_mem _ hb))]
    congr 1
    simp; omega
theorem tabC_small {e : Entry} (h : e ∈ tabC) : ∀ b ∈ e.1, b < 256 := by
  have := List.all_eq_true.1 small_table e h
  simpa using this
end Go.CharrefKit
namespace Go.Proofs.YtkfmfldkllkcbaaGreatDoor
open Go.RowKit Go.RunKit Go.CharrefKit Go.Lib

theorem natsOf_strOf {l : List Nat} (h : ∀ b ∈ l, b < 256) : natsOf (strOf l) = l := nats_bytesOf h

theorem names_lit (w : World) : litOf Tryz.prog 205 w = some (197, .pointer (some ⟨w.heap.size, 0, none⟩), .agg (nameCells tabC).toArray, w.alloc (.cells (oldNames 59).toArray 197)) := by kernel_rfl
theorem under59 : Tryz.prog.underlying 197 = some (.array 59 196) := by kernel_rfl
theorem size59 : (Tryz.prog.info? 197).map (·.size) = some 177 := by kernel_rfl
theorem names_size : (nameCells tabC).toArray.size = 177 := by kernel_rfl
theorem names_one : (nameCells tabC).toArray.all (·.oneCell') = true := by kernel_rfl
theorem info59 : (Tryz.prog.info? 197).map (fun i => (i.zero, i.size)) = some (some (.agg (oldNames 59).toArray), 177) := by kernel_rfl
set_option maxRecDepth 10000 in
theorem names_any (w : World) : Calls Tryz.prog 205 #[] w fun e w' => e = .returned (.agg (nameCells tabC).toArray) ∧ w' = w.alloc (.cells (nameCells tabC).toArray 197) :=
  calls_of_lit (names_lit w) under59 rfl (by rw [names_size]; exact size59) (by kernel_rfl) names_one

/-- A world that holds the names, and a word. -/
structure Laid (gl gw : Nat) (word : ByteArray) (w : World) : Prop where
  names : ∀ k e, tabC[k]? = some e → w.cell? ⟨gl, k * 3, none⟩ = some (.string (strOf e.1))
  word : w.cell? ⟨gw, 0, none⟩ = some (.string word)

set_option maxRecDepth 100000 in
set_option maxHeartbeats 1000000 in
theorem asks_any (gl gw : Nat) (word : ByteArray) (w : World) (h : Laid gl gw word w) (m i : Nat) (hi : i < 59) :
    Calls Tryz.prog 208 (#[.int .i64 i] ++ #[.pointer (some ⟨gl, 0, none⟩), .pointer (some ⟨gw, 0, none⟩)]) (w.drewN m) fun e w' => e = .returned (.bool (atLeast word.data.toList i)) ∧ ∃ q, w' = (w.drewN m).drewN q := by
  obtain ⟨e, he⟩ := some_at tabC_len hi
  have c1 := h.names i e he
  have c2 := h.word
  have hV : Hid (atLeast word.data.toList i = !Op.bytesLess (strOf e.1).toList word.toList) := Lib.hid (by
    unfold atLeast
    rw [ByteArray.toList_eq, ByteArray.toList_eq, List.getD_eq_getElem?_getD, he]
    rfl)
  have hiI : (i : Int) < 59 := by omega
  clear he h
  go_enter Tryz.func208, Tryz.ntmps208
  go_wp2
  go_quiet (fail)
  go_wp2
  go_ret
  exact ⟨by rw [hV.out]; rfl, _, rfl⟩

/-- The search for a word: it stands where it stands; or nowhere. -/
theorem search_word (word : List UInt8) (c : Nat) (h : FirstAt (atLeast word) 59 c) :
    (∃ e, tabC[c]? = some e ∧ bytesOf e.1 = word) ∨ ((c = 59 ∨ ∃ e, tabC[c]? = some e ∧ bytesOf e.1 ≠ word) ∧ ∀ e ∈ tabC, bytesOf e.1 ≠ word) := by
  have key : ∀ e ∈ tabC, bytesOf e.1 = word → tabC[c]? = some e := by
    intro e he hw
    obtain ⟨j, hj, hje⟩ := List.getElem_of_mem he
    have hj59 : j < 59 := by have := tabC_len; omega
    have hd : (tabC.getD j ([], 0, false)).1 = e.1 := by rw [List.getD_eq_getElem?_getD, List.getElem?_eq_getElem hj, hje]; rfl
    have h1 : atLeast word j = true := by unfold atLeast; rw [hd, hw, less_irrefl]; rfl
    have h2 : c ≤ j := by
      rcases Nat.lt_or_ge j c with hlt | hge
      · have := h.2.1 j hlt; rw [this] at h1; cases h1
      · exact hge
    have h3 : ¬ c < j := by
      intro hlt
      have h4 := h.2.2 c (Nat.le_refl _) (by omega)
      unfold atLeast at h4
      have h5 := rising hlt hj59
      rw [hd, hw] at h5
      rw [h5] at h4; cases h4
    obtain rfl : c = j := by omega
    rw [List.getElem?_eq_getElem hj, hje]
  by_cases hx : ∃ e ∈ tabC, bytesOf e.1 = word
  · obtain ⟨e, he, hw⟩ := hx
    exact .inl ⟨e, key e he hw, hw⟩
  · refine .inr ⟨?_, fun e he hw => hx ⟨e, he, hw⟩⟩
    by_cases hc : c = 59
    · exact .inl hc
    · obtain ⟨e, he⟩ := some_at tabC_len (show c < 59 by have := h.1; omega)
      exact .inr ⟨e, he, fun hw => hx ⟨e, List.mem_of_getElem? he, hw⟩⟩
end Go.Proofs.YtkfmfldkllkcbaaGreatDoor
namespace Go.Proofs.YtkfmfldkllkcbaaGreatDoor
open Go.RowKit Go.RunKit Go.CharrefKit Go.Lib

/-- The names in a block. -/
def NamesIn (gl : Nat) (w : World) : Prop := gl < w.heap.size ∧ ∀ k e, tabC[k]? = some e → w.cell? ⟨gl, k * 3, none⟩ = some (.string (strOf e.1)) ∧ w.cell? ⟨gl, k * 3 + 1, none⟩ = some (.int .i32 ((e.2.1 : Nat) : Int)) ∧ w.cell? ⟨gl, k * 3 + 2, none⟩ = some (.bool e.2.2)
theorem NamesIn.on {gl : Nat} {w w' : World} (h : NamesIn gl w) (hb : Below w.heap.size w w') : NamesIn gl w' := ⟨Nat.lt_of_lt_of_le h.1 hb.size, fun k e he => by
  obtain ⟨a, b, c⟩ := h.2 k e he
  exact ⟨by rw [hb.cell h.1]; exact a, by rw [hb.cell h.1]; exact b, by rw [hb.cell h.1]; exact c⟩⟩
theorem names_laid (w : World) : NamesIn w.heap.size (w.alloc (.cells (nameCells tabC).toArray 197)) := ⟨by simp, fun k e he => by
  have := nameCells_at he
  rw [World.cell?_alloc_at _ _ _ _ rfl, World.cell?_alloc_at _ _ _ _ rfl, World.cell?_alloc_at _ _ _ _ rfl]
  exact ⟨by simp [this.1], by simp [this.2.1], by simp [this.2.2]⟩⟩

theorem code_none {attr : Bool} {r : List Nat} {k : Nat} (h : ∀ e ∈ tabC, e.1 ≠ r.take (k + 1)) : codeName attr r (k + 1) = codeName attr r k := by
  have : tabC.find? (fun e => decide (e.1 = r.take (k + 1))) = none := List.find?_eq_none.2 (fun e he => by simpa using h e he)
  simp only [codeName, this]
theorem code_some {attr : Bool} {r : List Nat} {k : Nat} {e : Entry} (he : e ∈ tabC) (hn : e.1 = r.take (k + 1)) :
    codeName attr r (k + 1) = if r[k + 1]? = some 59 then ⟨e.2.1, k + 3, true⟩ else if e.2.2 = true then (if attr = true ∧ goesOn r[k + 1]? = true then noRef else ⟨e.2.1, k + 2, true⟩) else codeName attr r k := by
  have : tabC.find? (fun e => decide (e.1 = r.take (k + 1))) = some e := by
    cases hf : tabC.find? (fun e => decide (e.1 = r.take (k + 1))) with
    | none =>
      have := List.find?_eq_none.1 hf e he
      simp only [decide_eq_true_eq] at this
      exact absurd hn this
    | some e' =>
      have h1 : e'.1 = r.take (k + 1) := by simpa using List.find?_some hf
      rw [tab_same (mem_tabC.1 (List.mem_of_find?_eq_some hf)) (mem_tabC.1 he) (by rw [h1, hn])]
  simp only [codeName, this]
theorem word_is {word : ByteArray} {e : Entry} (he : e ∈ tabC) : bytesOf e.1 = word.data.toList ↔ e.1 = natsOf word := by
  constructor
  · intro h
    have := nats_bytesOf (tabC_small he)
    rw [h] at this
    exact this.symm
  · intro h
    apply nats_inj
    rw [nats_bytesOf (tabC_small he), h]; rfl

set_option maxRecDepth 100000 in
set_option maxHeartbeats 4000000 in
theorem byName_any (attr : Bool) (s : ByteArray) (r : List Nat) (hs : natsOf s = 38 :: r) (hsz : s.size ≤ 1099511627776) (w : World) :
    Calls Tryz.prog 188 #[.string s, .bool attr] w fun e w' => e = .returned (refV (nameL attr r)) ∧ Below w.heap.size w w' := by
  have hsl := natsOf_length s
  rw [hs] at hsl
  simp only [List.length_cons] at hsl
  have HS := Lib.hid hs
  have h1s : natsOf (s.extract 1 s.size) = r := by rw [natsOf_drop, hs]; rfl
  have HL := Lib.hid (fun w => letters_any (s.extract 1 s.size) (by simp; omega) w)
  rw [h1s] at HL
  have HF := Lib.hid (codeName_letters attr r)
  have hln := (lettersN_le r).1
  have HR := Lib.hid (fun w => names_any w)
  have HNI := Lib.hid (fun w => names_laid w)
  have HO := Lib.hid names_one
  have HZ : Hid ((Tryz.prog.info? 197).map (·.size) = some (nameCells tabC).toArray.size ∧ (oldNames 59).toArray.size = (nameCells tabC).toArray.size) := Lib.hid ⟨by rw [names_size]; exact size59, by kernel_rfl⟩
  generalize (nameCells tabC).toArray = cs at *
  have hszI : (1 : Int) ≤ s.size := by omega
  clear hs h1s
  go_enter Tryz.func188, Tryz.ntmps188
  go_upto_region 1 with (fail)
  rename_i Q' K hK
  refine wp_region_list ?_
  refine wpList_calls rfl (by kernel_rfl) (HR.out w) ?_
  rintro e w1 ⟨rfl, rfl⟩
  refine ⟨_, rfl, ?_⟩
  have hb1 : Below w.heap.size w (w.alloc (.cells cs 197)) := (Below.refl _ _).alloc (Nat.le_refl _) _
  generalize w.alloc (.cells cs 197) = W1 at *
  refine wpList_alloc_row rfl rfl info59 ?_
  refine wpList_store_row rfl _ _ _ rfl W1.heap.size cs (by rfl) (by rfl) 197 _ (heap_alloc_last W1 _) HZ.out.1 HZ.out.2 HO.out ?_
  rw [World.setRow_alloc_new]
  refine wpList_nil ?_
  refine hK _ _ ?_
  go_frame
  have hb2 : Below w.heap.size w (W1.alloc (.cells cs 197)) := hb1.alloc hb1.size _
  have HN := Lib.hid (HNI.out W1)
  generalize W1.alloc (.cells cs 197) = W2 at *
  generalize W1.heap.size = gl at *
  clear HR HO HZ HNI hb1
  go_wp2_with (go_at_call 206; refine (HL.out _).mono ?_; rintro e w2 ⟨rfl, rfl⟩)
  go_loopw [8] (fun i wr => ∃ k : Nat, i = .int .i64 ((k : Int) + 1) ∧ k ≤ r.length ∧ Hid (nameL attr r = codeName attr r k) ∧ Below w.heap.size w wr ∧ Hid (NamesIn gl wr)) (fun i _ => (RowKit.intOf i).toNat)
  case atStart => exact ⟨lettersN r, by go_num, hln, Lib.hid HF.out.symm, hb2, HN⟩
  case round =>
    clear hb2 HN HF
    obtain ⟨k, rfl, hk, HF, hb, HN⟩ := hrel
    cases k with
    | zero =>
      have HV : Hid (refV (nameL attr r) = .tuple #[.int .i32 0, .int .i64 0, .bool false]) := Lib.hid (by rw [HF.out]; rfl)
      go_wp2
      go_ret3
      exact ⟨by rw [HV.out]; rfl, hb⟩
    | succ k =>
      have hkI : (1 : Int) < (k : Int) + 1 + 1 := by omega
      have hkI2 : (k : Int) + 1 + 1 ≤ s.size := by omega
      have HW : Hid (natsOf (s.extract 1 (k + 1 + 1)) = r.take (k + 1)) := Lib.hid (by rw [natsOf_extract, HS.out]; simp)
      have hsem := semi_at s (k + 1 + 1)
      have hrest : (natsOf s)[k + 1 + 1]? = r[k + 1]? := by rw [HS.out]; rfl
      have hrest0 : (natsOf (s.extract (k + 1 + 1) s.size))[0]? = r[k + 1]? := by rw [natsOf_drop, List.getElem?_drop, Nat.add_zero, hrest]
      rw [hrest] at hsem
      have HPre := Lib.hid (fun w => hasPrefix_any (s.extract (k + 1 + 1) s.size) ⟨#[59]⟩ w)
      rw [hsem] at HPre
      have HGo := Lib.hid (fun w => goesOn_any (s.extract (k + 1 + 1) s.size) w)
      rw [hrest0] at HGo
      clear hsem hrest hrest0 HL HS
      go_wp2
      go_region
      generalize s.extract 1 (k + 1 + 1) = word at *
      generalize s.extract (k + 1 + 1) s.size = rest at *
      have hb5 : Below w.heap.size w (wr.alloc (.cells #[.string word] 9)).drew := (hb.alloc hb.size _).drew
      have hn5 : NamesIn gl (wr.alloc (.cells #[.string word] 9)).drew := HN.out.on (((Below.refl _ _).alloc (Nat.le_refl _) _).drew)
      have hw5 : (wr.alloc (.cells #[.string word] 9)).drew.cell? ⟨wr.heap.size, 0, none⟩ = some (.string word) := by simp [go_sem]
      generalize (wr.alloc (.cells #[.string word] 9)).drew = w5 at *
      generalize wr.heap.size = gw at *
      have HSr := Lib.hid (search_any 208 #[.pointer (some ⟨gl, 0, none⟩), .pointer (some ⟨gw, 0, none⟩)] 59 (atLeast word.data.toList) w5 (enters_of Tryz.func208 (by kernel_rfl) rfl) (by omega) (fun m i hi => asks_any gl gw word w5 ⟨fun k e he => (hn5.2 k e he).1, hw5⟩ m i hi) (atLeast_mono _))
      have HN5 := Lib.hid hn5
      have HB5 := Lib.hid hb5
      have HW5 := Lib.hid hw5
      clear hb5 hn5 hw5 hb HN
      go_wp2_with (go_at_call 207; refine HSr.out.mono ?_; rintro e w6 ⟨⟨c, rfl, hfirst⟩, q, rfl⟩; clear HSr)
      have cw := HW5.out
      rcases search_word _ _ hfirst with ⟨e, hce, hwe⟩ | ⟨hc, hno⟩
      · have hcl : c < 59 := by
          have := (List.getElem?_eq_some_iff.1 hce).1
          have := tabC_len
          omega
        have hem := List.mem_of_getElem? hce
        have hn : e.1 = r.take (k + 1) := by rw [(word_is hem).1 hwe, HW.out]
        have hse : strOf e.1 = word := by
          apply ByteArray.ext
          apply Array.ext'
          exact hwe
        obtain ⟨c0, c1, c2⟩ := HN5.out.2 c e hce
        rw [hse] at c0
        have hcode := code_some (attr := attr) (k := k) hem hn
        have hcI : (c : Int) < 59 := by omega
        have hcne : ¬ (c : Int) = 59 := by omega
        have hcb : ((c : Int) == 59) = false := beq_eq_false_iff_ne.2 hcne
        clear hce hwe hfirst hn hse hem HW
        generalize e.2.1 = ch at *
        by_cases h59 : r[k + 1]? = some 59
        · rw [if_pos h59] at hcode
          rw [decide_eq_true h59] at HPre
          clear h59
          have HV : Hid (refV (nameL attr r) = .tuple #[.int .i32 ((ch : Nat) : Int), .int .i64 ((k : Int) + 1 + 1 + 1), .bool true]) := Lib.hid (by
            rw [HF.out, hcode]
            show Value.tuple #[.int .i32 ((ch : Nat) : Int), .int .i64 ((k + 3 : Nat) : Int), .bool true] = _
            have e9 : ((k + 3 : Nat) : Int) = (k : Int) + 1 + 1 + 1 := by omega
            rw [e9])
          clear hcode HF
          go_quiet (fail)
          go_wp2_with (first
            | (go_at_call 114; refine (HPre.out _).mono ?_; rintro e w7 ⟨rfl, rfl⟩)
            | (go_at_call 209; refine (HGo.out _).mono ?_; rintro e w8 ⟨rfl, rfl⟩))
          go_ret3
          exact ⟨by rw [HV.out]; rfl, below_drewN HB5.out _⟩
        · rw [if_neg h59] at hcode
          rw [decide_eq_false h59] at HPre
          clear h59
          cases hbare : e.2.2 with
          | true =>
            rw [hbare] at hcode c2
            rw [if_pos rfl] at hcode
            clear hbare
            cases attr with
            | true =>
              cases hg : goesOn r[k + 1]? with
              | true =>
                rw [hg] at hcode HGo
                rw [if_pos ⟨rfl, rfl⟩] at hcode
                clear hg
                have HV : Hid (refV (nameL true r) = .tuple #[.int .i32 0, .int .i64 0, .bool false]) := Lib.hid (by
                  rw [HF.out, hcode]
                  rfl)
                clear hcode HF
                go_quiet (fail)
                go_wp2_with (first
            | (go_at_call 114; refine (HPre.out _).mono ?_; rintro e w7 ⟨rfl, rfl⟩)
            | (go_at_call 209; refine (HGo.out _).mono ?_; rintro e w8 ⟨rfl, rfl⟩))
                go_ret3
                exact ⟨by rw [HV.out]; rfl, below_drewN HB5.out _⟩
              | false =>
                rw [hg] at hcode HGo
                rw [if_neg (by rintro ⟨_, q⟩; cases q)] at hcode
                clear hg
                have HV : Hid (refV (nameL true r) = .tuple #[.int .i32 ((ch : Nat) : Int), .int .i64 ((k : Int) + 1 + 1), .bool true]) := Lib.hid (by
                  rw [HF.out, hcode]
                  show Value.tuple #[.int .i32 ((ch : Nat) : Int), .int .i64 ((k + 2 : Nat) : Int), .bool true] = _
                  have e9 : ((k + 2 : Nat) : Int) = (k : Int) + 1 + 1 := by omega
                  rw [e9])
                clear hcode HF
                go_quiet (fail)
                go_wp2_with (first
            | (go_at_call 114; refine (HPre.out _).mono ?_; rintro e w7 ⟨rfl, rfl⟩)
            | (go_at_call 209; refine (HGo.out _).mono ?_; rintro e w8 ⟨rfl, rfl⟩))
                go_ret3
                exact ⟨by rw [HV.out]; rfl, below_drewN HB5.out _⟩
            | false =>
              rw [if_neg (by rintro ⟨q, _⟩; cases q)] at hcode
              have HV : Hid (refV (nameL false r) = .tuple #[.int .i32 ((ch : Nat) : Int), .int .i64 ((k : Int) + 1 + 1), .bool true]) := Lib.hid (by
                rw [HF.out, hcode]
                show Value.tuple #[.int .i32 ((ch : Nat) : Int), .int .i64 ((k + 2 : Nat) : Int), .bool true] = _
                have e9 : ((k + 2 : Nat) : Int) = (k : Int) + 1 + 1 := by omega
                rw [e9])
              clear hcode HF
              go_quiet (fail)
              go_wp2_with (first
            | (go_at_call 114; refine (HPre.out _).mono ?_; rintro e w7 ⟨rfl, rfl⟩)
            | (go_at_call 209; refine (HGo.out _).mono ?_; rintro e w8 ⟨rfl, rfl⟩))
              go_ret3
              exact ⟨by rw [HV.out]; rfl, below_drewN HB5.out _⟩
          | false =>
            rw [hbare] at hcode c2
            rw [if_neg (by decide)] at hcode
            clear hbare
            have HX : Hid (nameL attr r = codeName attr r k) := Lib.hid (by rw [HF.out, hcode])
            clear hcode HF
            go_quiet (fail)
            go_wp2_with (first
            | (go_at_call 114; refine (HPre.out _).mono ?_; rintro e w7 ⟨rfl, rfl⟩)
            | (go_at_call 209; refine (HGo.out _).mono ?_; rintro e w8 ⟨rfl, rfl⟩))
            exact ⟨⟨k, by go_num, by omega, HX, below_drewN HB5.out _, Lib.hid (HN5.out.on (below_drewN (Below.refl _ _) _))⟩, by simp [RowKit.intOf]; omega⟩
      · have hcode : codeName attr r (k + 1) = codeName attr r k := code_none (fun e he hn => hno e he ((word_is he).2 (by rw [hn, HW.out])))
        clear hno HW
        rcases hc with rfl | ⟨e, hce, hwe⟩
        · clear hfirst
          have HX : Hid (nameL attr r = codeName attr r k) := Lib.hid (by rw [HF.out, hcode])
          clear hcode HF
          go_quiet (fail)
          go_wp2_with (first
            | (go_at_call 114; refine (HPre.out _).mono ?_; rintro e w7 ⟨rfl, rfl⟩)
            | (go_at_call 209; refine (HGo.out _).mono ?_; rintro e w8 ⟨rfl, rfl⟩))
          exact ⟨⟨k, by go_num, by omega, HX, below_drewN HB5.out _, Lib.hid (HN5.out.on (below_drewN (Below.refl _ _) _))⟩, by simp [RowKit.intOf]; omega⟩
        · have hcl : c < 59 := by
            have := (List.getElem?_eq_some_iff.1 hce).1
            have := tabC_len
            omega
          obtain ⟨c0, c1, c2⟩ := HN5.out.2 c e hce
          have hcI : (c : Int) < 59 := by omega
          have hcne : ¬ (c : Int) = 59 := by omega
          have hcb : ((c : Int) == 59) = false := beq_eq_false_iff_ne.2 hcne
          have hneq : ((strOf e.1).toList == word.toList) = false := by
            rw [ByteArray.toList_eq, ByteArray.toList_eq, beq_eq_false_iff_ne]
            exact hwe
          clear hce hwe hfirst
          generalize strOf e.1 = other at *
          have HX : Hid (nameL attr r = codeName attr r k) := Lib.hid (by rw [HF.out, hcode])
          clear hcode HF
          go_quiet (fail)
          go_wp2_with (first
            | (go_at_call 114; refine (HPre.out _).mono ?_; rintro e w7 ⟨rfl, rfl⟩)
            | (go_at_call 209; refine (HGo.out _).mono ?_; rintro e w8 ⟨rfl, rfl⟩))
          exact ⟨⟨k, by go_num, by omega, HX, below_drewN HB5.out _, Lib.hid (HN5.out.on (below_drewN (Below.refl _ _) _))⟩, by simp [RowKit.intOf]; omega⟩
end Go.Proofs.YtkfmfldkllkcbaaGreatDoor
namespace Go.Proofs.YtkfmfldkllkcbaaGreatDoor
open Go.RowKit Go.RunKit Go.CharrefKit Go.Lib

theorem isHex_cases (r : List Nat) : (r = [] ∧ isHex r = false) ∨ (isHex r = true ∧ r.head? = some 120) ∨ (isHex r = true ∧ r.head? = some 88) ∨ ∃ q l, r = q :: l ∧ isHex r = false ∧ q ≠ 120 ∧ q ≠ 88 := by
  cases r with
  | nil => exact .inl ⟨rfl, rfl⟩
  | cons q l =>
    by_cases h1 : q = 120
    · subst h1; exact .inr (.inl ⟨rfl, rfl⟩)
    · by_cases h2 : q = 88
      · subst h2; exact .inr (.inr (.inl ⟨rfl, rfl⟩))
      · refine .inr (.inr (.inr ⟨q, l, rfl, ?_, h1, h2⟩))
        unfold isHex
        split
        · rename_i e; simp only [List.cons.injEq] at e; exact absurd e.1 h1
        · rename_i e; simp only [List.cons.injEq] at e; exact absurd e.1 h2
        · rfl
theorem byNumber_any (attr : Bool) (s : ByteArray) (r : List Nat) (hs : natsOf s = 38 :: 35 :: r) (hsz : s.size ≤ 1099511627776) (w : World) :
    Calls Tryz.prog 187 #[.string s] w fun e w' => e = .returned (refV (findL attr (natsOf s))) ∧ Below w.heap.size w w' := by
  rcases isHex_cases r with ⟨h, hx⟩ | ⟨hx, h⟩ | ⟨hx, h⟩ | ⟨q, l, h, hx, h1, h2⟩
  · exact byNumber_empty attr s r hs hsz w h hx
  · exact byNumber_hex attr s r hs hsz w hx h
  · exact byNumber_heX attr s r hs hsz w hx h
  · exact byNumber_dec attr s r hs hsz w q l h hx h1 h2

theorem pre_amp (s : ByteArray) : hasPre s ⟨#[38]⟩ = [38].isPrefixOf (natsOf s) := rfl
theorem pre_num (s : ByteArray) : hasPre s ⟨#[38, 35]⟩ = [38, 35].isPrefixOf (natsOf s) := rfl

set_option maxRecDepth 100000 in
set_option maxHeartbeats 1000000 in
theorem find_any (attr : Bool) (s : ByteArray) (hsz : s.size ≤ 1099511627776) (w : World) :
    Calls Tryz.prog 163 #[.string s, .bool attr] w fun e w' => e = .returned (refV (findL attr (natsOf s))) ∧ Below w.heap.size w w' := by
  have H1 := Lib.hid (fun w => hasPrefix_any s ⟨#[38, 35]⟩ w)
  have H2 := Lib.hid (fun w => hasPrefix_any s ⟨#[38]⟩ w)
  rw [pre_num] at H1
  rw [pre_amp] at H2
  rcases find_cases attr (natsOf s) with ⟨r, hs⟩ | ⟨r, hs, hr⟩ | ⟨hn, hf⟩
  · have HN := byNumber_any attr s r hs hsz w
    have e1 : [38, 35].isPrefixOf (natsOf s) = true := by rw [hs]; rfl
    rw [e1] at H1
    obtain ⟨x, hx⟩ : ∃ x, Hid (findL attr (natsOf s) = x) := ⟨_, Lib.hid rfl⟩
    rw [hx.out] at HN
    have HN := Lib.hid HN
    have HV : Hid (refV (findL attr (natsOf s)) = .tuple #[.int .i32 ((x.char : Nat) : Int), .int .i64 ((x.len : Nat) : Int), .bool x.ok]) := Lib.hid (by rw [hx.out]; rfl)
    unfold refV at HN
    clear hs e1 H2
    go_enter Tryz.func163, Tryz.ntmps163
    go_wp2_with (first
      | (go_at_call 114; refine (H1.out _).mono ?_; rintro e w1 ⟨rfl, rfl⟩)
      | (go_at_call 187; refine HN.out.mono ?_; rintro e w2 ⟨rfl, hb⟩))
    go_ret3
    exact ⟨by rw [HV.out]; rfl, hb⟩
  · have HN := byName_any attr s r hs hsz w
    have e1 : [38, 35].isPrefixOf (natsOf s) = false := by
      rw [hs]
      cases r with
      | nil => rfl
      | cons c t =>
        have hc : c ≠ 35 := fun e => hr t (by rw [e])
        show ((38 == 38) && ((35 == c) && List.isPrefixOf [] t)) = false
        rw [beq_eq_false_iff_ne.2 (fun e : 35 = c => hc e.symm)]; rfl
    have e2 : [38].isPrefixOf (natsOf s) = true := by rw [hs]; rfl
    rw [e1] at H1
    rw [e2] at H2
    have hfn : findL attr (natsOf s) = nameL attr r := by rw [hs]; exact findL_name hr
    obtain ⟨x, hx⟩ : ∃ x, Hid (nameL attr r = x) := ⟨_, Lib.hid rfl⟩
    rw [hx.out] at HN
    have HN := Lib.hid HN
    have HV : Hid (refV (findL attr (natsOf s)) = .tuple #[.int .i32 ((x.char : Nat) : Int), .int .i64 ((x.len : Nat) : Int), .bool x.ok]) := Lib.hid (by rw [hfn, hx.out]; rfl)
    unfold refV at HN
    clear hs e1 e2 hr hfn
    go_enter Tryz.func163, Tryz.ntmps163
    go_wp2_with (first
      | (go_at_call 114; refine (H1.out _).mono ?_; rintro e w1 ⟨rfl, rfl⟩; clear H1)
      | (go_at_call 114; refine (H2.out _).mono ?_; rintro e w1 ⟨rfl, rfl⟩)
      | (go_at_call 188; refine HN.out.mono ?_; rintro e w2 ⟨rfl, hb⟩))
    go_ret3
    exact ⟨by rw [HV.out]; rfl, hb⟩
  · have e0 : ∀ t : List Nat, (38 :: t).isPrefixOf (natsOf s) = false := by
      intro t
      cases hl : natsOf s with
      | nil => rfl
      | cons b u =>
        have hb : b ≠ 38 := fun e => hn u (by rw [hl, e])
        show ((38 == b) && List.isPrefixOf t u) = false
        rw [beq_eq_false_iff_ne.2 (fun e : 38 = b => hb e.symm)]; rfl
    rw [e0] at H1 H2
    have HV : Hid (refV (findL attr (natsOf s)) = .tuple #[.int .i32 0, .int .i64 0, .bool false]) := Lib.hid (by rw [hf]; rfl)
    clear hf hn e0
    go_enter Tryz.func163, Tryz.ntmps163
    go_wp2_with (first
      | (go_at_call 114; refine (H1.out _).mono ?_; rintro e w1 ⟨rfl, rfl⟩; clear H1)
      | (go_at_call 114; refine (H2.out _).mono ?_; rintro e w1 ⟨rfl, rfl⟩))
    go_ret3
    exact ⟨by rw [HV.out]; rfl, Below.refl _ _⟩
end Go.Proofs.YtkfmfldkllkcbaaGreatDoor
namespace Go.Proofs.YtkfmfldkllkcbaaGreatDoor
open Go.RowKit Go.RunKit Go.Lib Go.Shelf

theorem underByte : Tryz.prog.underlying 5 = some (.int .u8) := by kernel_rfl
theorem underRune : Tryz.prog.underlying 21 = some (.int .i32) := by kernel_rfl
theorem underString : Tryz.prog.underlying 9 = some .string := by kernel_rfl
theorem underBytes : Tryz.prog.underlying 42 = some (.slice 5) := by kernel_rfl
theorem Tryz.infoByte : (Tryz.prog.info? 5).map (fun i => (i.zero, i.size, i.bytes)) = some (some (.int .u8 0), 1, 1) := by kernel_rfl
theorem sizeBuilder : (Tryz.prog.info? 65).map (·.size) = some 2 := by kernel_rfl
theorem liesBuilder : liesAt Tryz.prog Tryz.prog.depth 65 (2 / Tryz.prog.cellsOf 65) 0 65 1 = true := by kernel_rfl
theorem underPtr : Tryz.prog.underlying 63 = some (.pointer 65) := by kernel_rfl
theorem underUnsafe : Tryz.prog.underlying 142 = some .unsafePointer := by kernel_rfl

set_option maxRecDepth 100000 in
set_option maxHeartbeats 1000000 in
theorem check_fresh (b : Nat) (w : World) (h0 : w.cell? ⟨b, 0, none⟩ = some (.pointer none)) (hsh : w.shape? b = some (65, 2)) (hfz : w.frozen? ⟨b, 0, none⟩ = false) :
    Calls Tryz.prog 106 #[.pointer (some ⟨b, 0, none⟩)] w fun e w' => e = .returned (.tuple #[]) ∧ w' = w.setCell ⟨b, 0, none⟩ (.pointer (some ⟨b, 0, none⟩)) := by
  obtain ⟨j, hj, hjs⟩ := Option.map_eq_some_iff.1 sizeBuilder
  go_enter Tryz.func106, Tryz.ntmps106
  go_wp2
  rw [Lib.run_to_unsafe w ⟨b, 0, none⟩ underPtr underUnsafe hj (by rw [hjs]; decide) hsh (Nat.zero_lt_succ 1)]
  simp only [Result.andThen]
  rw [Oper.upon_value]
  go_wp2
  rw [run_callFunc_extern Tryz.func138 (by kernel_rfl) (by kernel_rfl) (by kernel_rfl) (e := Extern.AbiNoEscape.same) (by kernel_rfl)]
  rw [Lib.run_noEscape]
  simp only [Result.andThen]
  rw [Oper.upon_value]
  go_wp2
  rw [Lib.run_from_unsafe w ⟨b, 0, none⟩ underUnsafe underPtr hj hsh liesBuilder]
  simp only [Result.andThen]
  rw [Oper.upon_value]
  go_wp2
  go_end0
  exact ⟨rfl, rfl⟩

set_option maxRecDepth 100000 in
set_option maxHeartbeats 1000000 in
theorem check_used (b : Nat) (w : World) (h0 : w.cell? ⟨b, 0, none⟩ = some (.pointer (some ⟨b, 0, none⟩))) :
    Calls Tryz.prog 106 #[.pointer (some ⟨b, 0, none⟩)] w fun e w' => e = .returned (.tuple #[]) ∧ w' = w := by
  obtain ⟨j, hj, _⟩ := Option.map_eq_some_iff.1 sizeBuilder
  go_enter Tryz.func106, Tryz.ntmps106
  go_wp2
  rw [Lib.run_neq_ptr_same w _ underPtr hj]
  go_wp2
  go_end0
  exact ⟨rfl, rfl⟩

abbrev TB : TypeId := 65
theorem check_any (B b : Nat) (bs : List Value) (w : World) (h : Lib.IsBuilderF TB 5 B b bs w) :
    Calls Tryz.prog 106 #[.pointer (some ⟨b, 0, none⟩)] w fun e w' => e = .returned (.tuple #[]) ∧ (Lib.BuilderAtF TB 5 B b (.pointer (some ⟨b, 0, none⟩)) bs w' ∧ Below B w w' ∧ Lib.OthersKept 5 (some b) w w') := by
  rcases h with h | h
  · refine (check_fresh b w h.cell0 h.shape h.frozen0).mono ?_
    rintro e w' ⟨rfl, rfl⟩
    exact ⟨rfl, h.used _, (Below.refl B w).setCell (p := ⟨b, 0, none⟩) h.1 _, (Lib.OthersKept.refl _ _ w).setCell ⟨b, 0, none⟩ rfl _⟩
  · refine (check_used b w h.cell0).mono ?_
    rintro e w' ⟨rfl, rfl⟩
    exact ⟨rfl, h, Below.refl B _, Lib.OthersKept.refl _ _ _⟩

set_option maxRecDepth 100000 in
set_option maxHeartbeats 1000000 in
/-- WriteString: the text's bytes go in behind. -/
theorem writeString_any (B b : Nat) (bs : List Value) (s : ByteArray) (w : World) (h : Lib.IsBuilderF TB 5 B b bs w) (hlen : bs.length + s.size ≤ 140737488351232) (hBw : B ≤ w.heap.size) :
    Calls Tryz.prog 98 #[.pointer (some ⟨b, 0, none⟩), .string s] w fun e w' => e = .returned (.tuple #[.int .i64 (s.size : Nat), .nilIface]) ∧
      (Lib.BuilderAtF TB 5 B b (.pointer (some ⟨b, 0, none⟩)) (bs ++ Lib.strCells s) w' ∧ Below B w w') := by
  obtain ⟨i0, hi, hz0, hz1, hz2⟩ := info_parts Tryz.infoByte
  go_enter Tryz.func98, Tryz.ntmps98
  go_wp2_with (go_at_call 106; refine (check_any B b bs _ h).mono ?_)
  rintro e w1 ⟨rfl, h1, hb1, hk1⟩
  obtain ⟨hB, v, hbk, hown, hne⟩ := h1
  have c0 : w1.cell? ⟨b, 0, none⟩ = some (.pointer (some ⟨b, 0, none⟩)) := by rw [Lib.cell_of_heap hbk]; rfl
  have c1 : w1.cell? ⟨b, 1, none⟩ = some v := by rw [Lib.cell_of_heap hbk]; rfl
  clear hk1
  go_wp2_with (at_builtin; refine Lib.wpList_append_own_stringF _ rfl _ _ 42 9 rfl B 5 i0 underBytes underString hi hz0 hz1 hz2 _ _ _ rfl hown s rfl ?c3 ?c4 ?c5 ?_)
  case c3 => unfold maxLen; omega
  case c4 => omega
  case c5 => have := hb1.size; omega
  intro v' w2 hown' hgrow _
  have hlt : b < w1.heap.size := by
    rcases Nat.lt_or_ge b w1.heap.size with h' | h'
    · exact h'
    · simp [Array.getElem?_eq_none h'] at hbk
  have hb2 : w2.heap[b]? = some (.cells #[.pointer (some ⟨b, 0, none⟩), v] TB (0, 0)) := by
    rw [hgrow.block b hlt (fun e => hne e.symm)]
    exact hbk
  have d0 : w2.cell? ⟨b, 0, none⟩ = some (.pointer (some ⟨b, 0, none⟩)) := by rw [Lib.cell_of_heap hb2]; rfl
  have d1 : w2.cell? ⟨b, 1, none⟩ = some v := by rw [Lib.cell_of_heap hb2]; rfl
  have f1 : w2.frozen? ⟨b, 1, none⟩ = false := Lib.frozen_of_heap hb2 1
  obtain ⟨ao, n', cap, rfl⟩ : ∃ ao n' cap, v' = .slice ao n' cap := by
    rcases hown'.2 with ⟨hv, _⟩ | ⟨g, cap, cur, fz, hv, _⟩
    · exact ⟨_, _, _, hv⟩
    · exact ⟨_, _, _, hv⟩
  go_wp2
  go_ret2
  refine ⟨rfl, ?_, ?_⟩
  · exact Lib.BuilderAtF.put (T := TB) (e := 5) hB hb2 (bs' := bs ++ Lib.strCells s) (by simpa [Lib.strCells_length] using hown') (by decide)
  · exact (hb1.grown hgrow (by have := hb1.size; omega) (fun k hk => (hown.lt k hk).1)).setCell (p := ⟨b, 1, none⟩) hB _
end Go.Proofs.YtkfmfldkllkcbaaGreatDoor
namespace Go.CharrefKit
open Go Go.Lib
theorem encode_eq (r : Int) : Utf8.encode r = ⟨(encodeRune r).toArray⟩ := by
  unfold encodeRune
  by_cases c0 : r < 0 ∨ (55296 ≤ r ∧ r ≤ 57343) ∨ 1114111 < r
  · rw [encodeRuneZ_bad c0]
    have hv : Utf8.valid r = false := by
      simp only [Utf8.valid, Bool.or_eq_false_iff, Bool.and_eq_false_iff, decide_eq_false_iff_not]
      omega
    simp only [Utf8.encode, hv, Bool.false_eq_true, if_false, Utf8.runeError]
    decide
  · have hv : Utf8.valid r = true := by
      simp only [Utf8.valid, Bool.or_eq_true, Bool.and_eq_true, decide_eq_true_eq]
      omega
    obtain ⟨n, rfl⟩ : ∃ n : Nat, r = n := ⟨r.toNat, by omega⟩
    simp only [Utf8.encode, hv, if_true, Int.toNat_natCast]
    by_cases c1 : n < 128
    · rw [encodeRuneZ_one (by omega) (by omega), if_pos c1]
      simp
    · rw [if_neg c1]
      by_cases c2 : n < 2048
      · rw [encodeRuneZ_two (by omega) (by omega), if_pos c2]
        have t1 : ((192 : Int) + (n : Int) / 64).toNat = 192 + n / 64 := by omega
        have t2 : ((128 : Int) + (n : Int) % 64).toNat = 128 + n % 64 := by omega
        simp only [List.map_cons, List.map_nil, t1, t2]
      · rw [if_neg c2]
        have t2 : ((128 : Int) + (n : Int) / 64 % 64).toNat = 128 + n / 64 % 64 := by omega
        have t3 : ((128 : Int) + (n : Int) % 64).toNat = 128 + n % 64 := by omega
        by_cases c3 : n < 65536
        · rw [encodeRuneZ_three (by omega), if_pos c3]
          have t1 : ((224 : Int) + (n : Int) / 4096).toNat = 224 + n / 4096 := by omega
          simp only [List.map_cons, List.map_nil, t1, t2, t3]
        · rw [encodeRuneZ_four (by omega) (by omega), if_neg c3]
          have t0 : ((240 : Int) + (n : Int) / 262144).toNat = 240 + n / 262144 := by omega
          have t1 : ((128 : Int) + (n : Int) / 4096 % 64).toNat = 128 + n / 4096 % 64 := by omega
          simp only [List.map_cons, List.map_nil, t0, t1, t2, t3]
theorem runesBytes_one (r : Int) : runesBytes [r] = ⟨(encodeRune r).toArray⟩ := by
  have : runesBytes [r] = (⟨#[]⟩ : ByteArray) ++ Utf8.encode r := rfl
  rw [this, encode_eq]
  apply ByteArray.ext
  simp
theorem encodeRune_len (r : Int) : (encodeRune r).length ≤ 4 := by
  have := encodeRuneZ_length_le r
  simpa [encodeRune] using this
/-- The bytes of a text. -/
def bl (s : ByteArray) : List UInt8 := s.data.toList
theorem bl_length (s : ByteArray) : (bl s).length = s.size := by simp [bl]
theorem bl_mk (s : ByteArray) : (⟨(bl s).toArray⟩ : ByteArray) = s := rfl
theorem bl_of (l : List UInt8) : bl ⟨l.toArray⟩ = l := by simp [bl]
theorem bl_drop (s : ByteArray) (i : Nat) : bl (s.extract i s.size) = (bl s).drop i := by
  simp [bl, List.extract, List.take_of_length_le]
theorem bl_take (s : ByteArray) (p : Nat) : bl (s.extract 0 p) = (bl s).take p := by
  simp [bl, List.extract]
theorem strCells_bl (s : ByteArray) : strCells s = byteCells (bl s) := rfl

theorem ib_none {c : UInt8} : ∀ {l : List UInt8}, indexByte l c = -1 → ∀ b ∈ l, b ≠ c
  | [], _, b, h => by simp at h
  | x :: r, h, b, hb => by
    simp only [indexByte] at h
    split at h
    · cases h
    · rename_i hx
      have h2 : indexByte r c = -1 := by
        by_cases e : indexByte r c = -1
        · exact e
        · have hg := indexByte_ge r c
          simp only [beq_iff_eq, e, if_false] at h; omega
      rcases List.mem_cons.1 hb with rfl | hb
      · simpa using hx
      · exact ib_none h2 b hb
theorem ib_some {c : UInt8} : ∀ {l : List UInt8} {p : Nat}, indexByte l c = (p : Int) → ∃ x y, l = x ++ c :: y ∧ x.length = p ∧ ∀ b ∈ x, b ≠ c
  | [], p, h => by simp only [indexByte] at h; omega
  | b :: r, p, h => by
    simp only [indexByte] at h
    split at h
    · rename_i hb
      have hb : b = c := by simpa using hb
      subst hb
      exact ⟨[], r, rfl, by simp; omega, by simp⟩
    · rename_i hb
      have hb : b ≠ c := by simpa using hb
      split at h
      · omega
      · have hg := indexByte_ge r c
        rename_i hne
        have hne : indexByte r c ≠ -1 := by simpa using hne
        obtain ⟨x, y, e, hl, hn⟩ := ib_some (c := c) (l := r) (p := p - 1) (by omega)
        refine ⟨b :: x, y, by rw [e]; rfl, by simp; omega, ?_⟩
        intro z hz
        rcases List.mem_cons.1 hz with rfl | hz
        · exact hb
        · exact hn z hz
theorem ne38 {b : UInt8} (h : b ≠ 38) : b.toNat ≠ 38 := fun e => h (UInt8.toNat_inj.1 e)
end Go.CharrefKit
namespace Go.Proofs.YtkfmfldkllkcbaaGreatDoor
open Go.RowKit Go.RunKit Go.CharrefKit Go.Lib

theorem Tryz.underRunes : Tryz.prog.underlying 163 = some (.slice 21) := by kernel_rfl
set_option maxRecDepth 100000 in
set_option maxHeartbeats 1000000 in
theorem string_one (g : Nat) (r : Int) (w : World) (hc : w.cell? ⟨g, 0, none⟩ = some (.int .i32 r)) :
    Calls Tryz.prog 164 #[.slice (some ⟨g, 0, none⟩) 1 1] w fun e w' => e = .returned (.string ⟨(encodeRune r).toArray⟩) ∧ w = w' := by
  have hcv := run_convert_runes (P := Tryz.prog) w 163 9 21 ⟨g, 0, none⟩ 1 1 [r] (Nat.le_refl _) Tryz.underRunes underRune underString (fun j hj => by
    obtain rfl : j = 0 := by simp at hj; exact hj
    simpa [go_sem] using hc)
  rw [List.take_of_length_le (by simp), runesBytes_one] at hcv
  clear hc
  generalize (⟨(encodeRune r).toArray⟩ : ByteArray) = t at *
  go_enter Tryz.func164, Tryz.ntmps164
  go_wp2
  go_ret
  exact ⟨rfl, rfl⟩
end Go.Proofs.YtkfmfldkllkcbaaGreatDoor
namespace Go.Proofs.YtkfmfldkllkcbaaGreatDoor
open Go.RowKit Go.RunKit Go.CharrefKit Go.Lib

def strSize : Value → Nat
  | .string s => s.size
  | _ => 0
/-- What is held at the loop's head. -/
structure DecAt (w0 : World) (attr : Bool) (s0 cur : ByteArray) (done : List UInt8) (w : World) : Prop where
  rest : done ++ decodeL attr (bl cur) = decodeL attr (bl s0)
  built : Lib.IsBuilderF TB 5 w0.heap.size w0.heap.size (byteCells done) w
  below : Below w0.heap.size w0 w
  room : done.length + 4 * cur.size ≤ 4 * s0.size

theorem DecAt.wrote {w0 : World} {attr : Bool} {s0 cur cur' : ByteArray} {done l : List UInt8} {w w' : World} (h : DecAt w0 attr s0 cur done w) (he : decodeL attr (bl cur) = l ++ decodeL attr (bl cur')) (hr : l.length + 4 * cur'.size ≤ 4 * cur.size)
    (hb : Lib.BuilderAtF TB 5 w0.heap.size w0.heap.size (.pointer (some ⟨w0.heap.size, 0, none⟩)) (byteCells done ++ byteCells l) w') (hw : Below w0.heap.size w w') : DecAt w0 attr s0 cur' (done ++ l) w' :=
  ⟨by rw [List.append_assoc, ← he]; exact h.rest, .inr (by simpa [byteCells] using hb), h.below.trans hw, by rw [List.length_append]; have := h.room; omega⟩

theorem builder_on {B b : Nat} {bs : List Value} {w w' : World} (h : Lib.IsBuilderF TB 5 B b bs w) (hb : Below w.heap.size w w') : Lib.IsBuilderF TB 5 B b bs w' := by
  have hg : w.grownBy w' none := ⟨hb.os, hb.tape, hb.output, hb.size, fun k hk _ => hb.block k hk⟩
  have key : ∀ p, Lib.BuilderAtF TB 5 B b p bs w → Lib.BuilderAtF TB 5 B b p bs w' := by
    intro p h
    have hlt := h.lt
    obtain ⟨hB, v, hbk, hown, hne⟩ := h
    exact ⟨hB, v, by rw [hb.block b hlt]; exact hbk, hown.kept hg (Classical.em _), hne⟩
  rcases h with h | h
  · exact .inl (key _ h)
  · exact .inr (key _ h)
theorem DecAt.on {w0 : World} {attr : Bool} {s0 cur : ByteArray} {done : List UInt8} {w w' : World} (h : DecAt w0 attr s0 cur done w) (hb : Below w.heap.size w w') : DecAt w0 attr s0 cur done w' :=
  ⟨h.rest, builder_on h.built hb, h.below.trans (hb.mono h.below.size), h.room⟩

theorem decode_ref {attr : Bool} {t : ByteArray} {x : Ref} (hx : findL attr (natsOf t) = x) (hok : x.ok = true) : decodeL attr (bl t) = encodeRune ((x.char : Nat) : Int) ++ decodeL attr (bl (t.extract x.len t.size)) ∧ 1 ≤ x.len ∧ x.len ≤ t.size := by
  have h1 : (findL attr (nats (bl t))).ok = true := by change (findL attr (natsOf t)).ok = true; rw [hx]; exact hok
  have h2 := decodeL_ref h1
  have h3 := findL_len h1
  change findL attr (nats (bl t)) = x at hx
  rw [hx] at h2 h3
  have hl : (nats (bl t)).length = t.size := natsOf_length t
  rw [hl] at h3
  exact ⟨by rw [bl_drop]; exact h2, h3⟩
theorem decode_not {attr : Bool} {t : ByteArray} {y : List UInt8} (ht : bl t = 38 :: y) (hok : (findL attr (natsOf t)).ok = false) : decodeL attr (bl t) = [38] ++ decodeL attr (bl (t.extract 1 t.size)) := by
  rw [bl_drop, ht]
  refine decodeL_plain ?_
  rw [← ht]; exact hok

set_option maxRecDepth 100000 in
set_option maxHeartbeats 4000000 in
theorem decode_any (attr : Bool) (s : ByteArray) (hsz : s.size ≤ 1099511627776) (w : World) :
    Calls Tryz.prog 141 #[.string s, .bool attr] w fun e w' => e = .returned (.string ⟨(decodeL attr (bl s)).toArray⟩) ∧ Below w.heap.size w w' := by
  have D0 : Hid (DecAt w attr s s [] (w.alloc (.cells #[.pointer none, .slice none 0 0] TB))) := Lib.hid ⟨rfl, .inl ⟨Nat.le_refl _, .slice none 0 0, heap_alloc_new w _, World.ownsRowF_nil _ _ _ _, by simp [Value.ownBlock]⟩, (Below.refl _ _).alloc (Nat.le_refl _) _, by simp⟩
  go_enter Tryz.func141, Tryz.ntmps141
  go_wp2
  go_loopw [0] (fun v wr => ∃ (cur : ByteArray) (done : List UInt8), v = .string cur ∧ cur.size ≤ s.size ∧ Hid (DecAt w attr s cur done wr)) (fun v _ => strSize v)
  case atStart => exact ⟨s, [], rfl, Nat.le_refl _, D0⟩
  case round =>
    clear D0
    obtain ⟨cur, done, rfl, hcs, HD⟩ := hrel
    have HI := Lib.hid (fun w => Tryz.strings_IndexByte cur 38 w)
    have h38 : ((38 : Int).toNat.toUInt8) = (38 : UInt8) := rfl
    rw [h38] at HI
    change Hid (∀ w, Calls Tryz.prog 82 #[.string cur, .int .u8 38] w fun e w' => e = .returned (.int .i64 (Lib.indexByte (bl cur) 38)) ∧ w' = w) at HI
    by_cases hneg : Lib.indexByte (bl cur) 38 = -1
    · have hno := ib_none hneg
      have hdec : decodeL attr (bl cur) = bl cur ++ decodeL attr (bl ⟨#[]⟩) := by
        have := decodeL_ahead (attr := attr) (bl cur) [] (fun b hb => ne38 (hno b hb))
        rw [List.append_nil] at this
        rw [this]; rfl
      rw [hneg] at HI
      have HX := Lib.hid hdec
      have hroom := HD.out.room
      have hbsz := HD.out.below.size
      clear hneg hno hdec h38
      go_wp2_with (first
        | (go_at_call 82; refine (HI.out _).mono ?_; rintro e w1 ⟨rfl, rfl⟩)
        | (go_at_call 98; refine (writeString_any w.heap.size w.heap.size (byteCells done) cur _ HD.out.built (by simp [byteCells]; omega) hbsz).mono ?_; rintro e w2 ⟨rfl, hb2, hw2⟩; have HD2 := Lib.hid (HD.out.wrote (cur' := ⟨#[]⟩) HX.out (by rw [bl_length]; show _ + 4 * 0 ≤ _; omega) hb2 hw2); clear hb2 hw2)
        | (go_at_call 63; refine (Tryz.Builder_String_any_f _ _ (done ++ bl cur) _ HD2.out.built HD2.out.below.size).mono ?_; rintro e w3 ⟨rfl, _, hb3⟩))
      go_ret
      refine ⟨?_, HD2.out.below.trans hb3⟩
      have := HD2.out.rest
      rw [show bl (⟨#[]⟩ : ByteArray) = [] from rfl, decodeL_nil, List.append_nil] at this
      rw [← this]; rfl
    · obtain ⟨p, hp⟩ : ∃ p : Nat, Lib.indexByte (bl cur) 38 = (p : Int) := ⟨(Lib.indexByte (bl cur) 38).toNat, by have := Lib.indexByte_ge (bl cur) 38; omega⟩
      obtain ⟨x, y, hxy, hxl, hxn⟩ := ib_some hp
      rw [hp] at HI
      have hlen : x.length + 1 + y.length = cur.size := by
        have := bl_length cur
        rw [hxy] at this
        simp at this; omega
      have hpl : p < cur.size := by omega
      have htk : bl (cur.extract 0 p) = x := by rw [bl_take, hxy, ← hxl]; simp
      have htl : bl (cur.extract p cur.size) = 38 :: y := by rw [bl_drop, hxy, ← hxl]; simp
      have h1 : decodeL attr (bl cur) = bl (cur.extract 0 p) ++ decodeL attr (bl (cur.extract p cur.size)) := by
        rw [htk, htl, hxy]
        exact decodeL_ahead x (38 :: y) (fun b hb => ne38 (hxn b hb))
      have hts : (cur.extract p cur.size).size = cur.size - p := by simp
      have hps : (cur.extract 0 p).size = p := by simp; omega
      have H1 := Lib.hid h1
      have HS := Lib.hid (And.intro hts hps)
      have HF := find_any attr (cur.extract p cur.size) (by omega)
      obtain ⟨z, hz⟩ : ∃ z, findL attr (natsOf (cur.extract p cur.size)) = z := ⟨_, rfl⟩
      rw [hz] at HF
      have hroom := HD.out.room
      have hbsz := HD.out.below.size
      have HT := Lib.hid htl
      have hpI : (p : Int) ≤ cur.size := by omega
      clear h1 htk htl hp hneg hxy hxn h38 hlen hxl
      cases hok : z.ok with
      | true =>
        have hdr := decode_ref hz hok
        rw [hts] at hdr
        have HR := Lib.hid hdr
        obtain ⟨c, n, k⟩ := z
        simp only at hok
        subst hok
        unfold refV at HF
        simp only at HF HR
        have HF := Lib.hid HF
        have hcl := encodeRune_len ((c : Nat) : Int)
        have hn1 : 1 ≤ n ∧ n ≤ cur.size - p := HR.out.2
        have HE4 : Hid ((⟨(encodeRune ((c : Nat) : Int)).toArray⟩ : ByteArray).size = (encodeRune ((c : Nat) : Int)).length) := Lib.hid (by simp [ByteArray.size])
        clear hz hdr
        go_wp2_with (first
          | (go_at_call 82; refine (HI.out _).mono ?_; rintro e w1 ⟨rfl, rfl⟩)
          | (go_at_call 98; refine (writeString_any w.heap.size w.heap.size (byteCells done) (cur.extract 0 p) _ HD.out.built (by simp [byteCells]; omega) hbsz).mono ?_; rintro e w2 ⟨rfl, hb2, hw2⟩; have HD2 := Lib.hid (HD.out.wrote (cur' := cur.extract p cur.size) H1.out (by rw [bl_length, HS.out.1, HS.out.2]; omega) hb2 hw2); clear hb2 hw2 HD)
          | (go_at_call 163; refine (HF.out _).mono ?_; rintro e w3 ⟨rfl, hb3⟩; have HD3 := Lib.hid (HD2.out.on hb3); clear hb3 HD2)
          | (go_at_call 164; refine (string_one _ ((c : Nat) : Int) _ (by simp [go_sem])).mono ?_; rintro e w4 ⟨rfl, rfl⟩; have HD4 := Lib.hid (HD3.out.on ((Below.refl _ _).alloc (Nat.le_refl _) (.cells #[.int .i32 ((c : Nat) : Int)] 21))); have hr4 := HD4.out.room; have hs4 := HD4.out.below.size; clear HD3)
          | (go_at_call 98; refine (writeString_any w.heap.size w.heap.size (byteCells (done ++ bl (cur.extract 0 p))) ⟨(encodeRune ((c : Nat) : Int)).toArray⟩ _ HD4.out.built (by rw [byteCells_length, HE4.out]; omega) hs4).mono ?_; rintro e w5 ⟨rfl, hb5, hw5⟩; have HD5 := Lib.hid (HD4.out.wrote (cur' := (cur.extract p cur.size).extract n (cur.size - p)) (l := encodeRune ((c : Nat) : Int)) HR.out.1 (by simp; omega) hb5 hw5); clear hb5 hw5 HD4))
        exact ⟨⟨_, _, rfl, by simp; omega, HD5⟩, by simp [strSize]; omega⟩
      | false =>
        have hdn := decode_not HT.out (by rw [hz]; exact hok)
        rw [hts] at hdn
        have HR := Lib.hid hdn
        obtain ⟨c, n, k⟩ := z
        simp only at hok
        subst hok
        unfold refV at HF
        simp only at HF
        have HF := Lib.hid HF
        have htk1 : bl ((cur.extract p cur.size).extract 0 1) = [38] := by rw [bl_take, HT.out]; rfl
        have HT1 := Lib.hid htk1
        clear hz hdn htk1
        go_wp2_with (first
          | (go_at_call 82; refine (HI.out _).mono ?_; rintro e w1 ⟨rfl, rfl⟩)
          | (go_at_call 98; refine (writeString_any w.heap.size w.heap.size (byteCells done) (cur.extract 0 p) _ HD.out.built (by simp [byteCells]; omega) hbsz).mono ?_; rintro e w2 ⟨rfl, hb2, hw2⟩; have HD2 := Lib.hid (HD.out.wrote (cur' := cur.extract p cur.size) H1.out (by rw [bl_length, HS.out.1, HS.out.2]; omega) hb2 hw2); clear hb2 hw2 HD)
          | (go_at_call 163; refine (HF.out _).mono ?_; rintro e w3 ⟨rfl, hb3⟩; have HD3 := Lib.hid (HD2.out.on hb3); clear hb3 HD2)
          | (go_at_call 98; refine (writeString_any w.heap.size w.heap.size (byteCells (done ++ bl (cur.extract 0 p))) ((cur.extract p cur.size).extract 0 1) _ HD3.out.built (by have := HD3.out.room; simp [byteCells] at *; omega) HD3.out.below.size).mono ?_; rintro e w5 ⟨rfl, hb5, hw5⟩; have HD5 := Lib.hid (HD3.out.wrote (cur' := (cur.extract p cur.size).extract 1 (cur.size - p)) (l := bl ((cur.extract p cur.size).extract 0 1)) (by rw [HT1.out]; exact HR.out) (by rw [HT1.out]; simp; omega) hb5 hw5); clear hb5 hw5 HD3))
        exact ⟨⟨_, _, rfl, by simp; omega, HD5⟩, by simp [strSize]; omega⟩
end Go.Proofs.YtkfmfldkllkcbaaGreatDoor
