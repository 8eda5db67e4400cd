/-
  The reader of package token: what reads each token. Conditions: texts are no longer than 2^31 bytes.
-/
import Derived.Test.YtfjphhmbnhglcaaGreatDoorTTag
namespace Go.TokenKit
open Go Go.Lib Go.CharrefKit
theorem wordsN_eq : ∀ (l : Bytes) (n : Nat), n ≤ l.length → (∀ j, j < n → markL (l.drop j) = false) → (n = l.length ∨ markL (l.drop n) = true) → wordsN l = n
  | [], n, h, _, _ => by simp at h; subst h; rfl
  | b :: r, 0, _, _, h => by
    rcases h with h | h
    · simp at h
    · unfold wordsN
      rw [List.drop_zero] at h
      rw [h]; rfl
  | b :: r, n + 1, h, ha, he => by
    have h0 : markL (b :: r) = false := ha 0 (by omega)
    unfold wordsN
    rw [h0]
    have := wordsN_eq r n (by simpa using h) (fun j hj => by simpa using ha (j + 1) (by omega)) (by simpa using he)
    simp [this]
end Go.TokenKit
namespace Go.Proofs.YtfjphhmbnhglcaaGreatDoor
open Go.RowKit Go.RunKit Go.CharrefKit Go.Lib Go.TokenKit

/-- What a reader tells, against the document's: part by part. -/
def ToldK (o : Except Nat (Tok × Bytes)) (base : Nat) (k : Nat) (n : ByteArray) (ao : Option Addr) (m cap : Nat) (sf : Bool) (d : ByteArray) (e : Int) (c : ByteArray) (W : World) : Prop := match o with
  | .error x => e = (x : Nat) ∧ k = 0 ∧ n = ⟨#[]⟩ ∧ ao = none ∧ m = 0 ∧ cap = 0 ∧ sf = false ∧ d = ⟨#[]⟩
  | .ok (t, r) => e = 0 ∧ c = ⟨r.toArray⟩ ∧ k = t.kind ∧ n = ⟨t.name.toArray⟩ ∧ AtRow W base (.slice ao m cap) t.attrs ∧ sf = t.self ∧ d = ⟨t.data.toArray⟩
def tkAgg (k : Nat) (n : ByteArray) (ao : Option Addr) (m cap : Nat) (sf : Bool) (d : ByteArray) : Array Value := #[.int .u8 (k : Nat), .string n, .slice ao m cap, .bool sf, .string d]
theorem AtRow.mono {w : World} {base base' : Nat} {v : Value} {l : List At} (h : AtRow w base' v l) (hb : base ≤ base') : AtRow w base v l := by
  refine ⟨h.1, ?_⟩
  rcases h.2 with hn | ⟨g, cap, cur, e, hg, rest⟩
  · exact .inl hn
  · exact .inr ⟨g, cap, cur, e, Nat.le_trans hb hg, rest⟩
theorem told_mono {o : Except Nat (Tok × Bytes)} {base base' k : Nat} {n : ByteArray} {ao : Option Addr} {m cap : Nat} {sf : Bool} {d : ByteArray} {e : Int} {c : ByteArray} {W : World} (h : ToldK o base' k n ao m cap sf d e c W) (hb : base ≤ base') : ToldK o base k n ao m cap sf d e c W := by
  cases o with
  | error x => exact h
  | ok x =>
    obtain ⟨t, r⟩ := x
    obtain ⟨t1, t2, t3, t4, t5, t6, t7⟩ := h
    exact ⟨t1, t2, t3, t4, t5.mono hb, t6, t7⟩
/-- What a reader of a token owes. -/
def ReadsAs (f : FuncId) (o : Except Nat (Tok × Bytes)) (b : Nat) (w : World) : Prop :=
  Calls Tryz.prog f #[.pointer (some ⟨b, 0, none⟩)] w fun e w' => ∃ k n ao m cap sf d er c, e = .returned (.tuple #[.agg #[.int .u8 ((k : Nat) : Int), .string n, .slice ao m cap, .bool sf, .string d], .int .i64 er]) ∧ Moved w b c w' ∧ ToldK o w.heap.size k n ao m cap sf d er c w'

theorem tag_told (b kd : Nat) (cur : ByteArray) (hsz : cur.size ≤ 4294967280) (w : World) (h : RB w b cur) (hm : Maxed w b) :
    Calls Tryz.prog 102 #[.pointer (some ⟨b, 0, none⟩), .int .u8 (kd : Nat)] w fun e w' => ∃ k n ao m cap sf d er c, e = .returned (.tuple #[.agg #[.int .u8 ((k : Nat) : Int), .string n, .slice ao m cap, .bool sf, .string d], .int .i64 er]) ∧ Moved w b c w' ∧ ToldK (tagL kd (bl cur)) w.heap.size k n ao m cap sf d er c w' := by
  refine (tag_any b kd cur hsz w h hm).mono ?_
  rintro e w' ⟨cs, er, c, rfl, hmv, ht⟩
  cases ho : tagL kd (bl cur) with
  | error x =>
    rw [ho] at ht
    obtain ⟨h1, h2⟩ := ht
    subst h2
    exact ⟨0, ⟨#[]⟩, none, 0, 0, false, ⟨#[]⟩, er, c, rfl, hmv, h1, rfl, rfl, rfl, rfl, rfl, rfl, rfl⟩
  | ok x =>
    obtain ⟨t, r⟩ := x
    rw [ho] at ht
    obtain ⟨h1, h2, av, h3, h4⟩ := ht
    obtain ⟨ao, cap, rfl, _⟩ := h3.reads
    subst h4
    exact ⟨t.kind, _, ao, _, cap, t.self, _, er, c, rfl, hmv, h1, h2, rfl, rfl, h3, rfl, rfl⟩
/-- A result's block, and what is read meanwhile. -/
structure OwnAt (w : World) (b : Nat) (cur : ByteArray) (wr : World) : Prop where
  moved : Moved w b cur wr
  res : wr.heap[w.heap.size]? = some (.cells tokZero TTk (0, 0))
  lt : b < w.heap.size
theorem OwnAt.start {w : World} {b : Nat} {cur : ByteArray} (h : RB w b cur) : OwnAt w b cur (w.alloc (.cells #[.int .u8 0, .string ⟨#[]⟩, .slice none 0 0, .bool false, .string ⟨#[]⟩] TTk)) :=
  ⟨(Moved.refl h).on ((Below.refl _ _).alloc (Nat.le_refl _) _), heap_alloc_new w _, h.lt⟩
theorem OwnAt.on {w wr wr' : World} {b : Nat} {cur cur' : ByteArray} (h : OwnAt w b cur wr) (m : Moved wr b cur' wr') : OwnAt w b cur' wr' :=
  ⟨h.moved.trans m, below_of_old m h.res (by have := h.lt; omega), h.lt⟩
theorem OwnAt.below {w wr wr' : World} {b : Nat} {cur : ByteArray} (h : OwnAt w b cur wr) (m : Below wr.heap.size wr wr') : OwnAt w b cur wr' := h.on ((Moved.refl h.moved.rest).on m)
theorem OwnAt.lt2 {w wr : World} {b : Nat} {cur : ByteArray} (h : OwnAt w b cur wr) : w.heap.size ≤ wr.heap.size := h.moved.grown.size
/-- The end of a reader: what stands in its result's block. -/
theorem own_end {f : Func} (hres : f.results = #[.cell 2 TTk, .tmp 3]) {w W : World} {b : Nat} {cur c : ByteArray} (h : OwnAt w b cur W) {o : Except Nat (Tok × Bytes)} {tmps : Array Value} {k : Nat} {n : ByteArray} {ao : Option Addr} {m cap : Nat} {sf : Bool} {d : ByteArray} {er : Int}
    (h2 : tmps.getD 2 undef = .pointer (some ⟨w.heap.size, 0, none⟩)) (h3 : tmps.getD 3 undef = .int .i64 er) (hc : o.isOk = true → c = cur) (ht : ToldK o w.heap.size k n ao m cap sf d er c W) :
    bodyPost Tryz.prog f (fun e w' => ∃ k n ao m cap sf d er c, e = .returned (.tuple #[.agg #[.int .u8 ((k : Nat) : Int), .string n, .slice ao m cap, .bool sf, .string d], .int .i64 er]) ∧ Moved w b c w' ∧ ToldK o w.heap.size k n ao m cap sf d er c w') .ret ⟨tmps, []⟩
      (((((W.setCell ⟨w.heap.size, 0, none⟩ (.int .u8 ((k : Nat) : Int))).setCell ⟨w.heap.size, 1, none⟩ (.string n)).setCell ⟨w.heap.size, 2, none⟩ (.slice ao m cap)).setCell ⟨w.heap.size, 3, none⟩ (.bool sf)).setCell ⟨w.heap.size, 4, none⟩ (.string d)) := by
  have hlt := h.lt
  refine bodyPost_ret (results_row_tmp hres _ _ w.heap.size TTk _ _ _ h2 (set5 h.res) Tryz.underlying33 rfl (by kernel_rfl)) rfl ?_
  refine ⟨k, n, ao, m, cap, sf, d, er, cur, by rw [h3], h.moved.newrow (Nat.le_refl _) (by omega) _ _ _ _ _, ?_⟩
  cases o with
  | error x => exact ht
  | ok x =>
    obtain ⟨t, r⟩ := x
    obtain ⟨t1, t2, t3, t4, t5, t6, t7⟩ := ht
    exact ⟨t1, by rw [← hc rfl]; exact t2, t3, t4, t5.newrow h.res (by decide) _ _ _ _ _, t6, t7⟩

theorem own_err {f : Func} (hres : f.results = #[.cell 2 TTk, .tmp 3]) {w W : World} {b : Nat} {cur : ByteArray} (h : OwnAt w b cur W) {o : Except Nat (Tok × Bytes)} {tmps : Array Value} {x : Nat} {er : Int}
    (h2 : tmps.getD 2 undef = .pointer (some ⟨w.heap.size, 0, none⟩)) (h3 : tmps.getD 3 undef = .int .i64 er) (he : er = (x : Nat)) (ho : o = .error x) :
    bodyPost Tryz.prog f (fun e w' => ∃ k n ao m cap sf d er c, e = .returned (.tuple #[.agg #[.int .u8 ((k : Nat) : Int), .string n, .slice ao m cap, .bool sf, .string d], .int .i64 er]) ∧ Moved w b c w' ∧ ToldK o w.heap.size k n ao m cap sf d er c w') .ret ⟨tmps, []⟩
      (((((W.setCell ⟨w.heap.size, 0, none⟩ (.int .u8 0)).setCell ⟨w.heap.size, 1, none⟩ (.string ⟨#[]⟩)).setCell ⟨w.heap.size, 2, none⟩ (.slice none 0 0)).setCell ⟨w.heap.size, 3, none⟩ (.bool false)).setCell ⟨w.heap.size, 4, none⟩ (.string ⟨#[]⟩)) := by
  have hlt := h.lt
  refine bodyPost_ret (results_row_tmp hres _ _ w.heap.size TTk _ _ _ h2 (set5 h.res) Tryz.underlying33 rfl (by kernel_rfl)) rfl ?_
  refine ⟨0, _, _, _, _, _, _, er, cur, by rw [h3]; rfl, h.moved.newrow (Nat.le_refl _) (by omega) _ _ _ _ _, ?_⟩
  subst ho
  exact ⟨he, rfl, rfl, rfl, rfl, rfl, rfl, rfl⟩
set_option maxRecDepth 100000 in
set_option maxHeartbeats 400000 in
theorem unknown_any (b : Nat) (cur : ByteArray) (w : World) (h : RB w b cur) : ReadsAs 68 (.error 43) b w := by
  have HO := Lib.hid (OwnAt.start h)
  clear h
  unfold ReadsAs
  go_enter Tryz.func68, Tryz.ntmps68
  obtain ⟨⟨r0, r1, r2, r3, r4⟩, s0, s1, s2, s3, s4⟩ := local5 HO.out.res
  go_big_wp2
  refine bodyPost_ret (results_row_tmp rfl _ _ w.heap.size TTk _ _ _ rfl HO.out.res Tryz.underlying33 rfl (by kernel_rfl)) rfl ?_
  exact ⟨0, _, _, _, _, _, _, 43, cur, rfl, HO.out.moved, rfl, rfl, rfl, rfl, rfl, rfl, rfl, rfl⟩
set_option maxRecDepth 100000 in
set_option maxHeartbeats 400000 in
theorem start_any (b : Nat) (cur : ByteArray) (hsz : cur.size ≤ 4294967280) (h1 : 1 ≤ cur.size) (w : World) (h : RB w b cur) (hm : Maxed w b) : ReadsAs 62 (tagL 1 ((bl cur).drop 1)) b w := by
  have HO := Lib.hid (OwnAt.start h)
  have HM := Lib.hid hm
  have HT := Lib.hid fun w h => take_any b cur 1 h1 w h
  have hs1 : (cur.extract 1 cur.size).size ≤ 4294967280 := by simp; omega
  have HG := Lib.hid fun w h hm => tag_told b 1 (cur.extract 1 cur.size) hs1 w h hm
  rw [bl_drop] at HG
  obtain ⟨c1, hc1⟩ : ∃ c, cur.extract 1 cur.size = c := ⟨_, rfl⟩
  rw [hc1] at HG HT
  clear h hm hc1 hs1
  unfold ReadsAs
  go_enter Tryz.func62, Tryz.ntmps62
  go_big_wp2_with (first
    | (go_at_call 101; refine (HT.out _ HO.out.moved.rest).mono ?_; rintro e w1 ⟨rfl, hm1⟩; have HO1 := Lib.hid (HO.out.on hm1))
    | (go_at_call 102; refine (HG.out _ HO1.out.moved.rest (HM.out.grown HO1.out.moved.grown)).mono ?_; rintro e w2 ⟨k, n, ao, m, cap, sf, d, er, c, rfl, hm2, hK⟩; have HO2 := Lib.hid (HO1.out.on hm2); obtain ⟨⟨r0, r1, r2, r3, r4⟩, s0, s1, s2, s3, s4⟩ := local5 HO2.out.res))
  refine own_end rfl HO2.out rfl rfl (fun _ => rfl) (told_mono hK HO1.out.lt2)
end Go.Proofs.YtfjphhmbnhglcaaGreatDoor
