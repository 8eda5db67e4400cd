/-
  The law on what is escaped. No conditions.
-/
import Derived.Test.YtcafejjejcchlaaCLaw3
import Derived.Maps.AppendAt
import Derived.Sort.AtCall
namespace Go.Proofs.Ytcafejjejcchlaa
open Go.RowKit Go.RunKit Go.CharrefKit Go.Lib

/-- Where the bytes of a text are appended: the row is the old one, or a new block. -/
theorem wpList_string_at {ops : Array Oper} {rest : List Oper} {o : Oper} {a : Act} {Q : Exit → Act → World → Prop} {w : World} (hgd : o.guard = none) (sl x : Operand)
    (ho : o.op = .call { callee := .builtin .append, args := #[sl, x], argTypes := #[33, 9] }) (base : Nat)
    (v : Value) (n : Nat) (xs : List Value) (hs : a.eval sl = v) (hown : w.ownsRow base 5 1 v n xs) (s : ByteArray) (hx : a.eval x = .string s) (h0 : 0 < s.size)
    (hn : n + s.size ≤ 1000000) (hbase : base ≤ w.heap.size)
    (h : ∀ v' w', w'.ownsRow base 5 1 v' (n + s.size) (xs ++ strCells s) → w.grownBy w' v.ownBlock → (v'.ownBlock = v.ownBlock ∨ v'.ownBlock = some w.heap.size) → wpList Try.prog ops Q rest (a.put o.dst v') w') : wpList Try.prog ops Q (o :: rest) a w := by
  obtain ⟨i0, hi, hz0, hz1, hz2⟩ := info_parts Try.infoByte
  refine wpList_plain hgd fun K hK => ?_
  obtain ⟨v', w', hr, h2, h3, _⟩ := run_append_own_string (P := Try.prog) w base 33 9 o.type 5 i0 underBytes underString hi hz0 hz1 hz2 v n xs hown s (by unfold maxLen; omega) (by omega) hbase
  have hat : v'.ownBlock = v.ownBlock ∨ v'.ownBlock = some w.heap.size := by
    rcases hown.2 with ⟨rfl, rfl⟩ | ⟨g, cap, cur, rfl, hbg, hg, hnc, hcm, hcs, htake⟩
    · have hr2 := run_append_nil_string (P := Try.prog) w 33 9 o.type 5 i0 (.int .u8 0) underBytes underString hi hz0 s h0 (by omega) (by rw [hz2]; omega)
      rw [hr] at hr2
      injection hr2 with e1 _
      right
      rw [e1]; rfl
    · by_cases hroom : n + s.size ≤ cap
      · have hcs' : cur.size = cap := by simpa using hcs
        have hr2 := run_append_room_string (P := Try.prog) w 33 9 o.type 5 i0 underBytes underString hi hz1 g n cap cur hg s hroom (by omega)
        rw [hr] at hr2
        injection hr2 with e1 _
        left
        rw [e1]; rfl
      · have hxl : xs.length = n := by simpa using hown.1
        have hr2 := run_append_grow_string (P := Try.prog) w 33 9 o.type 5 i0 (.int .u8 0) underBytes underString hi hz0 ⟨g, 0, none⟩ n cap xs (by rw [hz1]; simpa using hxl) (hown.cells (g := g) rfl) s (by omega) (by omega) (by rw [hz2]; exact growslice_fits (by omega) (by omega))
        rw [hr] at hr2
        injection hr2 with e1 _
        right
        rw [e1]; rfl
  unfold Oper.wp execOp
  simp only [ho, resolve, invoke, builtin, Sem.run_bind, Sem.run_pure, Result.andThen_ok, List.map_toArray, List.map_cons, List.map_nil, hs, hx, hr]
  exact hK _ _ (h v' w' h2 h3 hat)

/-- Two rows of the call's own, apart. -/
structure Two (w0 : World) (v u : Value) (m n : Nat) (l k : List UInt8) (w : World) : Prop where
  rowv : w.ownsRow w0.heap.size 5 1 v m (byteCells l)
  rowu : w.ownsRow w0.heap.size 5 1 u n (byteCells k)
  sep : ∀ g, v.ownBlock = some g → u.ownBlock ≠ some g
  below : Below w0.heap.size w0 w
theorem Two.swap {w0 : World} {v u : Value} {m n : Nat} {l k : List UInt8} {w : World} (h : Two w0 v u m n l k w) : Two w0 u v n m k l w := ⟨h.rowu, h.rowv, fun g e1 e2 => h.sep g e2 e1, h.below⟩
theorem Two.on {w0 : World} {v u : Value} {m n : Nat} {l k : List UInt8} {w w' : World} (h : Two w0 v u m n l k w) (hb : Below w.heap.size w w') : Two w0 v u m n l k w' :=
  ⟨ownsRow_on h.rowv hb, ownsRow_on h.rowu hb, h.sep, h.below.trans (hb.mono h.below.size)⟩
theorem Two.grew {w0 : World} {v u : Value} {m n : Nat} {l k : List UInt8} {w W : World} (h : Two w0 v u m n l k w) {v' : Value} {m' : Nat} {l' : List UInt8} (hrow : W.ownsRow w0.heap.size 5 1 v' m' (byteCells l'))
    (hg : w.grownBy W v.ownBlock) (hat : v'.ownBlock = v.ownBlock ∨ v'.ownBlock = some w.heap.size) : Two w0 v' u m' n l' k W := by
  refine ⟨hrow, ?_, ?_, h.below.grown hg h.below.size (fun k hk => (World.ownsRow.lt h.rowv k hk).1)⟩
  · obtain ⟨h1, h2⟩ := h.rowu
    refine ⟨h1, ?_⟩
    rcases h2 with h2 | ⟨g, cap, cur, e1, e2, e3, e4⟩
    · exact .inl h2
    · exact .inr ⟨g, cap, cur, e1, e2, by
        rw [hg.block g (Array.getElem?_eq_some_iff.1 e3).1 (fun e => h.sep g e.symm (by rw [e1]; rfl))]
        exact e3, e4⟩
  · intro g e1 e2
    rcases hat with hat | hat
    · exact h.sep g (hat ▸ e1) e2
    · rw [hat] at e1
      cases e1
      have := (World.ownsRow.lt h.rowu _ e2).2
      omega
theorem row_text {w0 w : World} {b : Option Addr} {m cap : Nat} {l : List UInt8} (h : w.ownsRow w0.heap.size 5 1 (.slice b m cap) m (byteCells l)) : (convert 33 9 (.slice b m cap)).run Try.prog w = .ok (.string ⟨l.toArray⟩) w := by
  have hl : l.length = m := by have := h.1; rw [byteCells_length] at this; omega
  rcases h.2 with ⟨e, e2⟩ | ⟨g, cap3, cur, e, _⟩
  · cases e
    have : l = [] := List.length_eq_zero_iff.1 (by omega)
    rw [this]
    exact run_convert_bytes_nil (P := Try.prog) _ 33 5 underBytes underByte _ _ _ underString
  · cases e
    have := run_convert_bytes_back (P := Try.prog) w 33 9 5 ⟨g, 0, none⟩ cap l underBytes underByte underString (fun j hj => h.cells rfl j _ (by simp [byteCells, hj]))
    rwa [hl] at this

theorem esc_snoc (l : List UInt8) (b : UInt8) : esc (l ++ [b]) = esc l ++ (if b = 38 then [38, 97, 109, 112, 59] else [b]) := by simp [esc]
theorem plain_snoc (l : List UInt8) (b : UInt8) : plain (l ++ [b]) = plain l ++ (if b = 38 then [] else [b]) := by
  unfold plain
  rw [List.filter_append]
  by_cases h : b = 38 <;> simp [h]
theorem esc_len (l : List UInt8) : (esc l).length ≤ 5 * l.length := by
  induction l with
  | nil => simp [esc]
  | cons b r ih =>
    have e : esc (b :: r) = (if b = 38 then [38, 97, 109, 112, 59] else [b]) ++ esc r := by simp [esc]
    rw [e]
    split <;> simp <;> omega
theorem plain_len (l : List UInt8) : (plain l).length ≤ l.length := List.length_filter_le _ _

set_option maxRecDepth 100000 in
set_option maxHeartbeats 4000000 in
theorem lawBack (s : ByteArray) (attr : Bool) (w : World) : Calls Try.prog 5 #[.string s, .bool attr] w fun e w' => e = .returned (.bool true) ∧ Below w.heap.size w w' := by
  have HW : Hid (∀ w1, Below w.heap.size w w1 → Calls Try.prog 10 #[] w1 fun e w' => e = .returned (.bool true) ∧ Below w.heap.size w w') := Lib.hid (fun w1 hb => from_base hb (works_any w1))
  by_cases hbig : 5000 < s.size
  · have hI : (5000 : Int) < s.size := by omega
    go_enter Try.func5, Try.ntmps5
    go_wp2_with (go_at_call 10; refine (HW.out _ (Below.refl _ _)).mono ?_; rintro e w' ⟨rfl, hb⟩)
    go_ret
    exact ⟨rfl, hb⟩
  have hI := eq_false (show ¬ (5000 : Int) < s.size by omega)
  obtain ⟨i0, hi, hz0, hz1, hz2⟩ := info_parts Try.infoByte
  have D0 : Hid (Two w (.slice none 0 0) (.slice none 0 0) 0 0 (esc ((bl s).take 0)) (plain ((bl s).take 0)) w) := Lib.hid ⟨World.ownsRow_nil _ _ _ _, World.ownsRow_nil _ _ _ _, fun g e => (by cases e), Below.refl _ _⟩
  go_enter Try.func5, Try.ntmps5
  go_wp2
  go_loopw [5, 6, 7] (fun v u i wr => ∃ (k m c m2 c2 : Nat) (b b2 : Option Addr), v = .slice b m c ∧ u = .slice b2 m2 c2 ∧ i = .int .i64 k ∧ k ≤ s.size ∧ m ≤ 5 * k ∧ m2 ≤ k ∧ Hid (Two w (.slice b m c) (.slice b2 m2 c2) m m2 (esc ((bl s).take k)) (plain ((bl s).take k)) wr)) (fun _ _ i _ => s.size - (RowKit.intOf i).toNat)
  case atStart => exact ⟨0, 0, 0, 0, 0, none, none, rfl, rfl, rfl, Nat.zero_le _, Nat.zero_le _, Nat.zero_le _, D0⟩
  case round =>
    clear D0
    obtain ⟨k, m, c, m2, c2, b, b2, rfl, rfl, rfl, hk, hm, hm2, HD⟩ := hrel
    by_cases hlt : k < s.size
    · have hltI : (k : Int) < s.size := by omega
      have hkl : k < (bl s).length := by rw [bl_length]; exact hlt
      have htk : (bl s).take (k + 1) = (bl s).take k ++ [(bl s)[k]'hkl] := by rw [List.take_add_one, List.getElem?_eq_getElem hkl]; rfl
      have hbs : ((bl s)[k]'hkl) = s[k]'hlt := rfl
      have HE := Lib.hid (esc_snoc ((bl s).take k) ((bl s)[k]'hkl))
      have HP := Lib.hid (plain_snoc ((bl s).take k) ((bl s)[k]'hkl))
      rw [← htk] at HE HP
      by_cases h38 : (bl s)[k]'hkl = 38
      · rw [if_pos h38] at HE HP
        have hxb : ((((s[k]'hlt).toNat : Nat) : Int) == 38) = true := by rw [← hbs, h38]; rfl
        clear htk hbs h38
        go_wp2_with (at_builtin; refine wpList_string_at rfl _ _ rfl w.heap.size _ m (byteCells (esc ((bl s).take k))) rfl HD.out.rowv _ rfl (by decide) ?c1 HD.out.below.size ?_)
        case c1 => show m + 5 ≤ 1000000; omega
        intro v' W hown' hgrow hat
        obtain ⟨a1, cap2, hvs1⟩ := slice_of hown'
        subst hvs1
        have hcells : byteCells (esc ((bl s).take (k + 1))) = byteCells (esc ((bl s).take k)) ++ strCells ⟨#[38, 97, 109, 112, 59]⟩ := by rw [HE.out]; simp [byteCells, strCells]
        have HX := Lib.hid (HD.out.grew (l' := esc ((bl s).take (k + 1))) (by rw [hcells]; exact hown') hgrow hat)
        rw [show plain ((bl s).take k) = plain ((bl s).take (k + 1)) by rw [HP.out, List.append_nil]] at HX
        clear hown' hgrow hat hcells
        go_wp2
        exact ⟨⟨k + 1, _, _, _, _, _, _, rfl, rfl, by go_num, by omega, by show m + 5 ≤ _; omega, by omega, HX⟩, by simp [RowKit.intOf]; omega⟩
      · rw [if_neg h38] at HE HP
        have hxb : ((((s[k]'hlt).toNat : Nat) : Int) == 38) = false := beq_eq_false_iff_ne.2 (fun e => h38 (UInt8.toNat_inj.1 (by rw [hbs]; have : (38 : UInt8).toNat = 38 := rfl; omega)))
        have hxp : ¬ (((s[k]'hlt).toNat : Nat) : Int) = 38 := fun e => by rw [e] at hxb; cases hxb
        have hone : ∀ (w1 : World) (j : Nat) (u : Value), [Value.int .u8 ((s[k]'hlt).toNat : Int)][j]? = some u → (w1.alloc (.cells #[.int .u8 ((s[k]'hlt).toNat : Int)] 5)).cell? ((⟨w1.heap.size, 0, none⟩ : Addr).add j) = some u := fun w1 => cell_one_new w1 _ _
        have hcE : byteCells (esc ((bl s).take (k + 1))) = byteCells (esc ((bl s).take k)) ++ [.int .u8 ((s[k]'hlt).toNat : Int)] := by rw [HE.out, hbs]; simp [byteCells]
        have hcP : byteCells (plain ((bl s).take (k + 1))) = byteCells (plain ((bl s).take k)) ++ [.int .u8 ((s[k]'hlt).toNat : Int)] := by rw [HP.out, hbs]; simp [byteCells]
        have HCE := Lib.hid hcE
        have HCP := Lib.hid hcP
        have HON := Lib.hid hone
        have HD1 := Lib.hid (HD.out.on ((Below.refl _ _).alloc (Nat.le_refl _) (.cells #[.int .u8 ((s[k]'hlt).toNat : Int)] 5)))
        have hs1 := HD1.out.below.size
        clear htk hbs h38 hcE hcP hone
        go_wp2_with (at_builtin; refine wpList_append_own_at _ rfl _ _ 33 rfl w.heap.size 5 i0 _ 1 1 underBytes hi hz0 hz1 hz2 rfl (by decide) _ m (byteCells (esc ((bl s).take k))) rfl HD1.out.rowv ⟨wr.heap.size, 0, none⟩ 1 1 [.int .u8 ((s[k]'hlt).toNat : Int)] rfl ?c1 ?c2 ?c3 ?c4 ?c5 ?c6 ?_)
        case c1 => simp
        case c2 => exact HON.out wr
        case c3 => intro u hu; simp at hu; subst hu; rfl
        case c4 => unfold maxLen; omega
        case c5 => omega
        case c6 => exact hs1
        intro v' W hown' hgrow _ hat
        obtain ⟨a1, cap2, hvs1⟩ := slice_of hown'
        subst hvs1
        have HD2 := Lib.hid (HD1.out.grew (l' := esc ((bl s).take (k + 1))) (by rw [HCE.out]; exact hown') hgrow (by simpa using hat))
        have HD3 := Lib.hid (HD2.out.on ((Below.refl _ _).alloc (Nat.le_refl _) (.cells #[.int .u8 ((s[k]'hlt).toNat : Int)] 5)))
        have hs3 := HD3.out.below.size
        clear hown' hgrow hat hs1 HD1
        go_wp2_with (at_builtin; refine wpList_append_own_at _ rfl _ _ 33 rfl w.heap.size 5 i0 _ 1 1 underBytes hi hz0 hz1 hz2 rfl (by decide) _ m2 (byteCells (plain ((bl s).take k))) rfl HD3.out.rowu ⟨W.heap.size, 0, none⟩ 1 1 [.int .u8 ((s[k]'hlt).toNat : Int)] rfl ?d1 ?d2 ?d3 ?d4 ?d5 ?d6 ?_)
        case d1 => simp
        case d2 => exact HON.out W
        case d3 => intro u hu; simp at hu; subst hu; rfl
        case d4 => unfold maxLen; omega
        case d5 => omega
        case d6 => exact hs3
        intro v' W2 hown' hgrow _ hat
        obtain ⟨a2, cap3, hvs2⟩ := slice_of hown'
        subst hvs2
        have HX := Lib.hid ((HD3.out.swap.grew (l' := plain ((bl s).take (k + 1))) (by rw [HCP.out]; exact hown') hgrow (by simpa using hat)).swap)
        clear hown' hgrow hat hs3 HD3 HD2
        go_wp2
        exact ⟨⟨k + 1, _, _, _, _, _, _, rfl, rfl, by go_num, by omega, by omega, by omega, HX⟩, by simp [RowKit.intOf]; omega⟩
    · obtain rfl : k = s.size := by omega
      have htk : (bl s).take s.size = bl s := List.take_of_length_le (by rw [bl_length]; exact Nat.le_refl _)
      rw [htk] at HD
      have hd := HD.out
      have cE : ∀ p : Over wr, (convert 33 9 (.slice b m c)).run Try.prog p.out = .ok (.string ⟨(esc (bl s)).toArray⟩) p.out := fun p => row_text (ownsRow_on hd.rowv p.below)
      have cP : ∀ p : Over wr, (convert 33 9 (.slice b2 m2 c2)).run Try.prog p.out = .ok (.string ⟨(plain (bl s)).toArray⟩) p.out := fun p => row_text (ownsRow_on hd.rowu p.below)
      have zE : (⟨(esc (bl s)).toArray⟩ : ByteArray).size ≤ 1099511627776 := by have := esc_len (bl s); rw [bl_length] at this; simp [ByteArray.size]; omega
      have zP : (⟨(plain (bl s)).toArray⟩ : ByteArray).size ≤ 1099511627776 := by have := plain_len (bl s); rw [bl_length] at this; simp [ByteArray.size]; omega
      have h1 := fun w => decode_any attr ⟨(esc (bl s)).toArray⟩ zE w
      have h2 := fun w => decode_any attr ⟨(plain (bl s)).toArray⟩ zP w
      rw [bl_of (esc (bl s)), decode_esc] at h1
      rw [bl_of (plain (bl s)), decode_plain] at h2
      rw [bl_mk s] at h1
      generalize (⟨(esc (bl s)).toArray⟩ : ByteArray) = E at *
      generalize (⟨(plain (bl s)).toArray⟩ : ByteArray) = P at *
      have hb := hd.below
      have hWk := fun p : Over wr => works_any p.out
      have H1 := Lib.hid h1
      have H2 := Lib.hid h2
      have H3 := Lib.hid hWk
      have HBW := Lib.hid hb
      clear zE zP h1 h2 hd htk HD hWk hb HW
      go_wp2
      refine wp_region_below (by kernel_rfl) (by kernel_rfl) ?_
      repeat (go_big_quiet_step (first
        | (go_at_call_of 14 (Value.string E); exact calls_over (H1.out _))
        | (go_at_call_of 14 (Value.string P); exact calls_over (H2.out _))
        | (go_at_call 10; exact calls_over (H3.out _))))
      refine wpQuiet_nil ?_
      intro _ hw'
      obtain ⟨q, hw''⟩ := hw'
      subst hw''
      go_wp2
      go_ret
      exact ⟨rfl, HBW.out.trans (q.below.mono HBW.out.size)⟩
end Go.Proofs.Ytcafejjejcchlaa
