/-
  strings.IndexAny and ContainsAny at some few ASCII bytes, whatever the text. Conditions: the bytes looked for are ASCII, two or more; the text is shorter than 2^32.
-/
import Derived.Test.YtkfmfldkllkcbabDoorCEnc
import Derived.Laws.RangeAny
import Derived.WalkMore
import Derived.Shelf.Strings.SlTrimAscii
namespace Go.Proofs.YtkfmfldkllkcbabDoor
open Go.RowKit Go.RunKit Go.CharrefKit Go.Lib

def AllAscii (s : ByteArray) : Prop := ∀ (j : Nat) b, s.data.toList[j]? = some b → b.toNat < 128
theorem NoAny.more {s chars : List UInt8} {i n : Nat} (h : NoAny s chars i) (hn : ∀ j, j < n → ∀ b, s[i + j]? = some b → chars.contains b = false) : NoAny s chars (i + n) := fun j b hj hb => by
  by_cases e : j < i
  · exact h j b e hb
  · obtain ⟨k, rfl⟩ : ∃ k, j = i + k := ⟨j - i, by omega⟩
    exact hn k (by omega) b hb

theorem trimLeft_any (s chars : ByteArray) (w : World) (hcs : chars.size < 4294967281) (hch : AllAscii chars) :
    Calls Tryd.prog 74 #[.string s, .string chars] w fun e w' => e = .returned (.string ⟨(Lib.trimLeftS (bl s) (bl chars)).toArray⟩) ∧ Below w.heap.size w w' :=
  Any.strings_TrimLeft_laid Tryd.lays161 (by kernel_rfl) s chars w hcs hch
end Go.Proofs.YtkfmfldkllkcbabDoor

