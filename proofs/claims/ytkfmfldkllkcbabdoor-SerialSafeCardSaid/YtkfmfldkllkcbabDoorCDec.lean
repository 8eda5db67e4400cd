/-
  Decode of charref: it tells what the document says. Conditions: the text is no longer than 2^40 bytes.
-/
import Derived.Test.YtkfmfldkllkcbabDoorCEnc
namespace Go.Proofs.YtkfmfldkllkcbabDoor
open Go.RowKit Go.RunKit Go.CharrefKit Go.Lib

theorem builder_on {B b : Nat} {bs : List Value} {w w' : World} (h : Lib.IsBuilderF TB 5 B b bs w) (hb : Below w.heap.size w w') : Lib.IsBuilderF TB 5 B b bs w' := by
  have hg : w.grownBy w' none := ⟨hb.os, hb.tape, hb.output, hb.size, fun k hk _ => hb.block k hk⟩
  have key : ∀ p, Lib.BuilderAtF TB 5 B b p bs w → Lib.BuilderAtF TB 5 B b p bs w' := by
    intro p h
    have hlt := h.lt
    obtain ⟨hB, v, hbk, hown, hne⟩ := h
    exact ⟨hB, v, by rw [hb.block b hlt]; exact hbk, hown.kept hg (Classical.em _), hne⟩
  rcases h with h | h
  · exact .inl (key _ h)
  · exact .inr (key _ h)
end Go.Proofs.YtkfmfldkllkcbabDoor

