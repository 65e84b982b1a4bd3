/-
  Links, walks: the contracts with the lengths and answers named.
-/
import Derived.Test.YtgjikoebneiamaaLFar
import Derived.Test.YtgjikoebneiamaaLWho
import Derived.Test.YtgjikoebneiamaaLFirst
namespace Go.Proofs.Ytgjikoebneiamaa
open Go.RowKit

theorem Fewest_l {a a2 : Option Addr} {n m cap cap2 : Nat} {C : Chain} {w : World} {x : Int} (hf : fewV C = x) (hn : n = C.deeds.length) (hm : m = C.sights.length)
    (hx : ChainAt w.heap.size w (.agg #[.slice a n cap, .slice a2 m cap2, .int .i64 C.wrong]) C) (hV : validB C = true) :
    Calls Try.prog 20 #[.agg #[.slice a n cap, .slice a2 m cap2, .int .i64 C.wrong]] w fun e w' => e = .returned (.tuple #[.int .i64 x, .int .i64 0]) ∧ Below w.heap.size w w' := by
  subst hn hm hf
  exact Fewest_any a a2 cap cap2 C w hx hV
theorem First_l {a a2 : Option Addr} {n m cap cap2 : Nat} {C : Chain} {w : World} {x y : Int} (hf : firstV C = x) (he : firstE C = y) (hn : n = C.deeds.length) (hm : m = C.sights.length)
    (hx : ChainAt w.heap.size w (.agg #[.slice a n cap, .slice a2 m cap2, .int .i64 C.wrong]) C) (hV : validB C = true) :
    Calls Try.prog 40 #[.agg #[.slice a n cap, .slice a2 m cap2, .int .i64 C.wrong]] w fun e w' => e = .returned (.tuple #[.int .i64 x, .int .i64 y]) ∧ Below w.heap.size w w' := by
  subst hn hm hf he
  exact First_any a a2 cap cap2 C w hx hV
theorem LStat.slice {w W : World} {b : Nat} {x0 x1 x2 : Value} {C : Chain} (h : LStat w W b x0 x1 x2 C) : ∃ a cap a2 cap2, x0 = .slice a C.deeds.length cap ∧ x1 = .slice a2 C.sights.length cap2 ∧ x2 = .int .i64 C.wrong := by
  obtain ⟨dv, sv, e, ⟨a, cap, b, off, h1, _⟩, ⟨a2, cap2, b2, off2, h2, _⟩, _⟩ := h.st
  injection e with e
  simp only [Array.mk.injEq, List.cons.injEq, and_true] at e
  exact ⟨a, cap, a2, cap2, e.1.trans h1, e.2.1.trans h2, e.2.2⟩

theorem Many_l {a a2 : Option Addr} {n m cap cap2 : Nat} {C : Chain} {w : World} {x : Nat} {y : Int} (hf : (truthsP C).length = x) (he : noneE x = y) (hn : n = C.deeds.length) (hm : m = C.sights.length)
    (hx : ChainAt w.heap.size w (.agg #[.slice a n cap, .slice a2 m cap2, .int .i64 C.wrong]) C) (hV : validB C = true) :
    Calls Try.prog 22 #[.agg #[.slice a n cap, .slice a2 m cap2, .int .i64 C.wrong]] w fun e w' => e = .returned (.tuple #[.int .i64 x, .int .i64 y]) ∧ Below w.heap.size w w' := by
  subst hn hm hf he
  exact Many_any a a2 cap cap2 C w hx hV
theorem Length_l {v : Value} {C : Chain} {w : World} {x : Nat} (hf : lenTo C.deeds C.deeds.length = x) (hx : ChainAt w.heap.size w v C) (hV : validB C = true) :
    Calls Try.prog 18 #[v] w fun e w' => e = .returned (.tuple #[.int .i64 x, .int .i64 0]) ∧ Below w.heap.size w w' := by
  have := length_any v C w hx
  rwa [if_pos hV, chkS_ok hV, hf] at this
theorem Who_l {a a2 : Option Addr} {n m cap cap2 at_ : Nat} {C : Chain} {w : World} {L : List Int} {y : Int} (hf : srt ((truthsP C).map (linkAt C at_)) = L) (he : noneE (truthsP C).length = y) (hn : n = C.deeds.length) (hm : m = C.sights.length)
    (hx : ChainAt w.heap.size w (.agg #[.slice a n cap, .slice a2 m cap2, .int .i64 C.wrong]) C) (hV : validB C = true) (hat : (at_ : Int) < lenTo C.deeds C.deeds.length) :
    Calls Try.prog 24 #[.agg #[.slice a n cap, .slice a2 m cap2, .int .i64 C.wrong], .int .i64 at_] w fun e w' => ∃ v, e = .returned (.tuple #[v, .int .i64 y]) ∧ IntsAt w'.heap.size w' v L ∧ Below w.heap.size w w' := by
  subst hn hm hf he
  exact Who_ok a a2 cap cap2 C at_ w hx hV hat
theorem Where_l {a a2 : Option Addr} {n m cap cap2 : Nat} {link : Int} {C : Chain} {w : World} {L : List Int} {y : Int} (hf : srt ((truthsP C).map (placeOf C link)) = L) (he : noneE (truthsP C).length = y) (hn : n = C.deeds.length) (hm : m = C.sights.length)
    (hx : ChainAt w.heap.size w (.agg #[.slice a n cap, .slice a2 m cap2, .int .i64 C.wrong]) C) (hV : validB C = true) (hi : wB link 0 ((weldsTo C.deeds C.deeds.length : Int) - 1) = true) :
    Calls Try.prog 32 #[.agg #[.slice a n cap, .slice a2 m cap2, .int .i64 C.wrong], .int .i64 link] w fun e w' => ∃ v, e = .returned (.tuple #[v, .int .i64 y]) ∧ IntsAt w'.heap.size w' v L ∧ Below w.heap.size w w' := by
  subst hn hm hf he
  exact Where_ok a a2 cap cap2 C link w hx hV hi

end Go.Proofs.Ytgjikoebneiamaa
