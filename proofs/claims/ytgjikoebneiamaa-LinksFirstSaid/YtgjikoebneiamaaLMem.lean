/-
  Links: what memory holds: deeds, sights, chains; kept by whatever leaves the blocks below a bound as they were.
-/
import Derived.Test.YtgjikoebneiamaaLPlain

namespace Go.Proofs.Ytgjikoebneiamaa
open Go.RowKit

/-- Five numbers side by side. -/
def Five (w : World) (b o : Nat) (x0 x1 x2 x3 x4 : Int) : Prop :=
  w.cell? ⟨b, o, none⟩ = some (.int .i64 x0) ∧ w.cell? ⟨b, o + 1, none⟩ = some (.int .i64 x1) ∧ w.cell? ⟨b, o + 2, none⟩ = some (.int .i64 x2) ∧
  w.cell? ⟨b, o + 3, none⟩ = some (.int .i64 x3) ∧ w.cell? ⟨b, o + 4, none⟩ = some (.int .i64 x4)
theorem Five.below {B : Nat} {w w' : World} {b o : Nat} {x0 x1 x2 x3 x4 : Int} (h : Five w b o x0 x1 x2 x3 x4) (hb : Below B w w') (hlt : b < B) : Five w' b o x0 x1 x2 x3 x4 :=
  ⟨(hb.cell (p := ⟨b, o, none⟩) hlt).trans h.1, (hb.cell (p := ⟨b, o + 1, none⟩) hlt).trans h.2.1, (hb.cell (p := ⟨b, o + 2, none⟩) hlt).trans h.2.2.1,
    (hb.cell (p := ⟨b, o + 3, none⟩) hlt).trans h.2.2.2.1, (hb.cell (p := ⟨b, o + 4, none⟩) hlt).trans h.2.2.2.2⟩

def DI64 (d : Deed) : Prop := I64 d.what ∧ I64 d.at_ ∧ I64 d.from_ ∧ I64 d.bar ∧ I64 d.smith
def SI64 (s : Sight) : Prop := I64 s.after ∧ I64 s.at_ ∧ I64 s.from_ ∧ I64 s.bar ∧ I64 s.smith
abbrev dV (d : Deed) : Value := .agg #[.int .i64 d.what, .int .i64 d.at_, .int .i64 d.from_, .int .i64 d.bar, .int .i64 d.smith]
abbrev sV (s : Sight) : Value := .agg #[.int .i64 s.after, .int .i64 s.at_, .int .i64 s.from_, .int .i64 s.bar, .int .i64 s.smith]

/-- A []Deed that holds the first k of some deeds, in a block below B. -/
def DeedsTo (B : Nat) (w : World) (v : Value) (ds : List Deed) (k : Nat) : Prop :=
  ∃ a cap b off, v = .slice a k cap ∧ k ≤ cap ∧ cap ≤ maxLen ∧ (0 < k → a = some ⟨b, off, none⟩ ∧ b < B) ∧
    (∀ i, i < k → Five w b (off + i * 5) (dnth ds i).what (dnth ds i).at_ (dnth ds i).from_ (dnth ds i).bar (dnth ds i).smith) ∧ ∀ i, i < k → DI64 (dnth ds i)
def SightsAt (B : Nat) (w : World) (v : Value) (ss : List Sight) : Prop :=
  ∃ a cap b off, v = .slice a ss.length cap ∧ ss.length ≤ cap ∧ cap ≤ maxLen ∧ (0 < ss.length → a = some ⟨b, off, none⟩ ∧ b < B) ∧
    (∀ i, i < ss.length → Five w b (off + i * 5) (snth ss i).after (snth ss i).at_ (snth ss i).from_ (snth ss i).bar (snth ss i).smith) ∧ ∀ i, i < ss.length → SI64 (snth ss i)
def ChainAt (B : Nat) (w : World) (v : Value) (C : Chain) : Prop :=
  ∃ dv sv, v = .agg #[dv, sv, .int .i64 C.wrong] ∧ DeedsTo B w dv C.deeds C.deeds.length ∧ SightsAt B w sv C.sights ∧ I64 C.wrong

theorem DeedsTo.opened {B : Nat} {w : World} {v : Value} {ds : List Deed} {k : Nat} (h : DeedsTo B w v ds k) :
    ∃ a cap b off, v = .slice a k cap ∧ k ≤ 9223372036854775807 ∧ Hid (0 < k → a = some ⟨b, off, none⟩ ∧ b < B) ∧
      Hid (∀ i, i < k → Five w b (off + i * 5) (dnth ds i).what (dnth ds i).at_ (dnth ds i).from_ (dnth ds i).bar (dnth ds i).smith) ∧ Hid (∀ i, i < k → DI64 (dnth ds i)) := by
  obtain ⟨a, cap, b, off, rfl, hl, hm, ha, hc, hw⟩ := h
  unfold maxLen at hm
  exact ⟨a, cap, b, off, rfl, by omega, Lib.hid ha, Lib.hid hc, Lib.hid hw⟩
theorem SightsAt.opened {B : Nat} {w : World} {v : Value} {ss : List Sight} (h : SightsAt B w v ss) :
    ∃ a cap b off, v = .slice a ss.length cap ∧ ss.length ≤ 9223372036854775807 ∧ Hid (0 < ss.length → a = some ⟨b, off, none⟩ ∧ b < B) ∧
      Hid (∀ i, i < ss.length → Five w b (off + i * 5) (snth ss i).after (snth ss i).at_ (snth ss i).from_ (snth ss i).bar (snth ss i).smith) ∧ Hid (∀ i, i < ss.length → SI64 (snth ss i)) := by
  obtain ⟨a, cap, b, off, rfl, hl, hm, ha, hc, hw⟩ := h
  unfold maxLen at hm
  exact ⟨a, cap, b, off, rfl, by omega, Lib.hid ha, Lib.hid hc, Lib.hid hw⟩
theorem ChainAt.opened {B : Nat} {w : World} {v : Value} {C : Chain} (h : ChainAt B w v C) :
    ∃ a cap b off a2 cap2 b2 off2, v = .agg #[.slice a C.deeds.length cap, .slice a2 C.sights.length cap2, .int .i64 C.wrong] ∧
      C.deeds.length ≤ 9223372036854775807 ∧ C.sights.length ≤ 9223372036854775807 ∧ C.deeds.length ≤ cap ∧ cap ≤ 9223372036854775807 ∧
      Hid (0 < C.deeds.length → a = some ⟨b, off, none⟩ ∧ b < B) ∧
      Hid (∀ i, i < C.deeds.length → Five w b (off + i * 5) (dnth C.deeds i).what (dnth C.deeds i).at_ (dnth C.deeds i).from_ (dnth C.deeds i).bar (dnth C.deeds i).smith) ∧
      Hid (0 < C.sights.length → a2 = some ⟨b2, off2, none⟩ ∧ b2 < B) ∧
      Hid (∀ i, i < C.sights.length → Five w b2 (off2 + i * 5) (snth C.sights i).after (snth C.sights i).at_ (snth C.sights i).from_ (snth C.sights i).bar (snth C.sights i).smith) ∧
      Hid (∀ i, i < C.deeds.length → DI64 (dnth C.deeds i)) ∧ Hid (∀ i, i < C.sights.length → SI64 (snth C.sights i)) := by
  obtain ⟨dv, sv, rfl, ⟨a, cap, b, off, rfl, hl, hm, ha, hc, hi⟩, ⟨a2, cap2, b2, off2, rfl, hl2, hm2, ha2, hc2, hi2⟩, hw⟩ := h
  unfold maxLen at hm hm2
  exact ⟨a, cap, b, off, a2, cap2, b2, off2, rfl, by omega, by omega, hl, hm, Lib.hid ha, Lib.hid hc, Lib.hid ha2, Lib.hid hc2, Lib.hid hi, Lib.hid hi2⟩
theorem DeedsTo.below {B : Nat} {w w' : World} {v : Value} {ds : List Deed} {k : Nat} (h : DeedsTo B w v ds k) (hb : Below B w w') : DeedsTo B w' v ds k := by
  obtain ⟨a, cap, b, off, hv, hl, hm, ha, hc, hw⟩ := h
  exact ⟨a, cap, b, off, hv, hl, hm, ha, fun i hi => (hc i hi).below hb (ha (by omega)).2, hw⟩
theorem DeedsTo.mono {B B' : Nat} {w : World} {v : Value} {ds : List Deed} {k : Nat} (h : DeedsTo B w v ds k) (hb : B ≤ B') : DeedsTo B' w v ds k := by
  obtain ⟨a, cap, b, off, hv, hl, hm, ha, hc, hw⟩ := h
  exact ⟨a, cap, b, off, hv, hl, hm, fun h => ⟨(ha h).1, by have := (ha h).2; omega⟩, hc, hw⟩
/-- A part from the beginning on. -/
theorem DeedsTo.take {B : Nat} {w : World} {a : Option Addr} {n cap k : Nat} {ds : List Deed} (h : DeedsTo B w (.slice a n cap) ds n) (hk : k ≤ n) : DeedsTo B w (.slice a k cap) ds k := by
  obtain ⟨a, cap, b, off, hv, hl, hm, ha, hc, hw⟩ := h
  cases hv
  exact ⟨a, cap, b, off, rfl, by omega, hm, fun h => ha (by omega), fun i hi => hc i (by omega), fun i hi => hw i (by omega)⟩
theorem SightsAt.below {B : Nat} {w w' : World} {v : Value} {ss : List Sight} (h : SightsAt B w v ss) (hb : Below B w w') : SightsAt B w' v ss := by
  obtain ⟨a, cap, b, off, hv, hl, hm, ha, hc, hw⟩ := h
  exact ⟨a, cap, b, off, hv, hl, hm, ha, fun i hi => (hc i hi).below hb (ha (by omega)).2, hw⟩
theorem SightsAt.mono {B B' : Nat} {w : World} {v : Value} {ss : List Sight} (h : SightsAt B w v ss) (hb : B ≤ B') : SightsAt B' w v ss := by
  obtain ⟨a, cap, b, off, hv, hl, hm, ha, hc, hw⟩ := h
  exact ⟨a, cap, b, off, hv, hl, hm, fun h => ⟨(ha h).1, by have := (ha h).2; omega⟩, hc, hw⟩
theorem ChainAt.below {B : Nat} {w w' : World} {v : Value} {C : Chain} (h : ChainAt B w v C) (hb : Below B w w') : ChainAt B w' v C := by
  obtain ⟨dv, sv, hv, h1, h2, h3⟩ := h
  exact ⟨dv, sv, hv, h1.below hb, h2.below hb, h3⟩
theorem ChainAt.mono {B B' : Nat} {w : World} {v : Value} {C : Chain} (h : ChainAt B w v C) (hb : B ≤ B') : ChainAt B' w v C := by
  obtain ⟨dv, sv, hv, h1, h2, h3⟩ := h
  exact ⟨dv, sv, hv, h1.mono hb, h2.mono hb, h3⟩
theorem box3 {w wr : World} {v0 v1 v2 : Value} {t : TypeId} (h : Below (w.heap.size + 1) (w.alloc (.cells #[v0, v1, v2] t)) wr) :
    wr.cell? ⟨w.heap.size, 0, none⟩ = some v0 ∧ wr.cell? ⟨w.heap.size, 1, none⟩ = some v1 ∧ wr.cell? ⟨w.heap.size, 2, none⟩ = some v2 := by
  have e : wr.heap[w.heap.size]? = some (.cells #[v0, v1, v2] t) := (h.block w.heap.size (by omega)).trans (heap_new w _)
  refine ⟨?_, ?_, ?_⟩ <;> simp [World.cell?, e]

end Go.Proofs.Ytgjikoebneiamaa
