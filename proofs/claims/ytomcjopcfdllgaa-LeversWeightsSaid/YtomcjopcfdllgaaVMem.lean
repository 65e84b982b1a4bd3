/-
  Levers: what memory holds: levers, balances, machines; kept by whatever leaves the blocks below a bound as they were.
-/
import Derived.Test.YtomcjopcfdllgaaVGen
import Derived.Test.YtomcjopcfdllgaaVPlain

namespace Go.Proofs.Ytomcjopcfdllgaa
open Go.RowKit

def lnth (ls : List Lev) (i : Nat) : Lev := ls.getD i ⟨0, 0, 0⟩
def bnth (bs : List Bal) (i : Nat) : Bal := bs.getD i ⟨0, 0, 0, 0⟩
theorem lnth_lt {ls : List Lev} {i : Nat} (h : i < ls.length) : lnth ls i = ls[i] := by simp [lnth, h]
theorem bnth_lt {bs : List Bal} {i : Nat} (h : i < bs.length) : bnth bs i = bs[i] := by simp [bnth, h]
/-- Three, and four, numbers side by side. -/
def Three (w : World) (b o : Nat) (x0 x1 x2 : Int) : Prop :=
  w.cell? ⟨b, o, none⟩ = some (.int .i64 x0) ∧ w.cell? ⟨b, o + 1, none⟩ = some (.int .i64 x1) ∧ w.cell? ⟨b, o + 2, none⟩ = some (.int .i64 x2)
theorem Three.below {B : Nat} {w w' : World} {b o : Nat} {x0 x1 x2 : Int} (h : Three w b o x0 x1 x2) (hb : Below B w w') (hlt : b < B) : Three w' b o x0 x1 x2 :=
  ⟨(hb.cell (p := ⟨b, o, none⟩) hlt).trans h.1, (hb.cell (p := ⟨b, o + 1, none⟩) hlt).trans h.2.1, (hb.cell (p := ⟨b, o + 2, none⟩) hlt).trans h.2.2⟩
def Four (w : World) (b o : Nat) (x0 x1 x2 x3 : Int) : Prop :=
  w.cell? ⟨b, o, none⟩ = some (.int .i64 x0) ∧ w.cell? ⟨b, o + 1, none⟩ = some (.int .i64 x1) ∧ w.cell? ⟨b, o + 2, none⟩ = some (.int .i64 x2) ∧ w.cell? ⟨b, o + 3, none⟩ = some (.int .i64 x3)
theorem Four.below {B : Nat} {w w' : World} {b o : Nat} {x0 x1 x2 x3 : Int} (h : Four w b o x0 x1 x2 x3) (hb : Below B w w') (hlt : b < B) : Four w' b o x0 x1 x2 x3 :=
  ⟨(hb.cell (p := ⟨b, o, none⟩) hlt).trans h.1, (hb.cell (p := ⟨b, o + 1, none⟩) hlt).trans h.2.1, (hb.cell (p := ⟨b, o + 2, none⟩) hlt).trans h.2.2.1, (hb.cell (p := ⟨b, o + 3, none⟩) hlt).trans h.2.2.2⟩
def LI64 (l : Lev) : Prop := I64 l.long ∧ I64 l.lo ∧ I64 l.hi
def BI64 (b : Bal) : Prop := I64 b.weight ∧ I64 b.minutes ∧ I64 b.load ∧ I64 b.off
abbrev lV (l : Lev) : Value := .agg #[.int .i64 l.long, .int .i64 l.lo, .int .i64 l.hi]
abbrev bV (b : Bal) : Value := .agg #[.int .i64 b.weight, .int .i64 b.minutes, .int .i64 b.load, .int .i64 b.off]
def LevsAt (B : Nat) (w : World) (v : Value) (ls : List Lev) : Prop :=
  ∃ a cap b off, v = .slice a ls.length cap ∧ ls.length ≤ cap ∧ cap ≤ maxLen ∧ (0 < ls.length → a = some ⟨b, off, none⟩ ∧ b < B) ∧
    (∀ i, i < ls.length → Three w b (off + i * 3) (lnth ls i).long (lnth ls i).lo (lnth ls i).hi) ∧ ∀ i, i < ls.length → LI64 (lnth ls i)
def BalsAt (B : Nat) (w : World) (v : Value) (bs : List Bal) : Prop :=
  ∃ a cap b off, v = .slice a bs.length cap ∧ bs.length ≤ cap ∧ cap ≤ maxLen ∧ (0 < bs.length → a = some ⟨b, off, none⟩ ∧ b < B) ∧
    (∀ i, i < bs.length → Four w b (off + i * 4) (bnth bs i).weight (bnth bs i).minutes (bnth bs i).load (bnth bs i).off) ∧ ∀ i, i < bs.length → BI64 (bnth bs i)
def MachAt (B : Nat) (w : World) (v : Value) (M : Mach) : Prop :=
  ∃ lv bv, v = .agg #[lv, .int .i64 M.water, .int .i64 M.lkLo, .int .i64 M.lkHi, bv, .int .i64 M.wrong] ∧ LevsAt B w lv M.levers ∧ BalsAt B w bv M.bals ∧ I64 M.water ∧ I64 M.lkLo ∧ I64 M.lkHi ∧ I64 M.wrong

theorem LevsAt.below {B : Nat} {w w' : World} {v : Value} {ls : List Lev} (h : LevsAt B w v ls) (hb : Below B w w') : LevsAt B w' v ls := by
  obtain ⟨a, cap, b, off, hv, hl, hm, ha, hc, hw⟩ := h
  exact ⟨a, cap, b, off, hv, hl, hm, ha, fun i hi => (hc i hi).below hb (ha (by omega)).2, hw⟩
theorem LevsAt.mono {B B' : Nat} {w : World} {v : Value} {ls : List Lev} (h : LevsAt B w v ls) (hb : B ≤ B') : LevsAt B' w v ls := by
  obtain ⟨a, cap, b, off, hv, hl, hm, ha, hc, hw⟩ := h
  exact ⟨a, cap, b, off, hv, hl, hm, fun h => ⟨(ha h).1, by have := (ha h).2; omega⟩, hc, hw⟩
theorem BalsAt.below {B : Nat} {w w' : World} {v : Value} {bs : List Bal} (h : BalsAt B w v bs) (hb : Below B w w') : BalsAt B w' v bs := by
  obtain ⟨a, cap, b, off, hv, hl, hm, ha, hc, hw⟩ := h
  exact ⟨a, cap, b, off, hv, hl, hm, ha, fun i hi => (hc i hi).below hb (ha (by omega)).2, hw⟩
theorem BalsAt.mono {B B' : Nat} {w : World} {v : Value} {bs : List Bal} (h : BalsAt B w v bs) (hb : B ≤ B') : BalsAt B' w v bs := by
  obtain ⟨a, cap, b, off, hv, hl, hm, ha, hc, hw⟩ := h
  exact ⟨a, cap, b, off, hv, hl, hm, fun h => ⟨(ha h).1, by have := (ha h).2; omega⟩, hc, hw⟩
theorem MachAt.below {B : Nat} {w w' : World} {v : Value} {M : Mach} (h : MachAt B w v M) (hb : Below B w w') : MachAt B w' v M := by
  obtain ⟨lv, bv, hv, h1, h2, h3⟩ := h
  exact ⟨lv, bv, hv, h1.below hb, h2.below hb, h3⟩
theorem MachAt.mono {B B' : Nat} {w : World} {v : Value} {M : Mach} (h : MachAt B w v M) (hb : B ≤ B') : MachAt B' w v M := by
  obtain ⟨lv, bv, hv, h1, h2, h3⟩ := h
  exact ⟨lv, bv, hv, h1.mono hb, h2.mono hb, h3⟩
theorem MachAt.opened {B : Nat} {w : World} {v : Value} {M : Mach} (h : MachAt B w v M) :
    ∃ a cap b off a2 cap2 b2 off2, v = .agg #[.slice a M.levers.length cap, .int .i64 M.water, .int .i64 M.lkLo, .int .i64 M.lkHi, .slice a2 M.bals.length cap2, .int .i64 M.wrong] ∧
      M.levers.length ≤ 9223372036854775807 ∧ M.bals.length ≤ 9223372036854775807 ∧ Hid (0 < M.levers.length → a = some ⟨b, off, none⟩ ∧ b < B) ∧
      Hid (∀ i, i < M.levers.length → Three w b (off + i * 3) (lnth M.levers i).long (lnth M.levers i).lo (lnth M.levers i).hi) ∧
      Hid (0 < M.bals.length → a2 = some ⟨b2, off2, none⟩ ∧ b2 < B) ∧
      Hid (∀ i, i < M.bals.length → Four w b2 (off2 + i * 4) (bnth M.bals i).weight (bnth M.bals i).minutes (bnth M.bals i).load (bnth M.bals i).off) ∧
      Hid (∀ i, i < M.levers.length → LI64 (lnth M.levers i)) ∧ Hid (∀ i, i < M.bals.length → BI64 (bnth M.bals i)) ∧ Hid (I64 M.water ∧ I64 M.lkLo ∧ I64 M.lkHi ∧ I64 M.wrong) := by
  obtain ⟨lv, bv, rfl, ⟨a, cap, b, off, rfl, hl, hm, ha, hc, hi⟩, ⟨a2, cap2, b2, off2, rfl, hl2, hm2, ha2, hc2, hi2⟩, hw⟩ := h
  unfold maxLen at hm hm2
  exact ⟨a, cap, b, off, a2, cap2, b2, off2, rfl, by omega, by omega, Lib.hid ha, Lib.hid hc, Lib.hid ha2, Lib.hid hc2, Lib.hid hi, Lib.hid hi2, Lib.hid hw⟩

end Go.Proofs.Ytomcjopcfdllgaa
