/-
  A law's body: the longer bar (P1.15).
-/
import Derived.Test.YtjflpmhlodgadaaEdit
import Derived.Deep.DeepCutAuto
import Derived.IntWalk
namespace Go.Proofs.Ytjflpmhlodgadaa
open Go.RowKit Go.Sort

theorem fewE_cases (S : Store) : (fewV S).2 = 0 ∨ (fewV S).2 = 3 := by rw [fewV_err]; exact errN_cases _
def barsE (S : Store) (B L : Int) : List Bar := if wB B 0 (S.bars.length - 1) = true then S.bars.set B.toNat ⟨(bnth S.bars B.toNat).heat, (bnth S.bars B.toNat).long + L⟩ else S.bars
def piecesE (S : Store) (P T : Int) : List Piece := if wB P 0 (S.pieces.length - 1) = true then S.pieces.set P.toNat ⟨(pnth S.pieces P.toNat).long - T, (pnth S.pieces P.toNat).heats⟩ else S.pieces
def longerS (S : Store) (B L K P T : Int) : Store := ⟨barsE S B L, S.kerf - K, piecesE S P T, S.wrong⟩
theorem longer_easier {S : Store} {B L K P T : Int} (hL : 0 ≤ L) (hK : 0 ≤ K) (hT : 0 ≤ T) : Easier S (longerS S B L K P T) := by
  have hb : ∀ i, i < S.bars.length → (bnth (barsE S B L) i).heat = (bnth S.bars i).heat ∧ (bnth S.bars i).long ≤ (bnth (barsE S B L) i).long := fun i hi => by
    unfold barsE
    split
    · rename_i h
      have hw := wB_iff.1 h
      by_cases e : B.toNat = i
      · subst e
        have : bnth (S.bars.set B.toNat ⟨(bnth S.bars B.toNat).heat, (bnth S.bars B.toNat).long + L⟩) B.toNat = ⟨(bnth S.bars B.toNat).heat, (bnth S.bars B.toNat).long + L⟩ := by simp [bnth, hi]
        rw [this]
        exact ⟨rfl, by simp only; omega⟩
      · have : bnth (S.bars.set B.toNat ⟨(bnth S.bars B.toNat).heat, (bnth S.bars B.toNat).long + L⟩) i = bnth S.bars i := by simp [bnth, List.getElem?_set_ne e]
        rw [this]
        exact ⟨rfl, Int.le_refl _⟩
    · exact ⟨rfl, Int.le_refl _⟩
  have hp : ∀ i, i < S.pieces.length → (pnth (piecesE S P T) i).heats = (pnth S.pieces i).heats ∧ (pnth (piecesE S P T) i).long ≤ (pnth S.pieces i).long := fun i hi => by
    unfold piecesE
    split
    · by_cases e : P.toNat = i
      · subst e
        rw [pnth_set_same hi]
        exact ⟨rfl, by simp only; omega⟩
      · rw [pnth_set_other e]
        exact ⟨rfl, Int.le_refl _⟩
    · exact ⟨rfl, Int.le_refl _⟩
  refine ⟨?_, ?_, fun i hi => (hb i hi).1, fun i hi => (hb i hi).2, fun i hi => (hp i hi).2, fun i hi => (hp i hi).1, by show S.kerf - K ≤ S.kerf; omega, Int.le_refl _⟩
  · show (barsE S B L).length = _; unfold barsE; split <;> simp
  · show (piecesE S P T).length = _; unfold piecesE; split <;> simp

def mn3 (x y z : Int) : Int := min (min x y) z
def mx3 (x y z : Int) : Int := max (max x y) z
theorem run_mn3 {P : Program} (w : World) (ts : Array TypeId) (t : TypeId) (x y z : Int) : (Builtin.min_ ts t #[.int .i64 x, .int .i64 y, .int .i64 z]).run P w = .ok (.int .i64 (mn3 x y z)) w := by
  have e : (if z < (if y < x then y else x) then z else (if y < x then y else x)) = mn3 x y z := by unfold mn3; split <;> split <;> omega
  simp [Builtin.min_, Builtin.min2, e]
theorem run_mx3 {P : Program} (w : World) (ts : Array TypeId) (t : TypeId) (x y z : Int) : (Builtin.max_ ts t #[.int .i64 x, .int .i64 y, .int .i64 z]).run P w = .ok (.int .i64 (mx3 x y z)) w := by
  have e : (if (if x < y then y else x) < z then z else (if x < y then y else x)) = mx3 x y z := by unfold mx3; split <;> split <;> omega
  simp [Builtin.max_, Builtin.max2, e]
attribute [local go_sem high] run_mn3 run_mx3

def ll6 : Op := Op.load 3 (Operand.tmp 62)
theorem lateL6 : Op.load 3 (Operand.tmp 62) = ll6 := rfl
theorem lateL6_out : ll6 = Op.load 3 (Operand.tmp 62) := rfl
def ll8 : Op := Op.load 3 (Operand.tmp 78)
theorem lateL8 : Op.load 3 (Operand.tmp 78) = ll8 := rfl
theorem lateL8_out : ll8 = Op.load 3 (Operand.tmp 78) := rfl
attribute [local go_sem] lateL6_out lateL8_out

theorem box5_of {w : World} {b : Nat} {v0 v1 v2 v3 v4 : Value} {t : TypeId} (e : w.heap[b]? = some (.cells #[v0, v1, v2, v3, v4] t)) :
    w.cell? ⟨b, 0, none⟩ = some v0 ∧ w.cell? ⟨b, 1, none⟩ = some v1 ∧ w.cell? ⟨b, 2, none⟩ = some v2 ∧ w.cell? ⟨b, 3, none⟩ = some v3 ∧ w.cell? ⟨b, 4, none⟩ = some v4 := by
  refine ⟨?_, ?_, ?_, ?_, ?_⟩ <;> simp [World.cell?, e]

set_option maxRecDepth 100000 in
set_option maxHeartbeats 16000000 in
theorem BarsLonger_any (v : Value) (S : Store) (B L K P T : Int) (w : World) (hx : StoreAt w.heap.size w v S) (hB : I64 B) (hP : I64 P) :
    Calls Try.prog 5 #[v, .agg #[.int .i64 B, .int .i64 L, .int .i64 K, .int .i64 P, .int .i64 T]] w fun e w' => e = .returned (.bool true) ∧ Below w.heap.size w w' := by
  have hx' := hx
  obtain ⟨a, cap1, b1, off, a2, cap2, b2, off2, rfl, hm, hm2, HA, HC, HA2, HC2⟩ := hx.opened
  obtain ⟨hB0, hB1⟩ := hB
  obtain ⟨hP0, hP1⟩ := hP
  have HWF := Lib.hid hx'.wf
  have hs := (Stat.first hx').alloc (.cells #[.int .i64 B, .int .i64 L, .int .i64 K, .int .i64 P, .int .i64 T] 64)
  have hy : ((w.alloc (.cells #[.slice a S.bars.length cap1, .int .i64 S.kerf, .slice a2 S.pieces.length cap2, .int .i64 S.wrong] 25)).alloc (.cells #[.int .i64 B, .int .i64 L, .int .i64 K, .int .i64 P, .int .i64 T] 64)).heap[w.heap.size + 1]? = some (.cells #[.int .i64 B, .int .i64 L, .int .i64 K, .int .i64 P, .int .i64 T] 64) := (heap_at2 w _ _).2
  obtain ⟨c0, c1, c2, c3⟩ := box4_of hs.blk
  obtain ⟨y0, y1, y2, y3, y4⟩ := box5_of hy
  have HS0 := Lib.hid hs
  have HY0 := Lib.hid hy
  clear hs hy hx hx' HA HC HA2 HC2
  cases hr : readyB S
  case false =>
    have HR := Lib.hid hr
    clear hr
    go_enter Try.func5, Try.ntmps5
    go_wp2_with fail
    refine (ready_to HR.out HS0.out.st).mono ?_
    rintro e w1 ⟨rfl, hb⟩
    have hy := (hb.block (w.heap.size + 1) (by simp)).trans HY0.out
    clear y0 y1 y2 y3 y4
    obtain ⟨y0, y1, y2, y3, y4⟩ := box5_of hy
    have HY1 := Lib.hid hy
    clear hy
    have hs := HS0.out.next hb
    clear hb c0 c1 c2 c3
    obtain ⟨c0, c1, c2, c3⟩ := box4_of hs.blk
    have HS1 := Lib.hid hs
    have hZ1 := hs.b.size
    clear hs
    go_wp2_with fail
    refine (works_any _).mono ?_
    rintro e w2 ⟨rfl, hb⟩
    have HB := Lib.hid (HS1.out.next hb).b
    clear hb
    go_wp2
    go_ret
    exact ⟨rfl, HB.out⟩
  obtain ⟨hV, hFew, hb4, hp5⟩ := readyB_few hr
  have HR := Lib.hid hr
  have HV := Lib.hid hV
  have HFEW := Lib.hid hFew
  obtain ⟨hk0, hk20⟩ := hV.kerf
  clear hr hV hFew
  by_cases hlo : 0 ≤ mn3 L K T
  case neg =>
    have hd1 : decide (mn3 L K T < 0) = true := decide_eq_true (by omega)
    clear hlo
    go_enter Try.func5, Try.ntmps5
    go_wp2_with fail
    refine (ready_to HR.out HS0.out.st).mono ?_
    rintro e w1 ⟨rfl, hb⟩
    have hy := (hb.block (w.heap.size + 1) (by simp)).trans HY0.out
    clear y0 y1 y2 y3 y4
    obtain ⟨y0, y1, y2, y3, y4⟩ := box5_of hy
    have HY1 := Lib.hid hy
    clear hy
    have hs := HS0.out.next hb
    clear hb c0 c1 c2 c3
    obtain ⟨c0, c1, c2, c3⟩ := box4_of hs.blk
    have HS1 := Lib.hid hs
    have hZ1 := hs.b.size
    clear hs
    go_wp2_with fail
    refine (works_any _).mono ?_
    rintro e w2 ⟨rfl, hb⟩
    have HB := Lib.hid (HS1.out.next hb).b
    clear hb
    go_wp2
    go_ret
    exact ⟨rfl, HB.out⟩
  have hd1 : decide (mn3 L K T < 0) = false := decide_eq_false (by omega)
  by_cases hhi : mx3 L K T ≤ 999
  case neg =>
    have hd2 : decide (999 < mx3 L K T) = true := decide_eq_true (by omega)
    clear hlo hhi
    go_enter Try.func5, Try.ntmps5
    go_wp2_with fail
    refine (ready_to HR.out HS0.out.st).mono ?_
    rintro e w1 ⟨rfl, hb⟩
    have hy := (hb.block (w.heap.size + 1) (by simp)).trans HY0.out
    clear y0 y1 y2 y3 y4
    obtain ⟨y0, y1, y2, y3, y4⟩ := box5_of hy
    have HY1 := Lib.hid hy
    clear hy
    have hs := HS0.out.next hb
    clear hb c0 c1 c2 c3
    obtain ⟨c0, c1, c2, c3⟩ := box4_of hs.blk
    have HS1 := Lib.hid hs
    have hZ1 := hs.b.size
    clear hs
    go_wp2_with fail
    refine (works_any _).mono ?_
    rintro e w2 ⟨rfl, hb⟩
    have HB := Lib.hid (HS1.out.next hb).b
    clear hb
    go_wp2
    go_ret
    exact ⟨rfl, HB.out⟩
  have hd2 : decide (999 < mx3 L K T) = false := decide_eq_false (by omega)
  have hL0 : 0 ≤ L := by unfold mn3 at hlo; omega
  have hL9 : L ≤ 999 := by unfold mx3 at hhi; omega
  have hK0 : 0 ≤ K := by unfold mn3 at hlo; omega
  have hK9 : K ≤ 999 := by unfold mx3 at hhi; omega
  have hT0 : 0 ≤ T := by unfold mn3 at hlo; omega
  have hT9 : T ≤ 999 := by unfold mx3 at hhi; omega
  have HEASY := Lib.hid (longer_easier (S := S) (B := B) (P := P) hL0 hK0 hT0)
  clear hlo hhi
  go_enter Try.func5, Try.ntmps5
  go_wp2_with fail
  refine (ready_to HR.out HS0.out.st).mono ?_
  rintro e w1 ⟨rfl, hb⟩
  have hy := (hb.block (w.heap.size + 1) (by simp)).trans HY0.out
  clear y0 y1 y2 y3 y4
  obtain ⟨y0, y1, y2, y3, y4⟩ := box5_of hy
  have HY1 := Lib.hid hy
  clear hy
  have hs := HS0.out.next hb
  clear hb c0 c1 c2 c3
  obtain ⟨c0, c1, c2, c3⟩ := box4_of hs.blk
  have HS1 := Lib.hid hs
  have hZ1 := hs.b.size
  clear hs
  have HYS := Lib.hid (show w.heap.size + 1 < w1.heap.size from (Array.getElem?_eq_some_iff.1 HY1.out).1)
  go_wp2_with fail
  refine (Copy_any _ S _ HS1.out.st HFEW.out).mono ?_
  rintro e w2 ⟨u, rfl, hcp, hb⟩
  have hy := (hb.block (w.heap.size + 1) HYS.out).trans HY1.out
  clear y0 y1 y2 y3 y4
  obtain ⟨y0, y1, y2, y3, y4⟩ := box5_of hy
  have HY2 := Lib.hid hy
  clear hy
  obtain ⟨bv, pv, hs, rfl, h1, h2, h3, h4, h5, h6, h7⟩ := hcp
  obtain ⟨bA, bcap, rfl, _⟩ := own_form h1
  obtain ⟨pA, pcap, rfl, _⟩ := own_form h2
  have HE2 := Lib.hid (Ed.first (CopyAt.of_parts (S := ⟨S.bars, S.kerf - K, S.pieces, S.wrong⟩) h1 h2 h3 ⟨h4, h5, ⟨by show _ ≤ S.kerf - K; omega, by show S.kerf - K ≤ _; omega⟩, h7⟩) hb)
  have H1 := Lib.hid h1
  have H2 := Lib.hid h2
  clear h1 h2 h3 h4 h5 h6 h7
  have hs := HS1.out.next hb
  clear hb c0 c1 c2 c3
  obtain ⟨c0, c1, c2, c3⟩ := box4_of hs.blk
  have HS2 := Lib.hid hs
  have hZ2 := hs.b.size
  clear hs
  have hz12 := HE2.out.l
  have hYl : w.heap.size + 1 < w2.heap.size := by have := HYS.out; omega
  have hZl : w.heap.size < w2.heap.size := by omega
  have hm' : (S.bars.length : Int) ≤ 6 := by omega
  have hY3 := Lib.hid (show (w2.alloc (.cells #[.slice bA S.bars.length bcap, .int .i64 (S.kerf - K), .slice pA S.pieces.length pcap, .int .i64 S.wrong] 25)).heap[w.heap.size + 1]? = some (.cells #[.int .i64 B, .int .i64 L, .int .i64 K, .int .i64 P, .int .i64 T] 64) from (Below.heap_alloc _ _ _ hYl).trans HY2.out)
  go_upto_if 56 with (go_at_call 37; refine (rwithin_any _ _ _ _).mono ?_; rintro e w' ⟨rfl, rfl⟩)
  generalize hW : w2.alloc (.cells #[.slice bA S.bars.length bcap, .int .i64 (S.kerf - K), .slice pA S.pieces.length pcap, .int .i64 S.wrong] 25) = W at HE2 hY3 ⊢
  clear hW c0 c1 c2 c3 y0 y1 y2 y3 y4
  obtain ⟨y0, y1, y2, y3, y4⟩ := box5_of hY3.out
  obtain ⟨⟨o0, o1, o2, o3⟩, _⟩ := box4f_of HE2.out.o
  go_cut [] (fun wx => Hid (Ed w1 wx w2.heap.size ⟨barsE S B L, S.kerf - K, S.pieces, S.wrong⟩ (.slice bA S.bars.length bcap) (.slice pA S.pieces.length pcap)))
  case first =>
    cases hin : wB B 0 ((S.bars.length : Int) - 1)
    case false =>
      have HE3 := Lib.hid (show Ed w1 W w2.heap.size ⟨barsE S B L, S.kerf - K, S.pieces, S.wrong⟩ (.slice bA S.bars.length bcap) (.slice pA S.pieces.length pcap) from by
        rw [barsE, hin]; exact HE2.out)
      clear hin
      go_wp2_with fail
      go_meet
      exact HE3
    case true =>
      obtain ⟨hin0, hin1⟩ := wB_iff.1 hin
      obtain ⟨i, rfl⟩ := Int.eq_ofNat_of_zero_le hin0
      have hib : i < S.bars.length := by omega
      have hib0 : (0 : Int) ≤ (i : Int) := by omega
      have hib1 : (i : Int) < (S.bars.length : Int) := by omega
      obtain ⟨g, cap, hbv, _, d1, ff, hgo, hgl, _⟩ := HE2.out.bar (i := i) hib
      have hset := (HE2.out.next ((Below.refl _ _).drew)).bar (i := i) hib
      injection hbv with hbv _ _
      subst hbv
      obtain ⟨g', cap', hbv, _, _, _, _, _, hset⟩ := hset
      injection hbv with hbv _ _
      injection hbv with hbv
      injection hbv with hbv _ _
      subst hbv
      have f1 := ff (i * 2 + 1)
      obtain ⟨hb1, hb9⟩ := HV.out.blong i hib
      have hwr : IntKind.i64.wrap ((bnth S.bars i).long + L) = (bnth S.bars i).long + L := IntWalk.i64_in _ (by omega)
      have HSET := Lib.hid (hset ((bnth S.bars i).long + L) ⟨by omega, by omega⟩)
      have HBE := Lib.hid (show barsE S i L = S.bars.set i ⟨(bnth S.bars i).heat, (bnth S.bars i).long + L⟩ from by rw [barsE, hin, if_pos rfl]; rfl)
      have hgy : g ≠ w.heap.size + 1 := by have := HYS.out; omega
      clear hin hin0 hin1 hset ff
      go_wp2_with fail
      rw [lateL6]
      go_region_held3 (fun w' => w'.cell? ⟨w2.heap.size, 0, none⟩ = some (.slice (some ⟨g, 0, none⟩) S.bars.length bcap) ∧ w'.cell? ⟨w.heap.size + 1, 0, none⟩ = some (.int .i64 (i : Int)) ∧ w'.cell? ⟨w.heap.size + 1, 1, none⟩ = some (.int .i64 L))
        (first
          | exact ⟨o0, y0, y1⟩
          | (go_split_ands; exact ⟨‹_›, ‹_›, ‹_›⟩)
          | exact ⟨(World.cell?_setCell_far _ _ ⟨w2.heap.size, 0, none⟩ _ hgo).trans o0, (World.cell?_setCell_far _ _ ⟨w.heap.size + 1, 0, none⟩ _ hgy).trans y0, (World.cell?_setCell_far _ _ ⟨w.heap.size + 1, 1, none⟩ _ hgy).trans y1⟩)
        (fail)
      go_wp2_with fail
      go_meet
      rw [HBE.out]
      exact HSET
  case rest =>
    have HYW : ∀ W', Below w1.heap.size w1 W' → W'.heap[w.heap.size + 1]? = some (.cells #[.int .i64 B, .int .i64 L, .int .i64 K, .int .i64 P, .int .i64 T] 64) := fun W' h => (h.block _ HYS.out).trans HY1.out
    have HYW := Lib.hid HYW
    have hs := HS1.out.next hcut.out.b
    have hyx := HYW.out _ hcut.out.b
    clear y0 y1 y2 y3 y4 o0 o1 o2 o3
    obtain ⟨c0, c1, c2, c3⟩ := box4_of hs.blk
    obtain ⟨y0, y1, y2, y3, y4⟩ := box5_of hyx
    have HSX := Lib.hid hs
    have HEX := Lib.hid hcut.out
    clear hs hyx hcut
    go_wp2_with fail
    refine (rIsPiece_any _ S P _ HSX.out.st).mono ?_
    rintro e w5 ⟨rfl, hb⟩
    have he := HEX.out.next hb
    have hs := HSX.out.next hb
    have hyx := HYW.out _ he.b
    clear y0 y1 y2 y3 y4 c0 c1 c2 c3 hb
    obtain ⟨y0, y1, y2, y3, y4⟩ := box5_of hyx
    obtain ⟨⟨o0, o1, o2, o3⟩, _⟩ := box4f_of he.o
    have HE5 := Lib.hid he
    clear he hs hyx
    go_upto_if 72 with fail
    go_cut [] (fun wx => Hid (Ed w1 wx w2.heap.size (longerS S B L K P T) (.slice bA S.bars.length bcap) (.slice pA S.pieces.length pcap)))
    case first =>
      cases hin : wB P 0 ((S.pieces.length : Int) - 1)
      case false =>
        have HE6 := Lib.hid (show Ed w1 w5 w2.heap.size (longerS S B L K P T) (.slice bA S.bars.length bcap) (.slice pA S.pieces.length pcap) from by
          rw [longerS, piecesE, hin]; exact HE5.out)
        clear hin
        go_wp2_with fail
        go_meet
        exact HE6
      case true =>
        obtain ⟨hin0, hin1⟩ := wB_iff.1 hin
        obtain ⟨i, rfl⟩ := Int.eq_ofNat_of_zero_le hin0
        have hib : i < S.pieces.length := by omega
        have hib0 : (0 : Int) ≤ (i : Int) := by omega
        have hib1 : (i : Int) < (S.pieces.length : Int) := by omega
        obtain ⟨g, cap, hbv, d1, _, ff, hgo, hgl, _, _⟩ := HE5.out.piece (i := i) hib
        have hset := (HE5.out.next ((Below.refl _ _).drew)).piece (i := i) hib
        injection hbv with hbv _ _
        subst hbv
        obtain ⟨g', cap', hbv, _, _, _, _, _, _, hset⟩ := hset
        injection hbv with hbv _ _
        injection hbv with hbv
        injection hbv with hbv _ _
        subst hbv
        have f1 := ff (i * 2)
        obtain ⟨hb1, hb9⟩ := HV.out.plong i hib
        have hwr : IntKind.i64.wrap ((pnth S.pieces i).long - T) = (pnth S.pieces i).long - T := IntWalk.i64_in _ (by omega)
        have HSET := Lib.hid (hset ((pnth S.pieces i).long - T) ⟨by omega, by omega⟩)
        have HBE := Lib.hid (show piecesE S i T = S.pieces.set i ⟨(pnth S.pieces i).long - T, (pnth S.pieces i).heats⟩ from by rw [piecesE, hin, if_pos rfl]; rfl)
        have hgy : g ≠ w.heap.size + 1 := by have := HYS.out; omega
        clear hin hin0 hin1 hset ff
        go_wp2_with fail
        rw [lateL8]
        go_region_held3 (fun w' => w'.cell? ⟨w2.heap.size, 2, none⟩ = some (.slice (some ⟨g, 0, none⟩) S.pieces.length pcap) ∧ w'.cell? ⟨w.heap.size + 1, 3, none⟩ = some (.int .i64 (i : Int)) ∧ w'.cell? ⟨w.heap.size + 1, 4, none⟩ = some (.int .i64 T))
          (first
            | exact ⟨o2, y3, y4⟩
            | (go_split_ands; exact ⟨‹_›, ‹_›, ‹_›⟩)
            | exact ⟨(World.cell?_setCell_far _ _ ⟨w2.heap.size, 2, none⟩ _ hgo).trans o2, (World.cell?_setCell_far _ _ ⟨w.heap.size + 1, 3, none⟩ _ hgy).trans y3, (World.cell?_setCell_far _ _ ⟨w.heap.size + 1, 4, none⟩ _ hgy).trans y4⟩)
          (fail)
        go_wp2_with fail
        go_meet
        rw [longerS, HBE.out]
        exact HSET
    case rest =>
      have ho := hcut.out.stat HS1.out.b
      have hs := HS1.out.next hcut.out.b
      clear y0 y1 y2 y3 y4 o0 o1 o2 o3 hcut
      obtain ⟨O, hO⟩ : ∃ O, O = longerS S B L K P T := ⟨_, rfl⟩
      have hok : (Value.int .i64 (longerS S B L K P T).kerf) = .int .i64 O.kerf := by rw [hO]
      have how : (Value.int .i64 (longerS S B L K P T).wrong) = .int .i64 O.wrong := by rw [hO]
      rw [← hO, hok.symm.trans hok] at ho
      have HEAS := Lib.hid (show Easier S O from by rw [hO]; exact HEASY.out)
      clear hO hok how HEASY
      obtain ⟨c0, c1, c2, c3⟩ := box4_of hs.blk
      obtain ⟨o0, o1, o2, o3⟩ := box4_of ho.blk
      have HS5 := Lib.hid hs
      have HO5 := Lib.hid ho
      clear hs ho
      go_wp2_with fail
      cases hro : readyB O
      case false =>
        refine (ready_to hro HO5.out.st).mono ?_
        rintro e w6 ⟨rfl, hb⟩
        have hs := HS5.out.next hb
        have ho := HO5.out.next hb
        clear hb c0 c1 c2 c3 o0 o1 o2 o3
        obtain ⟨c0, c1, c2, c3⟩ := box4_of hs.blk
        have HS6 := Lib.hid hs
        have hZ6 := hs.b.size
        clear hs
        obtain ⟨o0, o1, o2, o3⟩ := box4_of ho.blk
        have HO6 := Lib.hid ho
        clear ho
        clear hro
        go_wp2_with (first | (go_at_call 34; refine (isKnown_same (by first | exact .inl rfl | exact .inr rfl | exact errN_cases _ | exact fewE_cases _) _).mono ?_; rintro e wk ⟨rfl, rfl⟩) | (go_at_call 15; refine (works_any _).mono ?_; rintro e wz ⟨rfl, hb⟩; have HB := Lib.hid (HS6.out.next hb).b; clear hb))
        go_ret
        exact ⟨rfl, HB.out⟩
      have HVO := Lib.hid (readyB_few hro).1
      refine (ready_to hro HO5.out.st).mono ?_
      rintro e w6 ⟨rfl, hb⟩
      have hs := HS5.out.next hb
      have ho := HO5.out.next hb
      clear hb c0 c1 c2 c3 o0 o1 o2 o3
      obtain ⟨c0, c1, c2, c3⟩ := box4_of hs.blk
      have HS6 := Lib.hid hs
      have hZ6 := hs.b.size
      clear hs
      obtain ⟨o0, o1, o2, o3⟩ := box4_of ho.blk
      have HO6 := Lib.hid ho
      clear ho
      clear hro
      by_cases h0 : (truthsL S).length = 0
      all_goals by_cases k0 : (fitL S).length = 0
      · have HZ := Lib.hid (show errN (truthsL S).length = 3 from by rw [h0]; rfl)
        have HF := Lib.hid (fewV_none k0)
        clear h0 k0
        go_wp2_with fail
        refine (Many_any _ _ _ HS6.out.st HV.out).mono ?_
        rintro e w7 ⟨rfl, hb⟩
        rw [HZ.out]
        have hs := HS6.out.next hb
        have ho := HO6.out.next hb
        clear hb c0 c1 c2 c3 o0 o1 o2 o3
        obtain ⟨c0, c1, c2, c3⟩ := box4_of hs.blk
        have HS7 := Lib.hid hs
        have hZ7 := hs.b.size
        clear hs
        obtain ⟨o0, o1, o2, o3⟩ := box4_of ho.blk
        have HO7 := Lib.hid ho
        clear ho
        go_wp2_with fail
        refine (Many_any _ _ _ HO7.out.st HVO.out).mono ?_
        rintro e w8 ⟨rfl, hb⟩
        have hs := HS7.out.next hb
        have ho := HO7.out.next hb
        clear hb c0 c1 c2 c3 o0 o1 o2 o3
        obtain ⟨c0, c1, c2, c3⟩ := box4_of hs.blk
        have HS8 := Lib.hid hs
        have hZ8 := hs.b.size
        clear hs
        obtain ⟨o0, o1, o2, o3⟩ := box4_of ho.blk
        have HO8 := Lib.hid ho
        clear ho
        go_wp2_with fail
        refine (Fewest_any _ _ _ HS8.out.st HV.out).mono ?_
        rintro e w9 ⟨rfl, hb⟩
        rw [HF.out]
        have hs := HS8.out.next hb
        have ho := HO8.out.next hb
        clear hb c0 c1 c2 c3 o0 o1 o2 o3
        obtain ⟨c0, c1, c2, c3⟩ := box4_of hs.blk
        have HS9 := Lib.hid hs
        have hZ9 := hs.b.size
        clear hs
        obtain ⟨o0, o1, o2, o3⟩ := box4_of ho.blk
        have HO9 := Lib.hid ho
        clear ho
        go_wp2_with fail
        refine (Fewest_any _ _ _ HO9.out.st HVO.out).mono ?_
        rintro e w10 ⟨rfl, hb⟩
        have hs := HS9.out.next hb
        have ho := HO9.out.next hb
        clear hb c0 c1 c2 c3 o0 o1 o2 o3
        obtain ⟨c0, c1, c2, c3⟩ := box4_of hs.blk
        have HS10 := Lib.hid hs
        have hZ10 := hs.b.size
        clear hs
        obtain ⟨o0, o1, o2, o3⟩ := box4_of ho.blk
        have HO10 := Lib.hid ho
        clear ho
        go_wp2_with fail
        refine (Least_any _ _ _ HS10.out.st HV.out).mono ?_
        rintro e w11 ⟨rfl, hb⟩
        rw [HZ.out]
        have hs := HS10.out.next hb
        have ho := HO10.out.next hb
        clear hb c0 c1 c2 c3 o0 o1 o2 o3
        obtain ⟨c0, c1, c2, c3⟩ := box4_of hs.blk
        have HS11 := Lib.hid hs
        have hZ11 := hs.b.size
        clear hs
        obtain ⟨o0, o1, o2, o3⟩ := box4_of ho.blk
        have HO11 := Lib.hid ho
        clear ho
        go_wp2_with fail
        refine (Least_any _ _ _ HO11.out.st HVO.out).mono ?_
        rintro e w12 ⟨rfl, hb⟩
        have hs := HS11.out.next hb
        have ho := HO11.out.next hb
        clear hb c0 c1 c2 c3 o0 o1 o2 o3
        obtain ⟨c0, c1, c2, c3⟩ := box4_of hs.blk
        have HS12 := Lib.hid hs
        have hZ12 := hs.b.size
        clear hs
        obtain ⟨o0, o1, o2, o3⟩ := box4_of ho.blk
        have HO12 := Lib.hid ho
        clear ho
        go_wp2_with (first | (go_at_call 34; refine (isKnown_same (by first | exact .inl rfl | exact .inr rfl | exact errN_cases _ | exact fewE_cases _) _).mono ?_; rintro e wk ⟨rfl, rfl⟩) | (go_at_call 15; refine (works_any _).mono ?_; rintro e wz ⟨rfl, hb⟩; have HB := Lib.hid (HS12.out.next hb).b; clear hb))
        go_ret
        exact ⟨rfl, HB.out⟩
      · have HZ := Lib.hid (show errN (truthsL S).length = 3 from by rw [h0]; rfl)
        obtain ⟨u1, u2, u3⟩ := HEAS.out.few HV.out HVO.out k0
        have HF1 := Lib.hid u1
        have HF2 := Lib.hid u2
        clear u1 u2
        clear h0 k0
        go_wp2_with fail
        refine (Many_any _ _ _ HS6.out.st HV.out).mono ?_
        rintro e w7 ⟨rfl, hb⟩
        rw [HZ.out]
        have hs := HS6.out.next hb
        have ho := HO6.out.next hb
        clear hb c0 c1 c2 c3 o0 o1 o2 o3
        obtain ⟨c0, c1, c2, c3⟩ := box4_of hs.blk
        have HS7 := Lib.hid hs
        have hZ7 := hs.b.size
        clear hs
        obtain ⟨o0, o1, o2, o3⟩ := box4_of ho.blk
        have HO7 := Lib.hid ho
        clear ho
        go_wp2_with fail
        refine (Many_any _ _ _ HO7.out.st HVO.out).mono ?_
        rintro e w8 ⟨rfl, hb⟩
        have hs := HS7.out.next hb
        have ho := HO7.out.next hb
        clear hb c0 c1 c2 c3 o0 o1 o2 o3
        obtain ⟨c0, c1, c2, c3⟩ := box4_of hs.blk
        have HS8 := Lib.hid hs
        have hZ8 := hs.b.size
        clear hs
        obtain ⟨o0, o1, o2, o3⟩ := box4_of ho.blk
        have HO8 := Lib.hid ho
        clear ho
        go_wp2_with fail
        refine (Fewest_any _ _ _ HS8.out.st HV.out).mono ?_
        rintro e w9 ⟨rfl, hb⟩
        rw [HF1.out]
        have hs := HS8.out.next hb
        have ho := HO8.out.next hb
        clear hb c0 c1 c2 c3 o0 o1 o2 o3
        obtain ⟨c0, c1, c2, c3⟩ := box4_of hs.blk
        have HS9 := Lib.hid hs
        have hZ9 := hs.b.size
        clear hs
        obtain ⟨o0, o1, o2, o3⟩ := box4_of ho.blk
        have HO9 := Lib.hid ho
        clear ho
        go_wp2_with fail
        refine (Fewest_any _ _ _ HO9.out.st HVO.out).mono ?_
        rintro e w10 ⟨rfl, hb⟩
        rw [HF2.out]
        have hs := HS9.out.next hb
        have ho := HO9.out.next hb
        clear hb c0 c1 c2 c3 o0 o1 o2 o3
        obtain ⟨c0, c1, c2, c3⟩ := box4_of hs.blk
        have HS10 := Lib.hid hs
        have hZ10 := hs.b.size
        clear hs
        obtain ⟨o0, o1, o2, o3⟩ := box4_of ho.blk
        have HO10 := Lib.hid ho
        clear ho
        go_wp2_with fail
        refine (Least_any _ _ _ HS10.out.st HV.out).mono ?_
        rintro e w11 ⟨rfl, hb⟩
        rw [HZ.out]
        have hs := HS10.out.next hb
        have ho := HO10.out.next hb
        clear hb c0 c1 c2 c3 o0 o1 o2 o3
        obtain ⟨c0, c1, c2, c3⟩ := box4_of hs.blk
        have HS11 := Lib.hid hs
        have hZ11 := hs.b.size
        clear hs
        obtain ⟨o0, o1, o2, o3⟩ := box4_of ho.blk
        have HO11 := Lib.hid ho
        clear ho
        go_wp2_with fail
        refine (Least_any _ _ _ HO11.out.st HVO.out).mono ?_
        rintro e w12 ⟨rfl, hb⟩
        have hs := HS11.out.next hb
        have ho := HO11.out.next hb
        clear hb c0 c1 c2 c3 o0 o1 o2 o3
        obtain ⟨c0, c1, c2, c3⟩ := box4_of hs.blk
        have HS12 := Lib.hid hs
        have hZ12 := hs.b.size
        clear hs
        obtain ⟨o0, o1, o2, o3⟩ := box4_of ho.blk
        have HO12 := Lib.hid ho
        clear ho
        go_wp2_with (first | (go_at_call 34; refine (isKnown_same (by first | exact .inl rfl | exact .inr rfl | exact errN_cases _ | exact fewE_cases _) _).mono ?_; rintro e wk ⟨rfl, rfl⟩) | (go_at_call 15; refine (works_any _).mono ?_; rintro e wz ⟨rfl, hb⟩; have HB := Lib.hid (HS12.out.next hb).b; clear hb))
        go_ret
        exact ⟨rfl, HB.out⟩
      · obtain ⟨t1, t2⟩ := HEAS.out.least HV.out HVO.out h0
        have HZ := Lib.hid (show errN (truthsL S).length = 0 from errN_pos h0)
        have HZO := Lib.hid (show errN (truthsL O).length = 0 from errN_pos t1)
        have hge := HEAS.out.many HV.out HVO.out
        obtain ⟨Ma, hMa⟩ : ∃ M, (truthsL S).length = M := ⟨_, rfl⟩
        obtain ⟨Mb, hMb⟩ : ∃ M, (truthsL O).length = M := ⟨_, rfl⟩
        rw [hMa, hMb] at hge
        have HMa := Lib.hid hMa
        have HMb := Lib.hid hMb
        clear t1 hMa hMb
        have HF := Lib.hid (fewV_none k0)
        clear h0 k0
        go_wp2_with fail
        refine (Many_any _ _ _ HS6.out.st HV.out).mono ?_
        rintro e w7 ⟨rfl, hb⟩
        rw [HZ.out, HMa.out]
        have hs := HS6.out.next hb
        have ho := HO6.out.next hb
        clear hb c0 c1 c2 c3 o0 o1 o2 o3
        obtain ⟨c0, c1, c2, c3⟩ := box4_of hs.blk
        have HS7 := Lib.hid hs
        have hZ7 := hs.b.size
        clear hs
        obtain ⟨o0, o1, o2, o3⟩ := box4_of ho.blk
        have HO7 := Lib.hid ho
        clear ho
        go_wp2_with fail
        refine (Many_any _ _ _ HO7.out.st HVO.out).mono ?_
        rintro e w8 ⟨rfl, hb⟩
        rw [HZO.out, HMb.out]
        have hs := HS7.out.next hb
        have ho := HO7.out.next hb
        clear hb c0 c1 c2 c3 o0 o1 o2 o3
        obtain ⟨c0, c1, c2, c3⟩ := box4_of hs.blk
        have HS8 := Lib.hid hs
        have hZ8 := hs.b.size
        clear hs
        obtain ⟨o0, o1, o2, o3⟩ := box4_of ho.blk
        have HO8 := Lib.hid ho
        clear ho
        go_wp2_with fail
        refine (Fewest_any _ _ _ HS8.out.st HV.out).mono ?_
        rintro e w9 ⟨rfl, hb⟩
        rw [HF.out]
        have hs := HS8.out.next hb
        have ho := HO8.out.next hb
        clear hb c0 c1 c2 c3 o0 o1 o2 o3
        obtain ⟨c0, c1, c2, c3⟩ := box4_of hs.blk
        have HS9 := Lib.hid hs
        have hZ9 := hs.b.size
        clear hs
        obtain ⟨o0, o1, o2, o3⟩ := box4_of ho.blk
        have HO9 := Lib.hid ho
        clear ho
        go_wp2_with fail
        refine (Fewest_any _ _ _ HO9.out.st HVO.out).mono ?_
        rintro e w10 ⟨rfl, hb⟩
        have hs := HS9.out.next hb
        have ho := HO9.out.next hb
        clear hb c0 c1 c2 c3 o0 o1 o2 o3
        obtain ⟨c0, c1, c2, c3⟩ := box4_of hs.blk
        have HS10 := Lib.hid hs
        have hZ10 := hs.b.size
        clear hs
        obtain ⟨o0, o1, o2, o3⟩ := box4_of ho.blk
        have HO10 := Lib.hid ho
        clear ho
        go_wp2_with fail
        refine (Least_any _ _ _ HS10.out.st HV.out).mono ?_
        rintro e w11 ⟨rfl, hb⟩
        rw [HZ.out]
        have hs := HS10.out.next hb
        have ho := HO10.out.next hb
        clear hb c0 c1 c2 c3 o0 o1 o2 o3
        obtain ⟨c0, c1, c2, c3⟩ := box4_of hs.blk
        have HS11 := Lib.hid hs
        have hZ11 := hs.b.size
        clear hs
        obtain ⟨o0, o1, o2, o3⟩ := box4_of ho.blk
        have HO11 := Lib.hid ho
        clear ho
        go_wp2_with fail
        refine (Least_any _ _ _ HO11.out.st HVO.out).mono ?_
        rintro e w12 ⟨rfl, hb⟩
        rw [HZO.out]
        have hs := HS11.out.next hb
        have ho := HO11.out.next hb
        clear hb c0 c1 c2 c3 o0 o1 o2 o3
        obtain ⟨c0, c1, c2, c3⟩ := box4_of hs.blk
        have HS12 := Lib.hid hs
        have hZ12 := hs.b.size
        clear hs
        obtain ⟨o0, o1, o2, o3⟩ := box4_of ho.blk
        have HO12 := Lib.hid ho
        clear ho
        go_wp2_with (first | (go_at_call 34; refine (isKnown_same (by first | exact .inl rfl | exact .inr rfl | exact errN_cases _ | exact fewE_cases _) _).mono ?_; rintro e wk ⟨rfl, rfl⟩) | (go_at_call 15; refine (works_any _).mono ?_; rintro e wz ⟨rfl, hb⟩; have HB := Lib.hid (HS12.out.next hb).b; clear hb))
        go_ret
        exact ⟨rfl, HB.out⟩
      · obtain ⟨t1, t2⟩ := HEAS.out.least HV.out HVO.out h0
        have HZ := Lib.hid (show errN (truthsL S).length = 0 from errN_pos h0)
        have HZO := Lib.hid (show errN (truthsL O).length = 0 from errN_pos t1)
        have hge := HEAS.out.many HV.out HVO.out
        obtain ⟨Ma, hMa⟩ : ∃ M, (truthsL S).length = M := ⟨_, rfl⟩
        obtain ⟨Mb, hMb⟩ : ∃ M, (truthsL O).length = M := ⟨_, rfl⟩
        rw [hMa, hMb] at hge
        have HMa := Lib.hid hMa
        have HMb := Lib.hid hMb
        clear t1 hMa hMb
        obtain ⟨u1, u2, u3⟩ := HEAS.out.few HV.out HVO.out k0
        have HF1 := Lib.hid u1
        have HF2 := Lib.hid u2
        clear u1 u2
        clear h0 k0
        go_wp2_with fail
        refine (Many_any _ _ _ HS6.out.st HV.out).mono ?_
        rintro e w7 ⟨rfl, hb⟩
        rw [HZ.out, HMa.out]
        have hs := HS6.out.next hb
        have ho := HO6.out.next hb
        clear hb c0 c1 c2 c3 o0 o1 o2 o3
        obtain ⟨c0, c1, c2, c3⟩ := box4_of hs.blk
        have HS7 := Lib.hid hs
        have hZ7 := hs.b.size
        clear hs
        obtain ⟨o0, o1, o2, o3⟩ := box4_of ho.blk
        have HO7 := Lib.hid ho
        clear ho
        go_wp2_with fail
        refine (Many_any _ _ _ HO7.out.st HVO.out).mono ?_
        rintro e w8 ⟨rfl, hb⟩
        rw [HZO.out, HMb.out]
        have hs := HS7.out.next hb
        have ho := HO7.out.next hb
        clear hb c0 c1 c2 c3 o0 o1 o2 o3
        obtain ⟨c0, c1, c2, c3⟩ := box4_of hs.blk
        have HS8 := Lib.hid hs
        have hZ8 := hs.b.size
        clear hs
        obtain ⟨o0, o1, o2, o3⟩ := box4_of ho.blk
        have HO8 := Lib.hid ho
        clear ho
        go_wp2_with fail
        refine (Fewest_any _ _ _ HS8.out.st HV.out).mono ?_
        rintro e w9 ⟨rfl, hb⟩
        rw [HF1.out]
        have hs := HS8.out.next hb
        have ho := HO8.out.next hb
        clear hb c0 c1 c2 c3 o0 o1 o2 o3
        obtain ⟨c0, c1, c2, c3⟩ := box4_of hs.blk
        have HS9 := Lib.hid hs
        have hZ9 := hs.b.size
        clear hs
        obtain ⟨o0, o1, o2, o3⟩ := box4_of ho.blk
        have HO9 := Lib.hid ho
        clear ho
        go_wp2_with fail
        refine (Fewest_any _ _ _ HO9.out.st HVO.out).mono ?_
        rintro e w10 ⟨rfl, hb⟩
        rw [HF2.out]
        have hs := HS9.out.next hb
        have ho := HO9.out.next hb
        clear hb c0 c1 c2 c3 o0 o1 o2 o3
        obtain ⟨c0, c1, c2, c3⟩ := box4_of hs.blk
        have HS10 := Lib.hid hs
        have hZ10 := hs.b.size
        clear hs
        obtain ⟨o0, o1, o2, o3⟩ := box4_of ho.blk
        have HO10 := Lib.hid ho
        clear ho
        go_wp2_with fail
        refine (Least_any _ _ _ HS10.out.st HV.out).mono ?_
        rintro e w11 ⟨rfl, hb⟩
        rw [HZ.out]
        have hs := HS10.out.next hb
        have ho := HO10.out.next hb
        clear hb c0 c1 c2 c3 o0 o1 o2 o3
        obtain ⟨c0, c1, c2, c3⟩ := box4_of hs.blk
        have HS11 := Lib.hid hs
        have hZ11 := hs.b.size
        clear hs
        obtain ⟨o0, o1, o2, o3⟩ := box4_of ho.blk
        have HO11 := Lib.hid ho
        clear ho
        go_wp2_with fail
        refine (Least_any _ _ _ HO11.out.st HVO.out).mono ?_
        rintro e w12 ⟨rfl, hb⟩
        rw [HZO.out]
        have hs := HS11.out.next hb
        have ho := HO11.out.next hb
        clear hb c0 c1 c2 c3 o0 o1 o2 o3
        obtain ⟨c0, c1, c2, c3⟩ := box4_of hs.blk
        have HS12 := Lib.hid hs
        have hZ12 := hs.b.size
        clear hs
        obtain ⟨o0, o1, o2, o3⟩ := box4_of ho.blk
        have HO12 := Lib.hid ho
        clear ho
        go_wp2_with (first | (go_at_call 34; refine (isKnown_same (by first | exact .inl rfl | exact .inr rfl | exact errN_cases _ | exact fewE_cases _) _).mono ?_; rintro e wk ⟨rfl, rfl⟩) | (go_at_call 15; refine (works_any _).mono ?_; rintro e wz ⟨rfl, hb⟩; have HB := Lib.hid (HS12.out.next hb).b; clear hb))
        go_ret
        exact ⟨rfl, HB.out⟩
end Go.Proofs.Ytjflpmhlodgadaa
