/-
  A law's body: a piece that is cut in two (P1.17).
-/
import Derived.Test.YtjflpmhlodgadaaEdit
import Derived.Test.YtjflpmhlodgadaaRoomLaw
import Derived.Deep.DeepCutAuto
import Derived.IntWalk
namespace Go.Proofs.Ytjflpmhlodgadaa
open Go.RowKit Go.Sort

/-- A block that stays as it is. -/
def Blk1 (b : Nat) (o : Obj) (W : World) : Prop := W.heap[b]? = some o ∧ b < W.heap.size
theorem Blk1.next {b : Nat} {o : Obj} {W W' : World} (h : Blk1 b o W) (hb : Below W.heap.size W W') : Blk1 b o W' := ⟨(hb.block b h.2).trans h.1, Nat.lt_of_lt_of_le h.2 hb.size⟩

def tl7 : Op := Op.load 23 (Operand.tmp 65)
theorem lateT7 : Op.load 23 (Operand.tmp 65) = tl7 := rfl
theorem lateT7_out : tl7 = Op.load 23 (Operand.tmp 65) := rfl
attribute [local go_sem] lateT7_out
attribute [local go_sem ↓] Go.wp_at_zero Go.wp_at_succ

set_option maxRecDepth 100000 in
set_option maxHeartbeats 16000000 in
theorem BarsTwo_any (v : Value) (S : Store) (P L : Int) (w : World) (hx : StoreAt w.heap.size w v S) :
    Calls Try.prog 7 #[v, .agg #[.int .i64 P, .int .i64 L]] w fun e w' => e = .returned (.bool true) ∧ Below w.heap.size w w' := by
  have hx' := hx
  obtain ⟨a, cap1, b1, off, a2, cap2, b2, off2, rfl, hm, hm2, HA, HC, HA2, HC2⟩ := hx.opened
  obtain ⟨i0, hi, hz0, hz1, hz2⟩ := info_parts Try_infoInt
  obtain ⟨iP, hiP, hzP0, hzP1, hzP2⟩ := info_parts Try_infoPiece
  have HWF := Lib.hid hx'.wf
  have hs := (Stat.first hx').alloc (.cells #[.int .i64 P, .int .i64 L] 70)
  have hy : Blk1 (w.heap.size + 1) (.cells #[.int .i64 P, .int .i64 L] 70) ((w.alloc (.cells #[.slice a S.bars.length cap1, .int .i64 S.kerf, .slice a2 S.pieces.length cap2, .int .i64 S.wrong] 25)).alloc (.cells #[.int .i64 P, .int .i64 L] 70)) := ⟨(heap_at2 w _ _).2, by simp⟩
  obtain ⟨c0, c1, c2, c3⟩ := box4_of hs.blk
  obtain ⟨y0, y1, _, _⟩ := cell2_of hy.1
  have HS0 := Lib.hid hs
  have HY0 := Lib.hid hy
  clear hs hy hx hx' HA HC
  cases hr : readyB S
  case false =>
    have HR := Lib.hid hr
    clear hr
    go_enter Try.func7, Try.ntmps7
    go_wp2_with fail
    refine (ready_to HR.out HS0.out.st).mono ?_
    rintro e w1 ⟨rfl, hb⟩
    have hy := HY0.out.next hb
    clear y0 y1
    obtain ⟨y0, y1, _, _⟩ := cell2_of hy.1
    have HY1 := Lib.hid hy
    clear hy
    have hs := HS0.out.next hb
    clear hb c0 c1 c2 c3
    obtain ⟨c0, c1, c2, c3⟩ := box4_of hs.blk
    have HS1 := Lib.hid hs
    have hZ1 := hs.b.size
    clear hs
    go_wp2_with fail
    refine (works_any _).mono ?_
    rintro e w2 ⟨rfl, hb⟩
    have HB := Lib.hid (HS1.out.next hb).b
    clear hb
    go_wp2
    go_ret
    exact ⟨rfl, HB.out⟩
  obtain ⟨hV, hFew, hb4, hp5⟩ := readyB_few hr
  have HR := Lib.hid hr
  have HV := Lib.hid hV
  have HFEW := Lib.hid hFew
  obtain ⟨hk0, hk20⟩ := hV.kerf
  obtain ⟨hw0, hw8⟩ := hV.wrong
  clear hr hV hFew
  cases hp : wB P 0 ((S.pieces.length : Int) - 1)
  case false =>
    have HP := Lib.hid hp
    clear hp
    go_enter Try.func7, Try.ntmps7
    go_wp2_with fail
    refine (ready_to HR.out HS0.out.st).mono ?_
    rintro e w1 ⟨rfl, hb⟩
    have hy := HY0.out.next hb
    clear y0 y1
    obtain ⟨y0, y1, _, _⟩ := cell2_of hy.1
    have HY1 := Lib.hid hy
    clear hy
    have hs := HS0.out.next hb
    clear hb c0 c1 c2 c3
    obtain ⟨c0, c1, c2, c3⟩ := box4_of hs.blk
    have HS1 := Lib.hid hs
    have hZ1 := hs.b.size
    clear hs
    go_wp2_with fail
    refine (rIsPiece_to HP.out HS1.out.st).mono ?_
    rintro e w2 ⟨rfl, hb⟩
    have hy := HY1.out.next hb
    clear y0 y1
    obtain ⟨y0, y1, _, _⟩ := cell2_of hy.1
    have HY2 := Lib.hid hy
    clear hy
    have hs := HS1.out.next hb
    clear hb c0 c1 c2 c3
    obtain ⟨c0, c1, c2, c3⟩ := box4_of hs.blk
    have HS2 := Lib.hid hs
    have hZ2 := hs.b.size
    clear hs
    go_wp2_with fail
    refine (works_any _).mono ?_
    rintro e w2 ⟨rfl, hb⟩
    have HB := Lib.hid (HS2.out.next hb).b
    clear hb
    go_wp2
    go_ret
    exact ⟨rfl, HB.out⟩
  have HP := Lib.hid hp
  by_cases hlo : 1 ≤ L
  case neg =>
    have hd1 : decide (L < 1) = true := decide_eq_true (by omega)
    clear hlo hp
    go_enter Try.func7, Try.ntmps7
    go_wp2_with fail
    refine (ready_to HR.out HS0.out.st).mono ?_
    rintro e w1 ⟨rfl, hb⟩
    have hy := HY0.out.next hb
    clear y0 y1
    obtain ⟨y0, y1, _, _⟩ := cell2_of hy.1
    have HY1 := Lib.hid hy
    clear hy
    have hs := HS0.out.next hb
    clear hb c0 c1 c2 c3
    obtain ⟨c0, c1, c2, c3⟩ := box4_of hs.blk
    have HS1 := Lib.hid hs
    have hZ1 := hs.b.size
    clear hs
    go_wp2_with fail
    refine (rIsPiece_to HP.out HS1.out.st).mono ?_
    rintro e w2 ⟨rfl, hb⟩
    have hy := HY1.out.next hb
    clear y0 y1
    obtain ⟨y0, y1, _, _⟩ := cell2_of hy.1
    have HY2 := Lib.hid hy
    clear hy
    have hs := HS1.out.next hb
    clear hb c0 c1 c2 c3
    obtain ⟨c0, c1, c2, c3⟩ := box4_of hs.blk
    have HS2 := Lib.hid hs
    have hZ2 := hs.b.size
    clear hs
    go_wp2_with fail
    refine (works_any _).mono ?_
    rintro e w2 ⟨rfl, hb⟩
    have HB := Lib.hid (HS2.out.next hb).b
    clear hb
    go_wp2
    go_ret
    exact ⟨rfl, HB.out⟩
  have hd1 : decide (L < 1) = false := decide_eq_false (by omega)
  by_cases hhi : L ≤ 999
  case neg =>
    have hd2 : decide (999 < L) = true := decide_eq_true (by omega)
    clear hlo hhi hp
    go_enter Try.func7, Try.ntmps7
    go_wp2_with fail
    refine (ready_to HR.out HS0.out.st).mono ?_
    rintro e w1 ⟨rfl, hb⟩
    have hy := HY0.out.next hb
    clear y0 y1
    obtain ⟨y0, y1, _, _⟩ := cell2_of hy.1
    have HY1 := Lib.hid hy
    clear hy
    have hs := HS0.out.next hb
    clear hb c0 c1 c2 c3
    obtain ⟨c0, c1, c2, c3⟩ := box4_of hs.blk
    have HS1 := Lib.hid hs
    have hZ1 := hs.b.size
    clear hs
    go_wp2_with fail
    refine (rIsPiece_to HP.out HS1.out.st).mono ?_
    rintro e w2 ⟨rfl, hb⟩
    have hy := HY1.out.next hb
    clear y0 y1
    obtain ⟨y0, y1, _, _⟩ := cell2_of hy.1
    have HY2 := Lib.hid hy
    clear hy
    have hs := HS1.out.next hb
    clear hb c0 c1 c2 c3
    obtain ⟨c0, c1, c2, c3⟩ := box4_of hs.blk
    have HS2 := Lib.hid hs
    have hZ2 := hs.b.size
    clear hs
    go_wp2_with fail
    refine (works_any _).mono ?_
    rintro e w2 ⟨rfl, hb⟩
    have HB := Lib.hid (HS2.out.next hb).b
    clear hb
    go_wp2
    go_ret
    exact ⟨rfl, HB.out⟩
  have hd2 : decide (999 < L) = false := decide_eq_false (by omega)
  obtain ⟨hp0, hp1⟩ := wB_iff.1 hp
  obtain ⟨i, rfl⟩ := Int.eq_ofNat_of_zero_le hp0
  have hip : i < S.pieces.length := by omega
  have hip0 : (0 : Int) ≤ (i : Int) := by omega
  have hip1 : (i : Int) < (S.pieces.length : Int) := by omega
  obtain ⟨hb1, hb9⟩ := HV.out.plong i hip
  obtain ⟨rfl, hlt2⟩ := HA2.out (by omega)
  have hcell := (HC2.out i hip).1
  obtain ⟨hv, hcell2, hI⟩ := (HC2.out i hip).2
  obtain ⟨a3, cap3, b3, off3, rfl, hm3, _⟩ := hI.opened
  have hheats := HFEW.out.nh i hip
  have HI := Lib.hid hI
  have HWH := Lib.hid (HWF.out.pieces (pnth S.pieces i) (by rw [pnth_lt hip]; exact List.getElem_mem hip)).2
  have HCELL := Lib.hid hcell
  have HCELL2 := Lib.hid hcell2
  have hwr1 : IntKind.i64.wrap ((pnth S.pieces i).long - S.kerf) = (pnth S.pieces i).long - S.kerf := IntWalk.i64_in _ (by omega)
  have hwr2 : IntKind.i64.wrap ((pnth S.pieces i).long - S.kerf - L) = (pnth S.pieces i).long - S.kerf - L := IntWalk.i64_in _ (by omega)
  have HWR1 := Lib.hid hwr1
  have HWR2 := Lib.hid hwr2
  clear hp hp0 hp1 hcell hcell2 hI hwr1 hwr2
  go_enter Try.func7, Try.ntmps7
  go_wp2_with fail
  refine (ready_to HR.out HS0.out.st).mono ?_
  rintro e w1 ⟨rfl, hb⟩
  have hy := HY0.out.next hb
  clear y0 y1
  obtain ⟨y0, y1, _, _⟩ := cell2_of hy.1
  have HY1 := Lib.hid hy
  clear hy
  have hs := HS0.out.next hb
  clear hb c0 c1 c2 c3
  obtain ⟨c0, c1, c2, c3⟩ := box4_of hs.blk
  have HS1 := Lib.hid hs
  have hZ1 := hs.b.size
  clear hs
  go_wp2_with fail
  refine (rIsPiece_to HP.out HS1.out.st).mono ?_
  rintro e w2 ⟨rfl, hb⟩
  have hy := HY1.out.next hb
  clear y0 y1
  obtain ⟨y0, y1, _, _⟩ := cell2_of hy.1
  have HY2 := Lib.hid hy
  clear hy
  have hs := HS1.out.next hb
  clear hb c0 c1 c2 c3
  obtain ⟨c0, c1, c2, c3⟩ := box4_of hs.blk
  have HS2 := Lib.hid hs
  have hZ2 := hs.b.size
  clear hs
  go_wp2_with fail
  refine (Copy_any _ S _ HS2.out.st HFEW.out).mono ?_
  rintro e w3 ⟨u, rfl, hcp, hb⟩
  have hy := HY2.out.next hb
  clear y0 y1
  obtain ⟨y0, y1, _, _⟩ := cell2_of hy.1
  obtain ⟨bv, pv, hs, rfl, h1, h2, h3, h4, h5, h6, h7⟩ := hcp
  obtain ⟨bA, bcap, rfl, _⟩ := own_form h1
  obtain ⟨pA, pcap, rfl, _⟩ := own_form h2
  have HE3 := Lib.hid (Ed.first (CopyAt.of_parts (S := ⟨S.bars, S.kerf, S.pieces, S.wrong + 1⟩) h1 h2 h3 ⟨h4, h5, h6, ⟨by show _ ≤ S.wrong + 1; omega, by show S.wrong + 1 ≤ _; omega⟩⟩) hb)
  have HY3 := Lib.hid hy
  clear hy h1 h2 h3 h4 h5 h6 h7
  have hs := HS2.out.next hb
  clear hb c0 c1 c2 c3
  obtain ⟨c0, c1, c2, c3⟩ := box4_of hs.blk
  have HS3 := Lib.hid hs
  have hZ3 := hs.b.size
  clear hs
  have hYl := HY3.out.2
  have hZl := HS3.out.lt
  go_upto_region 5 with fail
  generalize hW : w3.alloc (.cells #[.slice bA S.bars.length bcap, .int .i64 S.kerf, .slice pA S.pieces.length pcap, .int .i64 (S.wrong + 1)] 25) = W at HE3 ⊢
  have hs := HS2.out.next HE3.out.b
  have hy := HY2.out.next HE3.out.b
  have hbW : Below w.heap.size w W := hs.b
  have hcell := (hbW.cell (p := ⟨b2, off2 + i * 2, none⟩) hlt2).trans HCELL.out
  clear hW c0 c1 c2 c3 y0 y1
  obtain ⟨y0, y1, _, _⟩ := cell2_of hy.1
  obtain ⟨c0, c1, c2, c3⟩ := box4_of hs.blk
  have HSW := Lib.hid hs
  have HYW := Lib.hid hy
  clear hs hy
  have hwr1 := HWR1.out
  have hwr2 := HWR2.out
  go_wp2_with fail
  go_quiet (fail)
  clear hwr1 hwr2
  have he := HE3.out.next (drewN_below (Below.refl _ _) nq)
  have hs := HSW.out.next (drewN_below (Below.refl _ _) nq)
  have hy := HYW.out.next (drewN_below (Below.refl _ _) nq)
  generalize hW1 : W.drewN nq = W1 at he hs hy ⊢
  clear hW1 c0 c1 c2 c3 y0 y1 hcell
  obtain ⟨y0, y1, _, _⟩ := cell2_of hy.1
  obtain ⟨⟨o0, o1, o2, o3⟩, _⟩ := box4f_of he.o
  obtain ⟨g, cap, hpv, d1, _, ff, hgo, hge, hgl, hset⟩ := he.piece (i := i) hip
  cases hpv
  have f1 := ff (i * 2)
  have hE4 := hset L ⟨by omega, by omega⟩
  clear hset ff he hs hy
  go_upto_region 7 with fail
  generalize hW2 : W1.setCell ⟨g, i * 2, none⟩ (.int .i64 L) = W2 at hE4 ⊢
  have hs := HS2.out.next hE4.b
  have hy := HY2.out.next hE4.b
  have hcell := (hs.b.cell (p := ⟨b2, off2 + i * 2 + 1, none⟩) hlt2).trans HCELL2.out
  clear hW2 y0 y1 o0 o1 o2 o3 d1 f1
  obtain ⟨y0, y1, _, _⟩ := cell2_of hy.1
  obtain ⟨c0, c1, c2, c3⟩ := box4_of hs.blk
  obtain ⟨⟨o0, o1, o2, o3⟩, of⟩ := box4f_of hE4.o
  have of2 := of 2
  obtain ⟨hs', r1, r2, r3, r4⟩ := hE4.c.parts
  have R1 := Lib.hid r1
  have R2 := Lib.hid r2
  have R3 := Lib.hid r3
  have R4 := Lib.hid r4
  have HE4 := Lib.hid hE4
  have HR2 := Lib.hid (show W2.ownsRow w2.heap.size 60 2 (.slice (some ⟨g, 0, none⟩) S.pieces.length pcap) S.pieces.length (pcells (S.pieces.set i ⟨L, (pnth S.pieces i).heats⟩) hs' S.pieces.length) from by have h := r2; simp only [List.length_set] at h; exact h)
  have hsrc : ∀ w', Below w.heap.size W2 w' → CellsFrom w' a3 (pnth S.pieces i).heats.length 1 ((pnth S.pieces i).heats.map (Value.int .i64)) := fun w' h => from_ints (HI.out.below (hs.b.trans h))
  have HSRC := Lib.hid hsrc
  have hbol := (Array.getElem?_eq_some_iff.1 hE4.o).1
  have hyl := hy.2
  have hsl := hs.lt
  have h2l : b2 < W2.heap.size := by omega
  have hlen : (S.pieces.set i ⟨L, (pnth S.pieces i).heats⟩).length = S.pieces.length := by simp
  have HLEN := Lib.hid hlen
  have hpn := own_ne_type r2 hE4.o (by decide)
  have hpn0 := own_ne r2 (b := w.heap.size) (.inr (by have := HS2.out.lt; omega))
  have hpny := own_ne r2 (b := w.heap.size + 1) (.inr (by have := HY2.out.2; omega))
  have hpn2 := own_ne r2 (b := b2) (.inr (by have := HS2.out.b.size; omega))
  have hpnw := own_ne r2 (b := W2.heap.size) (.inl (Nat.le_refl _))
  have hwW2 := HE4.out.b.size
  have hnp := HFEW.out.np
  have hi0 : (0 : Int) ≤ (i : Int) := by omega
  clear hE4 hs hy r1 r2 r3 r4 of hsrc hlen
  have hy1 : (W2.alloc (.cells #[] 3)).drew.cell? ⟨w3.heap.size, 2, none⟩ = some (.slice (some ⟨g, 0, none⟩) S.pieces.length pcap) := cell_alloc o2 hbol
  have hy1' : (W2.alloc (.cells #[] 3)).cell? ⟨w3.heap.size, 2, none⟩ = some (.slice (some ⟨g, 0, none⟩) S.pieces.length pcap) := cell_alloc o2 hbol
  have hf1 : (W2.alloc (.cells #[] 3)).frozen? ⟨w3.heap.size, 2, none⟩ = false := frozen_alloc of2 hbol
  go_cut [] (fun wx => ∃ qA qcap, Hid (Ed w2 wx w3.heap.size (two S i L) (.slice bA S.bars.length bcap) (.slice qA (S.pieces.length + 1) qcap)))
  case first =>
    go_wp2_with fail
    rw [lateT7]
    have hkeep0 := And.intro c2 (And.intro y0 hcell)
    have hkeep1 : (W2.alloc (.cells #[] 3)).drew.cell? ⟨w.heap.size, 2, none⟩ = some (.slice (some ⟨b2, off2, none⟩) S.pieces.length cap2) ∧ (W2.alloc (.cells #[] 3)).drew.cell? ⟨w.heap.size + 1, 0, none⟩ = some (.int .i64 (i : Int)) ∧ (W2.alloc (.cells #[] 3)).drew.cell? ⟨b2, off2 + i * 2 + 1, none⟩ = some (.slice a3 (pnth S.pieces i).heats.length cap3) := ⟨cell_alloc c2 hsl, cell_alloc y0 hyl, cell_alloc hcell h2l⟩
    have KEEP0 := Lib.hid hkeep0
    have KEEP1 := Lib.hid hkeep1
    clear hkeep0 hkeep1
    go_region_held3 (fun w' => w'.cell? ⟨w.heap.size, 2, none⟩ = some (.slice (some ⟨b2, off2, none⟩) S.pieces.length cap2) ∧ w'.cell? ⟨w.heap.size + 1, 0, none⟩ = some (.int .i64 (i : Int)) ∧ w'.cell? ⟨b2, off2 + i * 2 + 1, none⟩ = some (.slice a3 (pnth S.pieces i).heats.length cap3))
      (first
        | exact KEEP0.out
        | exact KEEP1.out
        | (go_split_ands; exact ⟨cell_alloc ‹_› (by omega), cell_alloc ‹_› (by omega), cell_alloc ‹_› (by omega)⟩)
        | (exact ⟨cell_grown KEEP1.out.1 (by simp; omega) hgrow2 (by simp [Value.ownBlock]; omega), cell_grown KEEP1.out.2.1 (by simp; omega) hgrow2 (by simp [Value.ownBlock]; omega), cell_grown KEEP1.out.2.2 (by simp; omega) hgrow2 (by simp [Value.ownBlock]; omega)⟩)
        | (go_split_ands; exact ⟨cell_grown ‹_› (by simp; omega) hgrow3 hpn0, cell_grown ‹_› (by simp; omega) hgrow3 hpny, cell_grown ‹_› (by simp; omega) hgrow3 hpn2⟩)
        | (go_split_ands; exact ⟨cell_set ‹_› _ _ (by simp; omega), cell_set ‹_› _ _ (by simp; omega), cell_set ‹_› _ _ (by simp; omega)⟩)
        | (go_split_ands; exact ⟨by assumption, by assumption, by assumption⟩))
      (first
        | ((refine step_onto (base := W2.heap.size) (v := .slice (some ⟨W2.heap.size, 0, none⟩) 0 0) (n := 0) (xs := []) (A := a3) (m := (pnth S.pieces i).heats.length) (c := cap3) (news := (pnth S.pieces i).heats.map (Value.int .i64)) (by rfl) (.tmp 68) (.tmp 75) (by rfl) Try.underlying26 hi hz0 hz1 hz2 rfl (by decide) (by rfl) (World.ownsRow_made W2 #[] 0 (Nat.le_refl _) (by unfold maxLen; omega) rfl) (by rfl) (HSRC.out _ (((Below.refl _ W2).alloc (by omega) _).drew)) (map_one _) (by unfold maxLen; omega) (by omega) (by simp) ?_; intro hA hcap w4 hown2 hgrow2 hat2; have hs2 := hgrow2.size; rw [Nat.zero_add, List.nil_append] at hown2; simp at hs2; have hy2 : w4.cell? ⟨w3.heap.size, 2, none⟩ = some (.slice (some ⟨g, 0, none⟩) S.pieces.length pcap) := cell_grown hy1 (by simp; omega) hgrow2 (by simp [Value.ownBlock]; omega); have hf2 : w4.frozen? ⟨w3.heap.size, 2, none⟩ = false := (hgrow2.frozen_far ⟨w3.heap.size, 2, none⟩ (by simp; omega) (by simp [Value.ownBlock]; omega)).trans hf1; have hy3 := cell_alloc (o := .cells #[.int .i64 ((pnth S.pieces i).long - S.kerf - L), .slice hA (pnth S.pieces i).heats.length hcap] 60) hy2 (by omega); have hf3 := frozen_alloc (o := .cells #[.int .i64 ((pnth S.pieces i).long - S.kerf - L), .slice hA (pnth S.pieces i).heats.length hcap] 60) hf2 (by omega)))
        | ((refine step_onto (base := w2.heap.size) (v := .slice (some ⟨g, 0, none⟩) S.pieces.length pcap) (n := S.pieces.length) (xs := pcells (S.pieces.set i ⟨L, (pnth S.pieces i).heats⟩) hs' S.pieces.length) (A := some ⟨w4.heap.size, 0, none⟩) (m := 1) (c := 1) (news := [.int .i64 ((pnth S.pieces i).long - S.kerf - L), .slice hA (pnth S.pieces i).heats.length hcap]) (by rfl) (.tmp 66) (.tmp 78) (by rfl) Try.underlying23 hiP hzP0 hzP1 hzP2 rfl (by decide) (by rfl) ((((HR2.out.alloc _).drew).kept hgrow2 (.inr hpnw)).alloc _) (by rfl) ⟨rfl, fun _ => ⟨_, rfl, World.news_of_block (cs := #[.int .i64 ((pnth S.pieces i).long - S.kerf - L), .slice hA (pnth S.pieces i).heats.length hcap]) (t := 60) (fr := (0, 0)) (heap_alloc_new w4 _)⟩⟩ (by simp [Value.oneCell']) (by unfold maxLen; omega) (by omega) (by simp; omega) ?_; intro qA qcap w5 hown3 hgrow3 hat3; have hy4 : w5.cell? ⟨w3.heap.size, 2, none⟩ = some (.slice (some ⟨g, 0, none⟩) S.pieces.length pcap) := cell_grown hy3 (by simp; omega) hgrow3 hpn; have hf4 : w5.frozen? ⟨w3.heap.size, 2, none⟩ = false := (hgrow3.frozen_far ⟨w3.heap.size, 2, none⟩ (by simp; omega) (Ne.symm hpn)).trans hf3)))
    all_goals
      have hE5 := more_step (p := ⟨(pnth S.pieces i).long - S.kerf - L, (pnth S.pieces i).heats⟩) HE4.out R1.out R2.out R3.out R4.out ⟨⟨by show _ ≤ (pnth S.pieces i).long - S.kerf - L; omega, by show (pnth S.pieces i).long - S.kerf - L ≤ _; omega⟩, HWH.out⟩ (((Below.refl _ W2).alloc (Nat.le_refl _) _).drew) (by simp) hgrow2 hown2 hgrow3 (by simp only [List.length_set]; exact hown3)
      have HE5 := Lib.hid hE5
      clear hE5 hgrow2 hown2 hgrow3 hown3 hat2 hat3
      go_wp2_with fail
      go_meet
      exact ⟨qA, qcap, HE5⟩
  case rest =>
    obtain ⟨qA, qcap, hcut⟩ := hcut
    have ho := hcut.out.stat HS2.out.b
    have hs := HS2.out.next hcut.out.b
    have hy := HY2.out.next hcut.out.b
    clear c0 c1 c2 c3 y0 y1 o0 o1 o2 o3 hcut hy1 hy1' hf1 hcell of2
    obtain ⟨O, hO⟩ : ∃ O, O = two S i L := ⟨_, rfl⟩
    have hok : (Value.int .i64 (two S i L).kerf) = .int .i64 O.kerf := by rw [hO]
    rw [← hO] at ho
    have HOE := Lib.hid hO
    have hol : O.pieces.length = S.pieces.length + 1 := by rw [hO]; exact two_np S i L
    have HOL := Lib.hid hol
    clear hO hok hol
    obtain ⟨c0, c1, c2, c3⟩ := box4_of hs.blk
    obtain ⟨o0, o1, o2, o3⟩ := box4_of ho.blk
    obtain ⟨y0, y1, _, _⟩ := cell2_of hy.1
    have HS5 := Lib.hid hs
    have HO5 := Lib.hid ho
    have HY5 := Lib.hid hy
    clear hs ho hy
    go_wp2_with fail
    cases hro : readyB O
    case false =>
      refine (ready_to hro HO5.out.st).mono ?_
      rintro e w6 ⟨rfl, hb⟩
      have hy := HY5.out.next hb
      clear y0 y1
      obtain ⟨y0, y1, _, _⟩ := cell2_of hy.1
      have HY6 := Lib.hid hy
      clear hy
      have hs := HS5.out.next hb
      have ho := HO5.out.next hb
      clear hb c0 c1 c2 c3 o0 o1 o2 o3
      obtain ⟨c0, c1, c2, c3⟩ := box4_of hs.blk
      have HS6 := Lib.hid hs
      have hZ6 := hs.b.size
      clear hs
      obtain ⟨o0, o1, o2, o3⟩ := box4_of ho.blk
      have HO6 := Lib.hid ho
      clear ho
      clear hro
      go_wp2_with (first | (go_at_call 34; refine (isKnown_same (by first | exact .inl rfl | exact .inr rfl | exact errN_cases _) _).mono ?_; rintro e wk ⟨rfl, rfl⟩) | (go_at_call 15; refine (works_any _).mono ?_; rintro e wz ⟨rfl, hb⟩; have HB := Lib.hid (HS6.out.next hb).b; clear hb))
      go_ret
      exact ⟨rfl, HB.out⟩
    have HVO := Lib.hid (readyB_few hro).1
    refine (ready_to hro HO5.out.st).mono ?_
    rintro e w6 ⟨rfl, hb⟩
    have hy := HY5.out.next hb
    clear y0 y1
    obtain ⟨y0, y1, _, _⟩ := cell2_of hy.1
    have HY6 := Lib.hid hy
    clear hy
    have hs := HS5.out.next hb
    have ho := HO5.out.next hb
    clear hb c0 c1 c2 c3 o0 o1 o2 o3
    obtain ⟨c0, c1, c2, c3⟩ := box4_of hs.blk
    have HS6 := Lib.hid hs
    have hZ6 := hs.b.size
    clear hs
    obtain ⟨o0, o1, o2, o3⟩ := box4_of ho.blk
    have HO6 := Lib.hid ho
    clear ho
    clear hro
    have HVT := Lib.hid (show Valid (two S i L) from by rw [← HOE.out]; exact HVO.out)
    by_cases h0 : (truthsL S).length = 0
    · have HZ := Lib.hid (show errN (truthsL S).length = 3 from by rw [h0]; rfl)
      clear h0
      go_wp2_with fail
      refine (Many_any _ _ _ HS6.out.st HV.out).mono ?_
      rintro e w7 ⟨rfl, hb⟩
      rw [HZ.out]
      have hy := HY6.out.next hb
      clear y0 y1
      obtain ⟨y0, y1, _, _⟩ := cell2_of hy.1
      have HY7 := Lib.hid hy
      clear hy
      have hs := HS6.out.next hb
      have ho := HO6.out.next hb
      clear hb c0 c1 c2 c3 o0 o1 o2 o3
      obtain ⟨c0, c1, c2, c3⟩ := box4_of hs.blk
      have HS7 := Lib.hid hs
      have hZ7 := hs.b.size
      clear hs
      obtain ⟨o0, o1, o2, o3⟩ := box4_of ho.blk
      have HO7 := Lib.hid ho
      clear ho
      go_wp2_with fail
      refine (Many_any _ _ _ HO7.out.st HVO.out).mono ?_
      rintro e w8 ⟨rfl, hb⟩
      have hy := HY7.out.next hb
      clear y0 y1
      obtain ⟨y0, y1, _, _⟩ := cell2_of hy.1
      have HY8 := Lib.hid hy
      clear hy
      have hs := HS7.out.next hb
      have ho := HO7.out.next hb
      clear hb c0 c1 c2 c3 o0 o1 o2 o3
      obtain ⟨c0, c1, c2, c3⟩ := box4_of hs.blk
      have HS8 := Lib.hid hs
      have hZ8 := hs.b.size
      clear hs
      obtain ⟨o0, o1, o2, o3⟩ := box4_of ho.blk
      have HO8 := Lib.hid ho
      clear ho
      go_wp2_with (first | (go_at_call 34; refine (isKnown_same (by first | exact .inl rfl | exact .inr rfl | exact errN_cases _) _).mono ?_; rintro e wk ⟨rfl, rfl⟩) | (go_at_call 15; refine (works_any _).mono ?_; rintro e wz ⟨rfl, hb⟩; have HB := Lib.hid (HS8.out.next hb).b; clear hb))
      go_ret
      exact ⟨rfl, HB.out⟩
    · have hge := two_many hip HV.out HVT.out
      rw [← HOE.out] at hge
      obtain ⟨x, hx⟩ : ∃ x, x ∈ truthsL S := List.exists_mem_of_ne_nil _ (fun e => h0 (by rw [e]; rfl))
      obtain ⟨y, hy⟩ : ∃ y, y ∈ truthsL O := List.exists_mem_of_ne_nil _ (fun e => by have : (truthsL O).length = 0 := (by rw [e]; rfl); omega)
      have HZ := Lib.hid (show errN (truthsL S).length = 0 from errN_pos h0)
      have HZO := Lib.hid (show errN (truthsL O).length = 0 from errN_mem hy)
      have HZA := Lib.hid (of_err HV.out hx hip)
      have HZB := Lib.hid (of_err HVO.out hy (p := i) (by rw [HOL.out]; omega))
      have HZC := Lib.hid (of_err HVO.out hy (p := S.pieces.length) (by rw [HOL.out]; omega))
      obtain ⟨s1, s2⟩ := two_of hip HV.out HVT.out
      rw [← HOE.out] at s1 s2
      have HS1B := Lib.hid s1
      have HS2B := Lib.hid s2
      obtain ⟨Ma, hMa⟩ : ∃ M, (truthsL S).length = M := ⟨_, rfl⟩
      obtain ⟨Mb, hMb⟩ : ∃ M, (truthsL O).length = M := ⟨_, rfl⟩
      rw [hMa, hMb] at hge
      have HMa := Lib.hid hMa
      have HMb := Lib.hid hMb
      have l1 : (ofS O i).length ≤ 40 := Nat.le_trans (numsTo_length _ _) (by omega)
      have l2 : (ofS O S.pieces.length).length ≤ 40 := Nat.le_trans (numsTo_length _ _) (by omega)
      clear h0 hx hy hMa hMb s1 s2
      go_wp2_with fail
      refine (Many_any _ _ _ HS6.out.st HV.out).mono ?_
      rintro e w7 ⟨rfl, hb⟩
      rw [HZ.out, HMa.out]
      have hy := HY6.out.next hb
      clear y0 y1
      obtain ⟨y0, y1, _, _⟩ := cell2_of hy.1
      have HY7 := Lib.hid hy
      clear hy
      have hs := HS6.out.next hb
      have ho := HO6.out.next hb
      clear hb c0 c1 c2 c3 o0 o1 o2 o3
      obtain ⟨c0, c1, c2, c3⟩ := box4_of hs.blk
      have HS7 := Lib.hid hs
      have hZ7 := hs.b.size
      clear hs
      obtain ⟨o0, o1, o2, o3⟩ := box4_of ho.blk
      have HO7 := Lib.hid ho
      clear ho
      go_wp2_with fail
      refine (Many_any _ _ _ HO7.out.st HVO.out).mono ?_
      rintro e w8 ⟨rfl, hb⟩
      rw [HZO.out, HMb.out]
      have hy := HY7.out.next hb
      clear y0 y1
      obtain ⟨y0, y1, _, _⟩ := cell2_of hy.1
      have HY8 := Lib.hid hy
      clear hy
      have hs := HS7.out.next hb
      have ho := HO7.out.next hb
      clear hb c0 c1 c2 c3 o0 o1 o2 o3
      obtain ⟨c0, c1, c2, c3⟩ := box4_of hs.blk
      have HS8 := Lib.hid hs
      have hZ8 := hs.b.size
      clear hs
      obtain ⟨o0, o1, o2, o3⟩ := box4_of ho.blk
      have HO8 := Lib.hid ho
      clear ho
      go_wp2_with (go_at_call 34; refine (isKnown_same (by first | exact .inl rfl | exact .inr rfl | exact errN_cases _) _).mono ?_; rintro e wk ⟨rfl, rfl⟩)
      refine (Of_any _ S i _ HS8.out.st HV.out hip).mono ?_
      rintro e w9 ⟨uA, rfl, huA, hb⟩
      obtain ⟨uaA, ucapA, _, _, rfl, _, _, _, _⟩ := huA.opened
      have HIA := Lib.hid huA
      rw [HZA.out]
      have hy := HY8.out.next hb
      clear y0 y1
      obtain ⟨y0, y1, _, _⟩ := cell2_of hy.1
      have HY9 := Lib.hid hy
      clear hy
      have hs := HS8.out.next hb
      have ho := HO8.out.next hb
      clear hb c0 c1 c2 c3 o0 o1 o2 o3
      obtain ⟨c0, c1, c2, c3⟩ := box4_of hs.blk
      have HS9 := Lib.hid hs
      have hZ9 := hs.b.size
      clear hs
      obtain ⟨o0, o1, o2, o3⟩ := box4_of ho.blk
      have HO9 := Lib.hid ho
      clear ho
      clear huA
      go_wp2_with fail
      refine (Of_any _ O i _ HO9.out.st HVO.out (by rw [HOL.out]; omega)).mono ?_
      rintro e w10 ⟨uB, rfl, huB, hb⟩
      obtain ⟨uaB, ucapB, _, _, rfl, _, _, _, _⟩ := huB.opened
      have HIB := Lib.hid huB
      rw [HZB.out]
      have HIA := Lib.hid ((HIA.out.below hb).mono hb.size)
      have hy := HY9.out.next hb
      clear y0 y1
      obtain ⟨y0, y1, _, _⟩ := cell2_of hy.1
      have HY10 := Lib.hid hy
      clear hy
      have hs := HS9.out.next hb
      have ho := HO9.out.next hb
      clear hb c0 c1 c2 c3 o0 o1 o2 o3
      obtain ⟨c0, c1, c2, c3⟩ := box4_of hs.blk
      have HS10 := Lib.hid hs
      have hZ10 := hs.b.size
      clear hs
      obtain ⟨o0, o1, o2, o3⟩ := box4_of ho.blk
      have HO10 := Lib.hid ho
      clear ho
      clear huB
      go_wp2_with fail
      refine (Of_any _ O S.pieces.length _ HO10.out.st HVO.out (by rw [HOL.out]; omega)).mono ?_
      rintro e w11 ⟨uC, rfl, huC, hb⟩
      obtain ⟨uaC, ucapC, _, _, rfl, _, _, _, _⟩ := huC.opened
      have HIC := Lib.hid huC
      rw [HZC.out]
      have HIA := Lib.hid ((HIA.out.below hb).mono hb.size)
      have HIB := Lib.hid ((HIB.out.below hb).mono hb.size)
      have hy := HY10.out.next hb
      clear y0 y1
      obtain ⟨y0, y1, _, _⟩ := cell2_of hy.1
      have HY11 := Lib.hid hy
      clear hy
      have hs := HS10.out.next hb
      have ho := HO10.out.next hb
      clear hb c0 c1 c2 c3 o0 o1 o2 o3
      obtain ⟨c0, c1, c2, c3⟩ := box4_of hs.blk
      have HS11 := Lib.hid hs
      have hZ11 := hs.b.size
      clear hs
      obtain ⟨o0, o1, o2, o3⟩ := box4_of ho.blk
      have HO11 := Lib.hid ho
      clear ho
      clear huC
      go_wp2_with fail
      refine (rSubset_any _ _ _ _ _ HIA.out HIB.out).mono ?_
      rintro e w12 ⟨rfl, hb⟩
      rw [HS1B.out]
      have HIA := Lib.hid ((HIA.out.below hb).mono hb.size)
      have HIC := Lib.hid ((HIC.out.below hb).mono hb.size)
      have hy := HY11.out.next hb
      clear y0 y1
      obtain ⟨y0, y1, _, _⟩ := cell2_of hy.1
      have HY12 := Lib.hid hy
      clear hy
      have hs := HS11.out.next hb
      have ho := HO11.out.next hb
      clear hb c0 c1 c2 c3 o0 o1 o2 o3
      obtain ⟨c0, c1, c2, c3⟩ := box4_of hs.blk
      have HS12 := Lib.hid hs
      have hZ12 := hs.b.size
      clear hs
      obtain ⟨o0, o1, o2, o3⟩ := box4_of ho.blk
      have HO12 := Lib.hid ho
      clear ho
      go_wp2_with fail
      refine (rSubset_any _ _ _ _ _ HIA.out HIC.out).mono ?_
      rintro e w13 ⟨rfl, hb⟩
      rw [HS2B.out]
      have hy := HY12.out.next hb
      clear y0 y1
      obtain ⟨y0, y1, _, _⟩ := cell2_of hy.1
      have HY13 := Lib.hid hy
      clear hy
      have hs := HS12.out.next hb
      have ho := HO12.out.next hb
      clear hb c0 c1 c2 c3 o0 o1 o2 o3
      obtain ⟨c0, c1, c2, c3⟩ := box4_of hs.blk
      have HS13 := Lib.hid hs
      have hZ13 := hs.b.size
      clear hs
      obtain ⟨o0, o1, o2, o3⟩ := box4_of ho.blk
      have HO13 := Lib.hid ho
      clear ho
      go_wp2_with (first | (go_at_call 34; refine (isKnown_same (by first | exact .inl rfl | exact .inr rfl | exact errN_cases _) _).mono ?_; rintro e wk ⟨rfl, rfl⟩) | (go_at_call 15; refine (works_any _).mono ?_; rintro e wz ⟨rfl, hb⟩; have HB := Lib.hid (HS13.out.next hb).b; clear hb))
      go_ret
      exact ⟨rfl, HB.out⟩
end Go.Proofs.Ytjflpmhlodgadaa
