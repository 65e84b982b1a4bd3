/-
  A law's body: bars and pieces in another order (P1.16).
-/
import Derived.Test.YtjflpmhlodgadaaOrderM
import Derived.Test.YtjflpmhlodgadaaEdMore
import Derived.Test.YtjflpmhlodgadaaOfLaw
import Derived.Deep.DeepCutAuto
import Derived.IntWalk
namespace Go.Proofs.Ytjflpmhlodgadaa
open Go.RowKit Go.Sort

/-- The bars of the copy after k rounds. -/
def rotTo (S : Store) (n k : Nat) : List Bar := (List.range S.bars.length).map fun i => if i < k then bnth S.bars ((i + n) % S.bars.length) else bnth S.bars i
theorem rotTo_len (S : Store) (n k : Nat) : (rotTo S n k).length = S.bars.length := by simp [rotTo]
theorem rotTo_at {S : Store} {n k i : Nat} (h : i < S.bars.length) : bnth (rotTo S n k) i = if i < k then bnth S.bars ((i + n) % S.bars.length) else bnth S.bars i := by
  simp [bnth, rotTo, h]
theorem rotTo_zero (S : Store) (n : Nat) : rotTo S n 0 = S.bars := by
  refine List.ext_getElem (by simp [rotTo]) fun i h1 h2 => ?_
  simp [rotTo, bnth, h2]
theorem rotTo_step {S : Store} {n k : Nat} (h : k < S.bars.length) : rotTo S n (k + 1) = (rotTo S n k).set k (bnth S.bars ((k + n) % S.bars.length)) := by
  refine List.ext_getElem (by simp [rotTo]) fun i h1 h2 => ?_
  rw [List.getElem_set]
  simp only [rotTo, List.getElem_map, List.getElem_range]
  by_cases e : k = i
  · subst e; rw [if_pos rfl, if_pos (by omega)]
  · rw [if_neg e]
    by_cases hlt : i < k
    · rw [if_pos (by omega), if_pos hlt]
    · rw [if_neg (by omega), if_neg hlt]
def revTo (S : Store) (k : Nat) : List Piece := (List.range S.pieces.length).map fun j => if S.pieces.length - k ≤ j then pnth S.pieces (S.pieces.length - 1 - j) else pnth S.pieces j
theorem revTo_len (S : Store) (k : Nat) : (revTo S k).length = S.pieces.length := by simp [revTo]
theorem revTo_zero (S : Store) : revTo S 0 = S.pieces := by
  refine List.ext_getElem (by simp [revTo]) fun i h1 h2 => ?_
  simp only [revTo, List.getElem_map, List.getElem_range]
  rw [if_neg (by omega), pnth_lt h2]
theorem revTo_at {S : Store} {i : Nat} (h : i < S.pieces.length) : pnth (revTo S S.pieces.length) i = pnth S.pieces (S.pieces.length - 1 - i) := by
  simp [pnth, revTo, h]
theorem revTo_step {S : Store} {k : Nat} (h : k < S.pieces.length) : revTo S (k + 1) = (revTo S k).set (S.pieces.length - 1 - k) (pnth S.pieces k) := by
  refine List.ext_getElem (by simp [revTo]) fun i h1 h2 => ?_
  rw [List.getElem_set]
  simp only [revTo, List.getElem_map, List.getElem_range]
  have hi : i < S.pieces.length := by simpa [revTo] using h1
  by_cases e : S.pieces.length - 1 - k = i
  · rw [if_pos e, if_pos (by omega)]; congr 1; omega
  · rw [if_neg e]
    by_cases hlt : S.pieces.length - k ≤ i
    · rw [if_pos (by omega), if_pos hlt]
    · rw [if_neg (by omega), if_neg hlt]
/-- The store in another order. -/
def turned (S : Store) (n : Nat) : Store := ⟨rotTo S n S.bars.length, S.kerf, revTo S S.pieces.length, S.wrong⟩
theorem mod_two {a m : Nat} (h : a < 2 * m) : a % m = if a < m then a else a - m := by
  by_cases h1 : a < m
  · rw [if_pos h1, Nat.mod_eq_of_lt h1]
  · rw [if_neg h1, Nat.mod_eq_sub_mod (by omega), Nat.mod_eq_of_lt (by omega)]
theorem turned_turn (S : Store) (n : Nat) : Turn S (turned S n) (fun i => (i + n) % S.bars.length) (fun c => (c + (S.bars.length - n % S.bars.length)) % S.bars.length) := by
  have hr : ∀ i, i < S.bars.length → (i + n) % S.bars.length = if i + n % S.bars.length < S.bars.length then i + n % S.bars.length else i + n % S.bars.length - S.bars.length := fun i hi => by
    have := Nat.mod_lt n (show S.bars.length > 0 by omega)
    rw [← mod_two (by omega), Nat.add_mod, Nat.mod_eq_of_lt hi]
  have hs : ∀ i, i < S.bars.length → (i + (S.bars.length - n % S.bars.length)) % S.bars.length = if i + (S.bars.length - n % S.bars.length) < S.bars.length then i + (S.bars.length - n % S.bars.length) else i + (S.bars.length - n % S.bars.length) - S.bars.length := fun i hi => by
    have := Nat.mod_lt n (show S.bars.length > 0 by omega)
    rw [← mod_two (by omega)]
  refine ⟨rotTo_len _ _ _, revTo_len _ _, rfl, rfl, fun i hi => Nat.mod_lt _ (by omega), fun i hi => Nat.mod_lt _ (by omega), fun i hi => ?_, fun i hi => ?_, fun i hi => ?_, fun i hi => ?_⟩
  · have hn := Nat.mod_lt n (show S.bars.length > 0 by omega)
    rw [hr _ (Nat.mod_lt _ (by omega)), hs i hi]
    by_cases e : i + (S.bars.length - n % S.bars.length) < S.bars.length
    · rw [if_pos e]
      by_cases e2 : i + (S.bars.length - n % S.bars.length) + n % S.bars.length < S.bars.length
      · rw [if_pos e2]; omega
      · rw [if_neg e2]; omega
    · rw [if_neg e]
      by_cases e2 : i + (S.bars.length - n % S.bars.length) - S.bars.length + n % S.bars.length < S.bars.length
      · rw [if_pos e2]; omega
      · rw [if_neg e2]; omega
  · have hn := Nat.mod_lt n (show S.bars.length > 0 by omega)
    rw [hs _ (Nat.mod_lt _ (by omega)), hr i hi]
    by_cases e : i + n % S.bars.length < S.bars.length
    · rw [if_pos e]
      by_cases e2 : i + n % S.bars.length + (S.bars.length - n % S.bars.length) < S.bars.length
      · rw [if_pos e2]; omega
      · rw [if_neg e2]; omega
    · rw [if_neg e]
      by_cases e2 : i + n % S.bars.length - S.bars.length + (S.bars.length - n % S.bars.length) < S.bars.length
      · rw [if_pos e2]; omega
      · rw [if_neg e2]; omega
  · show bnth (rotTo S n S.bars.length) i = _
    rw [rotTo_at hi, if_pos hi]
  · exact revTo_at hi
theorem Turn.valid {S O : Store} {ρ σ : Nat → Nat} (h : Turn S O ρ σ) (hV : Valid S) : Valid O := by
  refine ⟨by rw [h.nb]; exact hV.nb, by rw [h.np]; exact hV.np, fun i hi => ?_, fun i hi => ?_, fun i hi => ?_, fun i hi => ?_, by rw [h.kerf]; exact hV.kerf, by rw [h.wrong]; exact hV.wrong⟩
  · rw [h.nb] at hi; rw [h.bar i hi]; exact hV.heat _ (h.rlt i hi)
  · rw [h.nb] at hi; rw [h.bar i hi]; exact hV.blong _ (h.rlt i hi)
  · rw [h.np] at hi; rw [h.piece i hi]; exact hV.plong _ (by omega)
  · rw [h.np] at hi; rw [h.piece i hi]; exact hV.heats _ (by omega)
theorem bcells_set2 {bs : List Bar} {i : Nat} {b : Bar} (hi : i < bs.length) : bcells (bs.set i b) bs.length = ((bcells bs bs.length).set (i * 2) (.int .i64 b.heat)).set (i * 2 + 1) (.int .i64 b.long) := by
  refine List.ext_getElem? fun j => ?_
  rw [List.getElem?_set, List.getElem?_set]
  have hl := bcells_length bs bs.length
  by_cases hj : j < bs.length * 2
  · have hq : j / 2 < bs.length := by omega
    have h1 := bcells_at (bs.set i b) hq
    have h2 := bcells_at bs hq
    by_cases e : i = j / 2
    · have hb : bnth (bs.set i b) (j / 2) = b := by rw [← e]; simp [bnth, hi]
      rw [hb] at h1
      rcases Nat.mod_two_eq_zero_or_one j with hm | hm
      · have ej : j / 2 * 2 = j := by omega
        rw [ej] at h1 h2
        rw [if_neg (by omega), if_pos (by omega), if_pos (by omega), h1.1]
      · have ej : j / 2 * 2 + 1 = j := by omega
        rw [ej] at h1 h2
        rw [if_pos (by omega), if_pos (by rw [List.length_set]; omega), h1.2]
    · have hb : bnth (bs.set i b) (j / 2) = bnth bs (j / 2) := by simp [bnth, List.getElem?_set_ne e]
      rw [hb] at h1
      rw [if_neg (by omega), if_neg (by omega)]
      rcases Nat.mod_two_eq_zero_or_one j with hm | hm
      · have ej : j / 2 * 2 = j := by omega
        rw [ej] at h1 h2
        rw [h1.1, h2.1]
      · have ej : j / 2 * 2 + 1 = j := by omega
        rw [ej] at h1 h2
        rw [h1.2, h2.2]
  · rw [if_neg (by omega), if_neg (by omega), List.getElem?_eq_none (by rw [bcells_length]; omega), List.getElem?_eq_none (by rw [bcells_length]; omega)]
theorem pcells_set2 {ps : List Piece} {hs : Nat → Value} {hv : Value} {i : Nat} {p : Piece} (hi : i < ps.length) :
    pcells (ps.set i p) (fun j => if j = i then hv else hs j) ps.length = ((pcells ps hs ps.length).set (i * 2) (.int .i64 p.long)).set (i * 2 + 1) hv := by
  have h1 := pcells_set (ps := ps) (hs := hs) (x := p.long) hi
  have h2 := pcells_heats (ps := ps.set i ⟨p.long, (pnth ps i).heats⟩) (hs := hs) (hv := hv) (xs := p.heats) (i := i) (by simpa using hi)
  rw [List.length_set] at h2
  rw [h1, List.set_set, pnth_set_same hi] at h2
  exact h2
/-- Where bar i lies, and what a store of another one leaves. -/
theorem Ed.barAt {w1 W : World} {bo : Nat} {O : Store} {bv pv : Value} (h : Ed w1 W bo O bv pv) {i : Nat} (hi : i < O.bars.length) :
    ∃ g cap, bv = .slice (some ⟨g, 0, none⟩) O.bars.length cap ∧ W.cell? ⟨g, i * 2, none⟩ = some (.int .i64 (bnth O.bars i).heat) ∧ W.cell? ⟨g, i * 2 + 1, none⟩ = some (.int .i64 (bnth O.bars i).long) ∧ (∀ j, W.frozen? ⟨g, j, none⟩ = false) ∧ g ≠ bo ∧ w1.heap.size ≤ g ∧
      ∀ b : Bar, I64 b.heat → I64 b.long → Ed w1 ((W.setCell ⟨g, i * 2, none⟩ (.int .i64 b.heat)).setCell ⟨g, i * 2 + 1, none⟩ (.int .i64 b.long)) bo ⟨O.bars.set i b, O.kerf, O.pieces, O.wrong⟩ bv pv := by
  obtain ⟨hs, h1, h2, h3, h4⟩ := h.c.parts
  obtain ⟨g, cap, rfl, hge, hlt⟩ := h1.form (by omega)
  have hg : g ≠ bo := fun e => own_ne_type h1 h.o (by decide) (by rw [e]; rfl)
  have hat := bcells_at O.bars hi
  refine ⟨g, cap, rfl, (h1.cellAt _ (by omega)).trans hat.1, (h1.cellAt _ (by omega)).trans hat.2, fun j => h1.frozenAt j, hg, hge, fun b hb1 hb2 => ?_⟩
  obtain ⟨s1, s2⟩ := h1.stored (i * 2) (.int .i64 b.heat)
  obtain ⟨s3, s4⟩ := s1.stored (i * 2 + 1) (.int .i64 b.long)
  refine ⟨(h.b.setCell (by simpa using hge) _).setCell (by simpa using hge) _, heap_set_other _ (heap_set_other _ h.o (Ne.symm hg)) (Ne.symm hg), ?_, h.l⟩
  refine CopyAt.of_parts (S := ⟨O.bars.set i b, O.kerf, O.pieces, O.wrong⟩) (hs := hs) ?_ (own_kept_type (own_kept_type h2 h1 (by decide) s2) s1 (by decide) s4) (fun j hj => own_kept_type (own_kept_type (h3 j hj) h1 (by decide) s2) s1 (by decide) s4) ⟨fun y hy => ?_, h4.pieces, h4.kerf, h4.wrong⟩
  · simp only [List.length_set, bcells_set2 hi]
    exact s3
  · rcases List.mem_or_eq_of_mem_set hy with hy | rfl
    · exact h4.bars y hy
    · exact ⟨hb1, hb2⟩
/-- Where piece i lies, and what a store of another one, whose heats lie in memory of the call's own, leaves. -/
theorem Ed.pieceAt {w1 W : World} {bo : Nat} {O : Store} {bv pv : Value} (h : Ed w1 W bo O bv pv) {i : Nat} (hi : i < O.pieces.length) :
    ∃ g cap, pv = .slice (some ⟨g, 0, none⟩) O.pieces.length cap ∧ W.cell? ⟨g, i * 2, none⟩ = some (.int .i64 (pnth O.pieces i).long) ∧ (∃ z, W.cell? ⟨g, i * 2 + 1, none⟩ = some z ∧ z.oneCell' = true) ∧ (∀ j, W.frozen? ⟨g, j, none⟩ = false) ∧ g ≠ bo ∧ w1.heap.size ≤ g ∧ g < W.heap.size ∧
      ∀ W' (p : Piece) hv, Below W.heap.size W W' → I64 p.long → (∀ x ∈ p.heats, I64 x) → W'.ownsRow w1.heap.size 3 1 hv p.heats.length (p.heats.map (Value.int .i64)) → Ed w1 ((W'.setCell ⟨g, i * 2, none⟩ (.int .i64 p.long)).setCell ⟨g, i * 2 + 1, none⟩ hv) bo ⟨O.bars, O.kerf, O.pieces.set i p, O.wrong⟩ bv pv := by
  obtain ⟨hs0, h10, h20, _, _⟩ := h.c.parts
  obtain ⟨g, cap, rfl, hge, hlt⟩ := h20.form (by omega)
  have hg : g ≠ bo := fun e => own_ne_type h20 h.o (by decide) (by rw [e]; rfl)
  have hat := pcells_at O.pieces hs0 hi
  obtain ⟨hsx, h1x, h2x, h3x, h4x⟩ := h.c.parts
  have hone : ∃ z, W.cell? ⟨g, i * 2 + 1, none⟩ = some z ∧ z.oneCell' = true := ⟨_, (h2x.cellAt _ (by omega)).trans (pcells_at O.pieces hsx hi).2, own_one (h3x i hi)⟩
  refine ⟨g, cap, rfl, (h20.cellAt _ (by omega)).trans hat.1, hone, fun j => h20.frozenAt j, hg, hge, hlt, fun W' p hv hb hp1 hp2 hr => ?_⟩
  have hn := h.next hb
  obtain ⟨hs, h1, h2, h3, h4⟩ := hn.c.parts
  obtain ⟨s1, s2⟩ := h2.stored (i * 2) (.int .i64 p.long)
  obtain ⟨s3, s4⟩ := s1.stored (i * 2 + 1) hv
  refine ⟨(hn.b.setCell (by simpa using hge) _).setCell (by simpa using hge) _, heap_set_other _ (heap_set_other _ hn.o (Ne.symm hg)) (Ne.symm hg), ?_, hn.l⟩
  refine CopyAt.of_parts (S := ⟨O.bars, O.kerf, O.pieces.set i p, O.wrong⟩) (hs := fun j => if j = i then hv else hs j) (own_kept_type (own_kept_type h1 h2 (by decide) s2) s1 (by decide) s4) ?_ (fun j hj => ?_) ⟨h4.bars, fun y hy => ?_, h4.kerf, h4.wrong⟩
  · simp only [List.length_set, pcells_set2 hi]
    exact s3
  · simp only [List.length_set] at hj
    by_cases e : j = i
    · subst e
      simp only [if_true, pnth_set_same hi]
      exact own_kept_type (own_kept_type hr h2 (by decide) s2) s1 (by decide) s4
    · simp only [e, if_false]
      rw [pnth_set_other (Ne.symm e)]
      exact own_kept_type (own_kept_type (h3 j hj) h2 (by decide) s2) s1 (by decide) s4
  · rcases List.mem_or_eq_of_mem_set hy with hy | rfl
    · exact h4.pieces y hy
    · exact ⟨hp1, hp2⟩

def ol95 : Op := Op.load 60 (Operand.tmp 94)
theorem lateO : Op.load 60 (Operand.tmp 94) = ol95 := rfl
theorem lateO_out : ol95 = Op.load 60 (Operand.tmp 94) := rfl
theorem field_pieces (a1 a2 : Option Addr) (n1 n2 c1 c2 : Nat) (k r : Int) (w : World) : (Instr.field 25 (.agg #[.slice a1 n1 c1, .int .i64 k, .slice a2 n2 c2, .int .i64 r]) 2).run Try.prog w = .ok (.slice a2 n2 c2) w := by kernel_rfl
attribute [local go_sem] lateO_out field_pieces
attribute [local go_sem ↓] Go.wp_at_zero Go.wp_at_succ

set_option maxRecDepth 100000 in
set_option maxHeartbeats 16000000 in
theorem BarsOrder_any (v : Value) (S : Store) (N P R C D : Int) (w : World) (hx : StoreAt w.heap.size w v S) :
    Calls Try.prog 6 #[v, .int .i64 N, .agg #[.int .i64 P, .int .i64 R, .int .i64 C, .int .i64 D]] w fun e w' => e = .returned (.bool true) ∧ Below w.heap.size w w' := by
  have hx' := hx
  obtain ⟨a, cap1, b1, off, a2, cap2, b2, off2, rfl, hm, hm2, HA, HC, HA2, HC2⟩ := hx.opened
  have HWF := Lib.hid hx'.wf
  have HS0 := Lib.hid ((Stat.first hx').alloc (.cells #[.int .i64 P, .int .i64 R, .int .i64 C, .int .i64 D] 28))
  have HX0 := Lib.hid (show BlkAt ((w.alloc (.cells #[.slice a S.bars.length cap1, .int .i64 S.kerf, .slice a2 S.pieces.length cap2, .int .i64 S.wrong] 25)).alloc (.cells #[.int .i64 P, .int .i64 R, .int .i64 C, .int .i64 D] 28)) (w.heap.size + 1) (.cells #[.int .i64 P, .int .i64 R, .int .i64 C, .int .i64 D] 28) from (heap_at2 w _ _).2)
  clear hx hx' HA2 HC2
  obtain ⟨c0, c1, c2, c3⟩ := box4_of HS0.out.blk
  obtain ⟨x0, x1, x2, x3⟩ := box4_of HX0.out
  cases hr : readyB S
  case false =>
    have HR := Lib.hid hr
    clear hr
    go_enter Try.func6, Try.ntmps6
    go_wp2_with fail
    refine (ready_to HR.out HS0.out.st).mono ?_
    rintro e w1 ⟨rfl, hb⟩
    have HS1 := Lib.hid (HS0.out.next hb)
    have HX1 := Lib.hid (HX0.out.next hb)
    clear hb c0 c1 c2 c3 x0 x1 x2 x3
    obtain ⟨c0, c1, c2, c3⟩ := box4_of HS1.out.blk
    obtain ⟨x0, x1, x2, x3⟩ := box4_of HX1.out
    go_wp2_with fail
    refine (works_any _).mono ?_
    rintro e wz ⟨rfl, hb⟩
    have HB := Lib.hid ((HS1.out.next hb).b)
    clear hb
    go_wp2
    go_ret
    exact ⟨rfl, HB.out⟩
  obtain ⟨hV, hFew, hb4, hp5⟩ := readyB_few hr
  have HR := Lib.hid hr
  have HV := Lib.hid hV
  have HFEW := Lib.hid hFew
  clear hr hV hFew
  by_cases h0 : 0 ≤ N
  case neg =>
    have hd1 : decide (N < 0) = true := decide_eq_true (by omega)
    clear h0
    go_enter Try.func6, Try.ntmps6
    go_wp2_with fail
    refine (ready_to HR.out HS0.out.st).mono ?_
    rintro e w1 ⟨rfl, hb⟩
    have HS1 := Lib.hid (HS0.out.next hb)
    have HX1 := Lib.hid (HX0.out.next hb)
    clear hb c0 c1 c2 c3 x0 x1 x2 x3
    obtain ⟨c0, c1, c2, c3⟩ := box4_of HS1.out.blk
    obtain ⟨x0, x1, x2, x3⟩ := box4_of HX1.out
    go_wp2_with fail
    refine (works_any _).mono ?_
    rintro e wz ⟨rfl, hb⟩
    have HB := Lib.hid ((HS1.out.next hb).b)
    clear hb
    go_wp2
    go_ret
    exact ⟨rfl, HB.out⟩
  by_cases h1 : N ≤ 100
  case neg =>
    have hd1 : decide (N < 0) = false := decide_eq_false (by omega)
    have hd2 : decide (100 < N) = true := decide_eq_true (by omega)
    clear h0 h1
    go_enter Try.func6, Try.ntmps6
    go_wp2_with fail
    refine (ready_to HR.out HS0.out.st).mono ?_
    rintro e w1 ⟨rfl, hb⟩
    have HS1 := Lib.hid (HS0.out.next hb)
    have HX1 := Lib.hid (HX0.out.next hb)
    clear hb c0 c1 c2 c3 x0 x1 x2 x3
    obtain ⟨c0, c1, c2, c3⟩ := box4_of HS1.out.blk
    obtain ⟨x0, x1, x2, x3⟩ := box4_of HX1.out
    go_wp2_with fail
    refine (works_any _).mono ?_
    rintro e wz ⟨rfl, hb⟩
    have HB := Lib.hid ((HS1.out.next hb).b)
    clear hb
    go_wp2
    go_ret
    exact ⟨rfl, HB.out⟩
  obtain ⟨n, rfl⟩ := Int.eq_ofNat_of_zero_le h0
  go_enter Try.func6, Try.ntmps6
  go_wp2_with fail
  refine (ready_to HR.out HS0.out.st).mono ?_
  rintro e w1 ⟨rfl, hb⟩
  have HS1 := Lib.hid (HS0.out.next hb)
  have HX1 := Lib.hid (HX0.out.next hb)
  clear hb c0 c1 c2 c3 x0 x1 x2 x3
  obtain ⟨c0, c1, c2, c3⟩ := box4_of HS1.out.blk
  obtain ⟨x0, x1, x2, x3⟩ := box4_of HX1.out
  go_wp2_with fail
  refine (Copy_any _ S _ HS1.out.st HFEW.out).mono ?_
  rintro e w2 ⟨u, rfl, hcp, hb⟩
  obtain ⟨f1, k1, f2, k2, rfl⟩ := hcp.shape
  have HE2 := Lib.hid (Ed.first hcp hb)
  have HS2 := Lib.hid (HS1.out.next hb)
  have HX2 := Lib.hid (HX1.out.next hb)
  clear hb c0 c1 c2 c3 x0 x1 x2 x3
  obtain ⟨c0, c1, c2, c3⟩ := box4_of HS2.out.blk
  obtain ⟨x0, x1, x2, x3⟩ := box4_of HX2.out
  unfold aggS
  go_wp2
  have hbow : w.heap.size < w2.heap.size := HS2.out.lt
  have hw12 := HE2.out.l
  have hw1 : w.heap.size + 1 < w1.heap.size := HX1.out.lt
  clear c0 c1 c2 c3 x0 x1 x2 x3 hcp
  go_loopw [8] (fun i wr => ∃ k : Nat, k ≤ S.bars.length ∧ i = .int .i64 k ∧ Hid (Ed w1 wr w2.heap.size ⟨rotTo S n k, S.kerf, S.pieces, S.wrong⟩ (.slice f1 S.bars.length k1) (.slice f2 S.pieces.length k2))) (fun i _ => S.bars.length - (intOf i).toNat)
  case atStart => exact ⟨0, Nat.zero_le _, rfl, by rw [rotTo_zero]; exact HE2⟩
  case round =>
    obtain ⟨k, hk, rfl, hE⟩ := hrel
    have hst := HS1.out.next hE.out.b
    obtain ⟨c0, c1, c2, c3⟩ := box4_of hst.blk
    obtain ⟨⟨o0, o1, o2, o3⟩, _⟩ := box4f_of hE.out.o
    by_cases hlt : k < S.bars.length
    · obtain ⟨m, hmm⟩ : ∃ m, m = (k + n) % S.bars.length := ⟨_, rfl⟩
      have hml : m < S.bars.length := by rw [hmm]; exact Nat.mod_lt _ (by omega)
      obtain ⟨rfl, hb1⟩ := HA.out (by omega)
      have d1 := (hst.b.cell (p := ⟨b1, off + m * 2, none⟩) hb1).trans (HC.out m hml).1
      have d2 := (hst.b.cell (p := ⟨b1, off + m * 2 + 1, none⟩) hb1).trans (HC.out m hml).2
      obtain ⟨g, cap, hbv, e1, e2, ff, hgo, hgl, hset⟩ := hE.out.barAt (i := k) (by rw [rotTo_len]; exact hlt)
      injection hbv with hbv hlen hcap
      clear hlen
      subst hbv
      cases hcap
      have q1 := ff (k * 2)
      have q2 := ff (k * 2 + 1)
      obtain ⟨wb1, wb2⟩ := HWF.out.bars (bnth S.bars m) (by rw [bnth_lt hml]; exact List.getElem_mem hml)
      have HSET := Lib.hid (hset (bnth S.bars m) wb1 wb2)
      have HR2 := Lib.hid (show (rotTo S n k).set k (bnth S.bars m) = rotTo S n (k + 1) from by rw [hmm, rotTo_step hlt])
      have hgw : g ≠ w.heap.size := by omega
      have hgb : g ≠ b1 := by omega
      have hk0 : (0 : Int) ≤ (k : Int) := by omega
      have hk1 : (k : Int) < (S.bars.length : Int) := by omega
      have hm0 : (0 : Int) ≤ (m : Int) := by omega
      have hm1 : (m : Int) < (S.bars.length : Int) := by omega
      have hwr : IntKind.i64.wrap ((k : Int) + (n : Int)) = (k : Int) + (n : Int) := IntWalk.i64_in _ (by omega)
      have htm : ((k : Int) + (n : Int)).tmod (S.bars.length : Int) = (m : Int) := by rw [hmm, Int.natCast_emod, Int.natCast_add]; exact Int.tmod_eq_emod_of_nonneg (by omega)
      have hem : ((k : Int) + (n : Int)) % (S.bars.length : Int) = (m : Int) := by rw [hmm, Int.natCast_emod, Int.natCast_add]
      have hz2 : ¬ (S.bars.length : Int) = 0 := by omega
      have hz3 : ¬ S.bars = [] := fun q => by rw [q] at hlt; simp at hlt
      have hz1 : ((S.bars.length : Int) == 0) = false := by simpa using hz3
      clear hset ff hmm hst hE
      go_wp2_with fail
      go_region_held3 (fun w' => w'.cell? ⟨w2.heap.size, 0, none⟩ = some (.slice (some ⟨g, 0, none⟩) S.bars.length k1) ∧ w'.cell? ⟨w.heap.size, 0, none⟩ = some (.slice (some ⟨b1, off, none⟩) S.bars.length cap1) ∧ w'.cell? ⟨b1, off + m * 2, none⟩ = some (.int .i64 (bnth S.bars m).heat) ∧ w'.cell? ⟨b1, off + m * 2 + 1, none⟩ = some (.int .i64 (bnth S.bars m).long))
        (first
          | exact ⟨o0, c0, d1, d2⟩
          | (go_split_ands; exact ⟨‹_›, ‹_›, ‹_›, ‹_›⟩)
          | exact ⟨cell_set (cell_set o0 _ _ hgo) _ _ hgo, cell_set (cell_set c0 _ _ hgw) _ _ hgw, cell_set (cell_set d1 _ _ hgb) _ _ hgb, cell_set (cell_set d2 _ _ hgb) _ _ hgb⟩)
        (fail)
      clear hwr htm hem hz1 hz2 hz3
      go_wp2_with fail
      exact ⟨⟨k + 1, by omega, by go_num, by rw [← HR2.out]; exact Lib.hid (HSET.out.next (drew_below _))⟩, by simp [intOf]; omega⟩
    · obtain rfl : S.bars.length = k := by omega
      go_wp2
      clear c0 c1 c2 c3 o0 o1 o2 o3 hst
      go_loopw [9] (fun i wq => ∃ j : Nat, j ≤ S.pieces.length ∧ i = .int .i64 j ∧ Hid (Ed w1 wq w2.heap.size ⟨rotTo S n S.bars.length, S.kerf, revTo S j, S.wrong⟩ (.slice f1 S.bars.length k1) (.slice f2 S.pieces.length k2))) (fun i _ => S.pieces.length - (intOf i).toNat)
      case atStart => exact ⟨0, Nat.zero_le _, rfl, by rw [revTo_zero]; exact hE⟩
      case round =>
        clear hE
        obtain ⟨j, hj, rfl, hE⟩ := hrel
        have hst := HS1.out.next hE.out.b
        obtain ⟨c0, c1, c2, c3⟩ := box4_of hst.blk
        obtain ⟨⟨o0, o1, o2, o3⟩, _⟩ := box4f_of hE.out.o
        by_cases hlt : j < S.pieces.length
        · obtain ⟨q, hqq⟩ : ∃ q, q = S.pieces.length - 1 - j := ⟨_, rfl⟩
          have hql : q < S.pieces.length := by omega
          obtain ⟨g, cap, hpv, e1, ⟨z, e2, hz1⟩, ff, hgo, hgl, hgs, hset⟩ := hE.out.pieceAt (i := q) (by rw [revTo_len]; exact hql)
          injection hpv with hpv hlen hcap
          clear hlen
          subst hpv
          cases hcap
          have q1 := ff (q * 2)
          have q2 := ff (q * 2 + 1)
          have HR2 := Lib.hid (show (revTo S j).set q (pnth S.pieces j) = revTo S (j + 1) from by rw [hqq, revTo_step hlt])
          have hgw : g ≠ w.heap.size := by omega
          have hj0 : (0 : Int) ≤ (j : Int) := by omega
          have hj1 : (j : Int) < (S.pieces.length : Int) := by omega
          have hq0 : (0 : Int) ≤ (q : Int) := by omega
          have hq1 : (q : Int) < (S.pieces.length : Int) := by omega
          have hwr : IntKind.i64.wrap ((S.pieces.length : Int) - 1) = (S.pieces.length : Int) - 1 := IntWalk.i64_in _ (by omega)
          have hwr2 : IntKind.i64.wrap ((S.pieces.length : Int) - 1 - (j : Int)) = (q : Int) := by rw [IntWalk.i64_in _ (by omega)]; omega
          have hbo : w2.heap.size < wr.heap.size := (Array.getElem?_eq_some_iff.1 hE.out.o).1
          have hbw : w.heap.size < wr.heap.size := hst.lt
          have HST := Lib.hid (hst.next (drew_below wr))
          have HSET := Lib.hid hset
          have HSZ := Lib.hid hE.out.b.size
          have hgq : g < wr.heap.size := hgs
          obtain ⟨wp1, wp2⟩ := HWF.out.pieces (pnth S.pieces j) (by rw [pnth_lt hlt]; exact List.getElem_mem hlt)
          have HWP1 := Lib.hid wp1
          have HWP2 := Lib.hid wp2
          clear hset ff hqq hst hE wp1 wp2 o0 o1 o3
          go_wp2_with fail
          rw [lateO]
          go_region_held3 (fun w' => w'.cell? ⟨w2.heap.size, 2, none⟩ = some (.slice (some ⟨g, 0, none⟩) S.pieces.length k2) ∧ w'.cell? ⟨w.heap.size, 0, none⟩ = some (.slice a S.bars.length cap1) ∧ w'.cell? ⟨w.heap.size, 1, none⟩ = some (.int .i64 S.kerf) ∧ w'.cell? ⟨w.heap.size, 2, none⟩ = some (.slice a2 S.pieces.length cap2) ∧ w'.cell? ⟨w.heap.size, 3, none⟩ = some (.int .i64 S.wrong))
            (first
              | exact ⟨o2, c0, c1, c2, c3⟩
              | (go_split_ands; exact ⟨‹_›, ‹_›, ‹_›, ‹_›, ‹_›⟩)
              | exact ⟨(hb.cell hbo).trans o2, (hb.cell hbw).trans c0, (hb.cell hbw).trans c1, (hb.cell hbw).trans c2, (hb.cell hbw).trans c3⟩
              | exact ⟨cell_set (cell_set ((hb.cell hbo).trans o2) _ _ hgo) _ _ hgo, cell_set (cell_set ((hb.cell hbw).trans c0) _ _ hgw) _ _ hgw, cell_set (cell_set ((hb.cell hbw).trans c1) _ _ hgw) _ _ hgw, cell_set (cell_set ((hb.cell hbw).trans c2) _ _ hgw) _ _ hgw, cell_set (cell_set ((hb.cell hbw).trans c3) _ _ hgw) _ _ hgw⟩)
            ((go_at_call 35; refine (Copy_any _ S _ HST.out.st HFEW.out).mono ?_; rintro e w7 ⟨u, rfl, hcp, hb⟩; obtain ⟨g1, m1, g2, m2, rfl⟩ := hcp.shape; obtain ⟨hs, r1, r2, r3, r4⟩ := hcp.parts; obtain ⟨gC, capC, hgc, hgcl, hgct⟩ := r2.form (by omega); cases hgc; unfold aggS; obtain ⟨hA, hcap, hse, _⟩ := own_form (r3 j hlt); have p1 := (r2.cellAt (j * 2) (by omega)).trans (pcells_at S.pieces hs hlt).1; have p2 := (r2.cellAt (j * 2 + 1) (by omega)).trans (pcells_at S.pieces hs hlt).2; rw [hse] at p2; have y1 : w7.cell? ⟨g, q * 2, none⟩ = some _ := (hb.cell hgq).trans e1; have y2 : w7.cell? ⟨g, q * 2 + 1, none⟩ = some _ := (hb.cell hgq).trans e2; have y3 : w7.frozen? ⟨g, q * 2, none⟩ = false := (hb.frozen hgq).trans q1; have y4 : w7.frozen? ⟨g, q * 2 + 1, none⟩ = false := (hb.frozen hgq).trans q2))
          have HE := Lib.hid (HSET.out w7 (pnth S.pieces j) (.slice hA (pnth S.pieces j).heats.length hcap) ((drew_below wr).trans hb) HWP1.out HWP2.out (by rw [← hse]; exact own_base (r3 j hlt) HSZ.out))
          clear hwr hwr2 p1 p2 y1 y2 y3 y4 r1 r2 r3 r4 hse hb hcp e1 e2 q1 q2
          go_wp2_with fail
          exact ⟨⟨j + 1, by omega, by go_num, by rw [← HR2.out]; exact HE⟩, by simp [intOf]; omega⟩
        · obtain rfl : S.pieces.length = j := by omega
          have ho : Stat w wr w2.heap.size (.slice f1 S.bars.length k1) (.int .i64 S.kerf) (.slice f2 S.pieces.length k2) (.int .i64 S.wrong) (turned S n) := hE.out.stat HS1.out.b
          have HX2' := Lib.hid (HX1.out.next hE.out.b)
          obtain ⟨O, hO⟩ : ∃ O, O = turned S n := ⟨_, rfl⟩
          have hT := turned_turn S n
          rw [← hO] at ho hT
          have hVO := hT.valid HV.out
          have HS0' := Lib.hid hst
          have HO0 := Lib.hid ho
          have HT := Lib.hid hT
          have HVO := Lib.hid hVO
          have hnpO := hT.np
          have HNP := Lib.hid hnpO
          have hnbO := hT.nb
          have HNB := Lib.hid hnbO
          obtain ⟨m, hmm⟩ : ∃ m, m = (truthsL S).length := ⟨_, rfl⟩
          obtain ⟨er, her⟩ : ∃ e, e = errN (truthsL S).length := ⟨_, rfl⟩
          have HM1 := Lib.hid (fun w (h : StoreAt w.heap.size w (.agg #[.slice a S.bars.length cap1, .int .i64 S.kerf, .slice a2 S.pieces.length cap2, .int .i64 S.wrong]) S) => show Calls Try.prog 33 #[.agg #[.slice a S.bars.length cap1, .int .i64 S.kerf, .slice a2 S.pieces.length cap2, .int .i64 S.wrong]] w (fun e w' => e = .returned (.tuple #[.int .i64 m, .int .i64 er]) ∧ Below w.heap.size w w') from by
            have := Many_any _ S w h HV.out
            rwa [← hmm, hmm, ← her, ← hmm] at this)
          have HM2 := Lib.hid (fun w (h : StoreAt w.heap.size w (.agg #[.slice f1 S.bars.length k1, .int .i64 S.kerf, .slice f2 S.pieces.length k2, .int .i64 S.wrong]) O) => show Calls Try.prog 33 #[.agg #[.slice f1 S.bars.length k1, .int .i64 S.kerf, .slice f2 S.pieces.length k2, .int .i64 S.wrong]] w (fun e w' => e = .returned (.tuple #[.int .i64 m, .int .i64 er]) ∧ Below w.heap.size w w') from by
            have := Many_any _ O w h HVO.out
            rwa [HT.out.many HV.out HVO.out, ← her, ← hmm] at this)
          obtain ⟨f, hf⟩ : ∃ f, f = (fewV S).1 := ⟨_, rfl⟩
          obtain ⟨fe, hfe⟩ : ∃ f, f = (fewV S).2 := ⟨_, rfl⟩
          have HF1 := Lib.hid (fun w (h : StoreAt w.heap.size w (.agg #[.slice a S.bars.length cap1, .int .i64 S.kerf, .slice a2 S.pieces.length cap2, .int .i64 S.wrong]) S) => show Calls Try.prog 17 #[.agg #[.slice a S.bars.length cap1, .int .i64 S.kerf, .slice a2 S.pieces.length cap2, .int .i64 S.wrong]] w (fun e w' => e = .returned (.tuple #[.int .i64 f, .int .i64 fe]) ∧ Below w.heap.size w w') from by
            have := Fewest_any _ S w h HV.out
            rwa [← hf, ← hfe] at this)
          have HF2 := Lib.hid (fun w (h : StoreAt w.heap.size w (.agg #[.slice f1 S.bars.length k1, .int .i64 S.kerf, .slice f2 S.pieces.length k2, .int .i64 S.wrong]) O) => show Calls Try.prog 17 #[.agg #[.slice f1 S.bars.length k1, .int .i64 S.kerf, .slice f2 S.pieces.length k2, .int .i64 S.wrong]] w (fun e w' => e = .returned (.tuple #[.int .i64 f, .int .i64 fe]) ∧ Below w.heap.size w w') from by
            have := Fewest_any _ O w h HVO.out
            rwa [HT.out.few HV.out HVO.out, ← hf, ← hfe] at this)
          obtain ⟨le, hle⟩ : ∃ f, f = leastS S := ⟨_, rfl⟩
          have HL1 := Lib.hid (fun w (h : StoreAt w.heap.size w (.agg #[.slice a S.bars.length cap1, .int .i64 S.kerf, .slice a2 S.pieces.length cap2, .int .i64 S.wrong]) S) => show Calls Try.prog 18 #[.agg #[.slice a S.bars.length cap1, .int .i64 S.kerf, .slice a2 S.pieces.length cap2, .int .i64 S.wrong]] w (fun e w' => e = .returned (.tuple #[.int .i64 le, .int .i64 er]) ∧ Below w.heap.size w w') from by
            have := Least_any _ S w h HV.out
            rwa [← hle, ← her] at this)
          have HL2 := Lib.hid (fun w (h : StoreAt w.heap.size w (.agg #[.slice f1 S.bars.length k1, .int .i64 S.kerf, .slice f2 S.pieces.length k2, .int .i64 S.wrong]) O) => show Calls Try.prog 18 #[.agg #[.slice f1 S.bars.length k1, .int .i64 S.kerf, .slice f2 S.pieces.length k2, .int .i64 S.wrong]] w (fun e w' => e = .returned (.tuple #[.int .i64 le, .int .i64 er]) ∧ Below w.heap.size w w') from by
            have := Least_any _ O w h HVO.out
            rwa [HT.out.many HV.out HVO.out, ← her, HT.out.least' HV.out HVO.out, ← hle] at this)
          obtain ⟨ro, hro⟩ : ∃ f, f = (roomT S D).1 := ⟨_, rfl⟩
          obtain ⟨re, hre⟩ : ∃ f, f = (roomT S D).2 := ⟨_, rfl⟩
          have hroom : roomT O D = roomT S D := by
            unfold roomT
            rw [valid_iff.2 HV.out, valid_iff.2 HVO.out, HT.out.room HV.out HVO.out]
          have HR1 := Lib.hid (fun w (h : StoreAt w.heap.size w (.agg #[.slice a S.bars.length cap1, .int .i64 S.kerf, .slice a2 S.pieces.length cap2, .int .i64 S.wrong]) S) => show Calls Try.prog 26 #[.agg #[.slice a S.bars.length cap1, .int .i64 S.kerf, .slice a2 S.pieces.length cap2, .int .i64 S.wrong], .int .i64 D] w (fun e w' => e = .returned (.tuple #[.int .i64 ro, .int .i64 re]) ∧ Below w.heap.size w w') from by
            have := Room_all _ S D w h
            rwa [← hro, ← hre] at this)
          have HR2 := Lib.hid (fun w (h : StoreAt w.heap.size w (.agg #[.slice f1 S.bars.length k1, .int .i64 S.kerf, .slice f2 S.pieces.length k2, .int .i64 S.wrong]) O) => show Calls Try.prog 26 #[.agg #[.slice f1 S.bars.length k1, .int .i64 S.kerf, .slice f2 S.pieces.length k2, .int .i64 S.wrong], .int .i64 D] w (fun e w' => e = .returned (.tuple #[.int .i64 ro, .int .i64 re]) ∧ Below w.heap.size w w') from by
            have := Room_all _ O D w h
            rwa [hroom, ← hro, ← hre] at this)
          clear hmm her hf hfe hle hro hre hroom hO hT hVO hnpO hnbO ho hst hE c0 c1 c2 c3 o0 o1 o2 o3
          have HS20 := HS0'
          have HX20 := HX2'
          have HO20 := HO0
          obtain ⟨c0, c1, c2, c3⟩ := box4_of HS20.out.blk
          obtain ⟨o0, o1, o2, o3⟩ := box4_of HO20.out.blk
          obtain ⟨x0, x1, x2, x3⟩ := box4_of HX20.out
          go_wp2_with fail
          refine (HM1.out _ HS20.out.st).mono ?_
          rintro e w21 ⟨rfl, hb⟩
          have HS21 := Lib.hid (HS20.out.next hb)
          have HX21 := Lib.hid (HX20.out.next hb)
          have HO21 := Lib.hid (HO20.out.next hb)
          clear hb c0 c1 c2 c3 o0 o1 o2 o3 x0 x1 x2 x3
          obtain ⟨c0, c1, c2, c3⟩ := box4_of HS21.out.blk
          obtain ⟨o0, o1, o2, o3⟩ := box4_of HO21.out.blk
          obtain ⟨x0, x1, x2, x3⟩ := box4_of HX21.out
          go_wp2_with fail
          refine (HM2.out _ HO21.out.st).mono ?_
          rintro e w22 ⟨rfl, hb⟩
          have HS22 := Lib.hid (HS21.out.next hb)
          have HX22 := Lib.hid (HX21.out.next hb)
          have HO22 := Lib.hid (HO21.out.next hb)
          clear hb c0 c1 c2 c3 o0 o1 o2 o3 x0 x1 x2 x3
          obtain ⟨c0, c1, c2, c3⟩ := box4_of HS22.out.blk
          obtain ⟨o0, o1, o2, o3⟩ := box4_of HO22.out.blk
          obtain ⟨x0, x1, x2, x3⟩ := box4_of HX22.out
          go_wp2_with fail
          refine (HF1.out _ HS22.out.st).mono ?_
          rintro e w23 ⟨rfl, hb⟩
          have HS23 := Lib.hid (HS22.out.next hb)
          have HX23 := Lib.hid (HX22.out.next hb)
          have HO23 := Lib.hid (HO22.out.next hb)
          clear hb c0 c1 c2 c3 o0 o1 o2 o3 x0 x1 x2 x3
          obtain ⟨c0, c1, c2, c3⟩ := box4_of HS23.out.blk
          obtain ⟨o0, o1, o2, o3⟩ := box4_of HO23.out.blk
          obtain ⟨x0, x1, x2, x3⟩ := box4_of HX23.out
          go_wp2_with fail
          refine (HF2.out _ HO23.out.st).mono ?_
          rintro e w24 ⟨rfl, hb⟩
          have HS24 := Lib.hid (HS23.out.next hb)
          have HX24 := Lib.hid (HX23.out.next hb)
          have HO24 := Lib.hid (HO23.out.next hb)
          clear hb c0 c1 c2 c3 o0 o1 o2 o3 x0 x1 x2 x3
          obtain ⟨c0, c1, c2, c3⟩ := box4_of HS24.out.blk
          obtain ⟨o0, o1, o2, o3⟩ := box4_of HO24.out.blk
          obtain ⟨x0, x1, x2, x3⟩ := box4_of HX24.out
          go_wp2_with fail
          refine (HL1.out _ HS24.out.st).mono ?_
          rintro e w25 ⟨rfl, hb⟩
          have HS25 := Lib.hid (HS24.out.next hb)
          have HX25 := Lib.hid (HX24.out.next hb)
          have HO25 := Lib.hid (HO24.out.next hb)
          clear hb c0 c1 c2 c3 o0 o1 o2 o3 x0 x1 x2 x3
          obtain ⟨c0, c1, c2, c3⟩ := box4_of HS25.out.blk
          obtain ⟨o0, o1, o2, o3⟩ := box4_of HO25.out.blk
          obtain ⟨x0, x1, x2, x3⟩ := box4_of HX25.out
          go_wp2_with fail
          refine (HL2.out _ HO25.out.st).mono ?_
          rintro e w26 ⟨rfl, hb⟩
          have HS26 := Lib.hid (HS25.out.next hb)
          have HX26 := Lib.hid (HX25.out.next hb)
          have HO26 := Lib.hid (HO25.out.next hb)
          clear hb c0 c1 c2 c3 o0 o1 o2 o3 x0 x1 x2 x3
          obtain ⟨c0, c1, c2, c3⟩ := box4_of HS26.out.blk
          obtain ⟨o0, o1, o2, o3⟩ := box4_of HO26.out.blk
          obtain ⟨x0, x1, x2, x3⟩ := box4_of HX26.out
          go_wp2_with fail
          refine (HR1.out _ HS26.out.st).mono ?_
          rintro e w27 ⟨rfl, hb⟩
          have HS27 := Lib.hid (HS26.out.next hb)
          have HX27 := Lib.hid (HX26.out.next hb)
          have HO27 := Lib.hid (HO26.out.next hb)
          clear hb c0 c1 c2 c3 o0 o1 o2 o3 x0 x1 x2 x3
          obtain ⟨c0, c1, c2, c3⟩ := box4_of HS27.out.blk
          obtain ⟨o0, o1, o2, o3⟩ := box4_of HO27.out.blk
          obtain ⟨x0, x1, x2, x3⟩ := box4_of HX27.out
          go_wp2_with fail
          refine (HR2.out _ HO27.out.st).mono ?_
          rintro e w28 ⟨rfl, hb⟩
          have HS28 := Lib.hid (HS27.out.next hb)
          have HX28 := Lib.hid (HX27.out.next hb)
          have HO28 := Lib.hid (HO27.out.next hb)
          clear hb c0 c1 c2 c3 o0 o1 o2 o3 x0 x1 x2 x3
          obtain ⟨c0, c1, c2, c3⟩ := box4_of HS28.out.blk
          obtain ⟨o0, o1, o2, o3⟩ := box4_of HO28.out.blk
          obtain ⟨x0, x1, x2, x3⟩ := box4_of HX28.out
          obtain ⟨bP, hbP⟩ : ∃ b, wB P 0 ((S.pieces.length : Int) - 1) = b := ⟨_, rfl⟩
          obtain ⟨bR, hbR⟩ : ∃ b, wB R 0 ((S.pieces.length : Int) - 1) = b := ⟨_, rfl⟩
          have HBP := Lib.hid hbP
          have HBR := Lib.hid hbR
          clear hbP hbR
          go_upto_region 23 with fail
          go_cut [192] from 183 to 191 (fun b wz => b = .bool (bP && bR) ∧ Hid (Stat w wz w.heap.size (.slice a S.bars.length cap1) (.int .i64 S.kerf) (.slice a2 S.pieces.length cap2) (.int .i64 S.wrong) S) ∧ Hid (BlkAt wz (w.heap.size + 1) (.cells #[.int .i64 P, .int .i64 R, .int .i64 C, .int .i64 D] 28)) ∧ Hid (Stat w wz w2.heap.size (.slice f1 S.bars.length k1) (.int .i64 S.kerf) (.slice f2 S.pieces.length k2) (.int .i64 S.wrong) O))
          case first =>
            cases bP
            · go_wp2_with fail
              refine (rIsPiece_to HBP.out HS28.out.st).mono ?_
              rintro e w29 ⟨rfl, hb⟩
              have HS29 := Lib.hid (HS28.out.next hb)
              have HX29 := Lib.hid (HX28.out.next hb)
              have HO29 := Lib.hid (HO28.out.next hb)
              clear hb c0 c1 c2 c3 o0 o1 o2 o3 x0 x1 x2 x3
              obtain ⟨c0, c1, c2, c3⟩ := box4_of HS29.out.blk
              obtain ⟨o0, o1, o2, o3⟩ := box4_of HO29.out.blk
              obtain ⟨x0, x1, x2, x3⟩ := box4_of HX29.out
              go_wp2_with fail
              go_meet
              exact ⟨rfl, HS29, HX29, HO29⟩
            · go_wp2_with fail
              refine (rIsPiece_to HBP.out HS28.out.st).mono ?_
              rintro e w29 ⟨rfl, hb⟩
              have HS29 := Lib.hid (HS28.out.next hb)
              have HX29 := Lib.hid (HX28.out.next hb)
              have HO29 := Lib.hid (HO28.out.next hb)
              clear hb c0 c1 c2 c3 o0 o1 o2 o3 x0 x1 x2 x3
              obtain ⟨c0, c1, c2, c3⟩ := box4_of HS29.out.blk
              obtain ⟨o0, o1, o2, o3⟩ := box4_of HO29.out.blk
              obtain ⟨x0, x1, x2, x3⟩ := box4_of HX29.out
              go_wp2_with fail
              refine (rIsPiece_to HBR.out HS29.out.st).mono ?_
              rintro e w30 ⟨rfl, hb⟩
              have HS30 := Lib.hid (HS29.out.next hb)
              have HX30 := Lib.hid (HX29.out.next hb)
              have HO30 := Lib.hid (HO29.out.next hb)
              clear hb c0 c1 c2 c3 o0 o1 o2 o3 x0 x1 x2 x3
              obtain ⟨c0, c1, c2, c3⟩ := box4_of HS30.out.blk
              obtain ⟨o0, o1, o2, o3⟩ := box4_of HO30.out.blk
              obtain ⟨x0, x1, x2, x3⟩ := box4_of HX30.out
              go_wp2_with fail
              go_meet
              exact ⟨rfl, HS30, HX30, HO30⟩
          case rest =>
          obtain ⟨rfl, HS30, HX30, HO30⟩ := hcut
          clear c0 c1 c2 c3 o0 o1 o2 o3 x0 x1 x2 x3
          obtain ⟨c0, c1, c2, c3⟩ := box4_of HS30.out.blk
          obtain ⟨o0, o1, o2, o3⟩ := box4_of HO30.out.blk
          obtain ⟨x0, x1, x2, x3⟩ := box4_of HX30.out
          go_upto_if 192 with fail
          go_cut [] (fun wx => Hid (Stat w wx w.heap.size (.slice a S.bars.length cap1) (.int .i64 S.kerf) (.slice a2 S.pieces.length cap2) (.int .i64 S.wrong) S) ∧ Hid (BlkAt wx (w.heap.size + 1) (.cells #[.int .i64 P, .int .i64 R, .int .i64 C, .int .i64 D] 28)) ∧ Hid (Stat w wx w2.heap.size (.slice f1 S.bars.length k1) (.int .i64 S.kerf) (.slice f2 S.pieces.length k2) (.int .i64 S.wrong) O))
          case first =>
            cases hbb : (bP && bR)
            · go_wp2_with fail
              go_meet
              exact ⟨HS30, HX30, HO30⟩
            · rw [Bool.and_eq_true] at hbb
              obtain ⟨rfl, rfl⟩ := hbb
              have h2 := wB_iff.1 HBP.out
              have h3 := wB_iff.1 HBR.out
              obtain ⟨p, rfl⟩ := Int.eq_ofNat_of_zero_le h2.1
              obtain ⟨r, rfl⟩ := Int.eq_ofNat_of_zero_le h3.1
              have hp : p < S.pieces.length := by omega
              have hr : r < S.pieces.length := by omega
              obtain ⟨ka, hka⟩ : ∃ k, k = (alikeV S p r).1 := ⟨_, rfl⟩
              obtain ⟨ke, hke⟩ : ∃ k, k = (alikeV S p r).2 := ⟨_, rfl⟩
              have HA1 := Lib.hid (fun w (h : StoreAt w.heap.size w (.agg #[.slice a S.bars.length cap1, .int .i64 S.kerf, .slice a2 S.pieces.length cap2, .int .i64 S.wrong]) S) => show Calls Try.prog 31 #[.agg #[.slice a S.bars.length cap1, .int .i64 S.kerf, .slice a2 S.pieces.length cap2, .int .i64 S.wrong], .int .i64 p, .int .i64 r] w (fun e w' => e = .returned (.tuple #[.int .i64 ka, .int .i64 ke]) ∧ Below w.heap.size w w') from by
                have := Alike_any _ S p r w h HV.out hp hr
                rwa [← hka, ← hke] at this)
              have HA2 := Lib.hid (fun w (h : StoreAt w.heap.size w (.agg #[.slice f1 S.bars.length k1, .int .i64 S.kerf, .slice f2 S.pieces.length k2, .int .i64 S.wrong]) O) => show Calls Try.prog 31 #[.agg #[.slice f1 S.bars.length k1, .int .i64 S.kerf, .slice f2 S.pieces.length k2, .int .i64 S.wrong], .int .i64 ((S.pieces.length : Int) - 1 - p), .int .i64 ((S.pieces.length : Int) - 1 - r)] w (fun e w' => e = .returned (.tuple #[.int .i64 ka, .int .i64 ke]) ∧ Below w.heap.size w w') from by
                have := Alike_any _ O (S.pieces.length - 1 - p) (S.pieces.length - 1 - r) w h HVO.out (by rw [HNP.out]; omega) (by rw [HNP.out]; omega)
                rw [HT.out.alike HV.out HVO.out hp hr, ← hka, ← hke] at this
                rwa [show ((S.pieces.length : Int) - 1 - p) = ((S.pieces.length - 1 - p : Nat) : Int) by omega, show ((S.pieces.length : Int) - 1 - r) = ((S.pieces.length - 1 - r : Nat) : Int) by omega])
              obtain ⟨he, hhe⟩ : ∃ e, e = errN (truthsL S).length := ⟨_, rfl⟩
              have HH1 := Lib.hid (fun w (h : StoreAt w.heap.size w (.agg #[.slice a S.bars.length cap1, .int .i64 S.kerf, .slice a2 S.pieces.length cap2, .int .i64 S.wrong]) S) => show Calls Try.prog 30 #[.agg #[.slice a S.bars.length cap1, .int .i64 S.kerf, .slice a2 S.pieces.length cap2, .int .i64 S.wrong], .int .i64 p] w (GaveIntsE (heatsS S p) he w) from by
                have := Heats_any _ S p w h HV.out hp
                rwa [of_len HV.out hp, ← hhe] at this)
              have HH2 := Lib.hid (fun w (h : StoreAt w.heap.size w (.agg #[.slice f1 S.bars.length k1, .int .i64 S.kerf, .slice f2 S.pieces.length k2, .int .i64 S.wrong]) O) => show Calls Try.prog 30 #[.agg #[.slice f1 S.bars.length k1, .int .i64 S.kerf, .slice f2 S.pieces.length k2, .int .i64 S.wrong], .int .i64 ((S.pieces.length : Int) - 1 - p)] w (GaveIntsE (heatsS S p) he w) from by
                have := Heats_any _ O (S.pieces.length - 1 - p) w h HVO.out (by rw [HNP.out]; omega)
                rw [of_len HVO.out (by rw [HNP.out]; omega), HT.out.many HV.out HVO.out, HT.out.heats HV.out HVO.out hp, ← hhe] at this
                rwa [show ((S.pieces.length : Int) - 1 - p) = ((S.pieces.length - 1 - p : Nat) : Int) by omega])
              clear hka hke hhe
              go_wp2_with fail
              refine (HA1.out _ HS30.out.st).mono ?_
              rintro e w31 ⟨rfl, hb⟩
              have HS31 := Lib.hid (HS30.out.next hb)
              have HX31 := Lib.hid (HX30.out.next hb)
              have HO31 := Lib.hid (HO30.out.next hb)
              clear hb c0 c1 c2 c3 o0 o1 o2 o3 x0 x1 x2 x3
              obtain ⟨c0, c1, c2, c3⟩ := box4_of HS31.out.blk
              obtain ⟨o0, o1, o2, o3⟩ := box4_of HO31.out.blk
              obtain ⟨x0, x1, x2, x3⟩ := box4_of HX31.out
              go_wp2_with fail
              refine (HA2.out _ HO31.out.st).mono ?_
              rintro e w32 ⟨rfl, hb⟩
              have HS32 := Lib.hid (HS31.out.next hb)
              have HX32 := Lib.hid (HX31.out.next hb)
              have HO32 := Lib.hid (HO31.out.next hb)
              clear hb c0 c1 c2 c3 o0 o1 o2 o3 x0 x1 x2 x3
              obtain ⟨c0, c1, c2, c3⟩ := box4_of HS32.out.blk
              obtain ⟨o0, o1, o2, o3⟩ := box4_of HO32.out.blk
              obtain ⟨x0, x1, x2, x3⟩ := box4_of HX32.out
              go_wp2_with fail
              refine (HH1.out _ HS32.out.st).mono ?_
              rintro e w33 ⟨v1, rfl, hv, hb⟩
              obtain ⟨A1, n1, _, _, rfl, _, _, _, _⟩ := hv.opened
              have HU33 := Lib.hid hv
              clear hv
              have HS33 := Lib.hid (HS32.out.next hb)
              have HX33 := Lib.hid (HX32.out.next hb)
              have HO33 := Lib.hid (HO32.out.next hb)
              clear hb c0 c1 c2 c3 o0 o1 o2 o3 x0 x1 x2 x3
              obtain ⟨c0, c1, c2, c3⟩ := box4_of HS33.out.blk
              obtain ⟨o0, o1, o2, o3⟩ := box4_of HO33.out.blk
              obtain ⟨x0, x1, x2, x3⟩ := box4_of HX33.out
              go_wp2_with fail
              refine (HH2.out _ HO33.out.st).mono ?_
              rintro e w34 ⟨v2, rfl, hv, hb⟩
              obtain ⟨A2, n2, _, _, rfl, _, _, _, _⟩ := hv.opened
              have HU34 := Lib.hid (HU33.out.to hb)
              have HV34 := Lib.hid hv
              clear hv
              have HS34 := Lib.hid (HS33.out.next hb)
              have HX34 := Lib.hid (HX33.out.next hb)
              have HO34 := Lib.hid (HO33.out.next hb)
              clear hb c0 c1 c2 c3 o0 o1 o2 o3 x0 x1 x2 x3
              obtain ⟨c0, c1, c2, c3⟩ := box4_of HS34.out.blk
              obtain ⟨o0, o1, o2, o3⟩ := box4_of HO34.out.blk
              obtain ⟨x0, x1, x2, x3⟩ := box4_of HX34.out
              go_wp2_with fail
              refine (SameInts_to (r := true) (by simp) HU34.out HV34.out).mono ?_
              rintro e w35 ⟨rfl, hb⟩
              have HS35 := Lib.hid (HS34.out.next hb)
              have HX35 := Lib.hid (HX34.out.next hb)
              have HO35 := Lib.hid (HO34.out.next hb)
              clear hb c0 c1 c2 c3 o0 o1 o2 o3 x0 x1 x2 x3
              obtain ⟨c0, c1, c2, c3⟩ := box4_of HS35.out.blk
              obtain ⟨o0, o1, o2, o3⟩ := box4_of HO35.out.blk
              obtain ⟨x0, x1, x2, x3⟩ := box4_of HX35.out
              go_wp2_with fail
              go_meet
              exact ⟨HS35, HX35, HO35⟩
          case rest =>
          obtain ⟨HS40, HX40, HO40⟩ := hcut
          clear c0 c1 c2 c3 o0 o1 o2 o3 x0 x1 x2 x3
          obtain ⟨c0, c1, c2, c3⟩ := box4_of HS40.out.blk
          obtain ⟨o0, o1, o2, o3⟩ := box4_of HO40.out.blk
          obtain ⟨x0, x1, x2, x3⟩ := box4_of HX40.out
          obtain ⟨bC, hbC⟩ : ∃ b, wB C 0 ((S.bars.length : Int) - 1) = b := ⟨_, rfl⟩
          have HBC := Lib.hid hbC
          cases bC
          · clear hbC
            go_wp2_with (first | (go_at_call 37; refine (rwithin_to HBC.out _).mono ?_; rintro e w' ⟨rfl, rfl⟩) | (go_at_call 15; refine (works_any _).mono ?_; rintro e wz ⟨rfl, hb⟩; have HB := Lib.hid ((HS40.out.next hb).b); clear hb))
            go_ret
            exact ⟨rfl, HB.out⟩
          obtain ⟨hc0, hc1⟩ := wB_iff.1 hbC
          clear hbC
          obtain ⟨c, rfl⟩ := Int.eq_ofNat_of_zero_le hc0
          have hcl : c < S.bars.length := by omega
          obtain ⟨q, hqq⟩ : ∃ q, q = (c + n) % S.bars.length := ⟨_, rfl⟩
          have hql : q < S.bars.length := by rw [hqq]; exact Nat.mod_lt _ (by omega)
          have hrr : restT O c = restT S q := by
            have h1 : wB (c : Int) 0 ((O.bars.length : Int) - 1) = true := wB_iff.2 ⟨by omega, by rw [HNB.out]; omega⟩
            have h2 : wB (q : Int) 0 ((S.bars.length : Int) - 1) = true := wB_iff.2 ⟨by omega, by omega⟩
            unfold restT
            rw [valid_iff.2 HV.out, valid_iff.2 HVO.out, h1, h2, HT.out.many HV.out HVO.out]
            have := HT.out.span HV.out HVO.out (c := (c + n) % S.bars.length) (Nat.mod_lt _ (by omega))
            rw [HT.out.sr c hcl, ← hqq] at this
            rw [this]
          obtain ⟨lo, hlo⟩ : ∃ f, f = (restT S q).1 := ⟨_, rfl⟩
          obtain ⟨hg, hhg⟩ : ∃ f, f = (restT S q).2.1 := ⟨_, rfl⟩
          obtain ⟨ee, hee⟩ : ∃ f, f = (restT S q).2.2 := ⟨_, rfl⟩
          have HE1 := Lib.hid (fun w (h : StoreAt w.heap.size w (.agg #[.slice f1 S.bars.length k1, .int .i64 S.kerf, .slice f2 S.pieces.length k2, .int .i64 S.wrong]) O) => show Calls Try.prog 24 #[.agg #[.slice f1 S.bars.length k1, .int .i64 S.kerf, .slice f2 S.pieces.length k2, .int .i64 S.wrong], .int .i64 c] w (fun e w' => e = .returned (.tuple #[.agg #[.int .i64 lo, .int .i64 hg], .int .i64 ee]) ∧ Below w.heap.size w w') from by
            have := Rest_all _ O c w h
            rwa [hrr, ← hlo, ← hhg, ← hee] at this)
          have HE2 := Lib.hid (fun w (h : StoreAt w.heap.size w (.agg #[.slice a S.bars.length cap1, .int .i64 S.kerf, .slice a2 S.pieces.length cap2, .int .i64 S.wrong]) S) => show Calls Try.prog 24 #[.agg #[.slice a S.bars.length cap1, .int .i64 S.kerf, .slice a2 S.pieces.length cap2, .int .i64 S.wrong], .int .i64 q] w (fun e w' => e = .returned (.tuple #[.agg #[.int .i64 lo, .int .i64 hg], .int .i64 ee]) ∧ Below w.heap.size w w') from by
            have := Rest_all _ S q w h
            rwa [← hlo, ← hhg, ← hee] at this)
          have HQQ := Lib.hid hqq
          clear hrr hlo hhg hee hqq
          go_wp2_with (go_at_call 37; refine (rwithin_to HBC.out _).mono ?_; rintro e w' ⟨rfl, rfl⟩)
          refine (HE1.out _ HO40.out.st).mono ?_
          rintro e w41 ⟨rfl, hb⟩
          have HS41 := Lib.hid (HS40.out.next hb)
          have HX41 := Lib.hid (HX40.out.next hb)
          have HO41 := Lib.hid (HO40.out.next hb)
          clear hb c0 c1 c2 c3 o0 o1 o2 o3 x0 x1 x2 x3
          obtain ⟨c0, c1, c2, c3⟩ := box4_of HS41.out.blk
          obtain ⟨o0, o1, o2, o3⟩ := box4_of HO41.out.blk
          obtain ⟨x0, x1, x2, x3⟩ := box4_of HX41.out
          have hba := (Below.refl w41.heap.size w41).alloc (Nat.le_refl _) (.cells #[.int .i64 lo, .int .i64 hg] 43)
          have gHS := HS41.out.next hba
          have gHX := HX41.out.next hba
          have gHR := (show BlkAt (w41.alloc (.cells #[.int .i64 lo, .int .i64 hg] 43)) w41.heap.size (.cells #[.int .i64 lo, .int .i64 hg] 43) from heap_new _ _)
          clear c0 c1 c2 c3 o0 o1 o2 o3 x0 x1 x2 x3
          obtain ⟨c0, c1, c2, c3⟩ := box4_of gHS.blk
          obtain ⟨x0, x1, x2, x3⟩ := box4_of gHX
          obtain ⟨r0, r1⟩ := box2_of gHR
          go_upto_region 33 with fail
          generalize w41.alloc (.cells #[.int .i64 lo, .int .i64 hg] 43) = w42 at hba gHS gHX gHR c0 c1 c2 c3 x0 x1 x2 x3 r0 r1 ⊢
          have hl0 : w.heap.size < w42.heap.size := gHS.lt
          have hl1 : w.heap.size + 1 < w42.heap.size := gHX.lt
          have hl2 : w41.heap.size < w42.heap.size := gHR.lt
          have HS42 := Lib.hid gHS
          have HR42 := Lib.hid gHR
          clear hba gHS gHX gHR x0 x1 x3
          have hc0' : (0 : Int) ≤ (c : Int) := by omega
          have hq0 : (0 : Int) ≤ (q : Int) := by omega
          have hz2 : ¬ (S.bars.length : Int) = 0 := by omega
          have hz3 : ¬ S.bars = [] := fun e => by rw [e] at hcl; simp at hcl
          have hz1 : ((S.bars.length : Int) == 0) = false := by simpa using hz3
          have hwr : IntKind.i64.wrap ((c : Int) + (n : Int)) = (c : Int) + (n : Int) := IntWalk.i64_in _ (by omega)
          have htm : ((c : Int) + (n : Int)).tmod (S.bars.length : Int) = (q : Int) := by rw [HQQ.out, Int.natCast_emod, Int.natCast_add]; exact Int.tmod_eq_emod_of_nonneg (by omega)
          have hem : ((c : Int) + (n : Int)) % (S.bars.length : Int) = (q : Int) := by rw [HQQ.out, Int.natCast_emod, Int.natCast_add]
          go_wp2_with fail
          go_region_held3 (fun w' => w'.cell? ⟨w.heap.size, 0, none⟩ = some (.slice a S.bars.length cap1) ∧ w'.cell? ⟨w.heap.size, 1, none⟩ = some (.int .i64 S.kerf) ∧ w'.cell? ⟨w.heap.size, 2, none⟩ = some (.slice a2 S.pieces.length cap2) ∧ w'.cell? ⟨w.heap.size, 3, none⟩ = some (.int .i64 S.wrong) ∧ w'.cell? ⟨w.heap.size + 1, 2, none⟩ = some (.int .i64 c))
            (first
              | exact ⟨c0, c1, c2, c3, x2⟩
              | (go_split_ands; exact ⟨‹_›, ‹_›, ‹_›, ‹_›, ‹_›⟩)
              | exact ⟨(hb.cell hl0).trans c0, (hb.cell hl0).trans c1, (hb.cell hl0).trans c2, (hb.cell hl0).trans c3, (hb.cell hl1).trans x2⟩
              | exact ⟨cell_alloc c0 hl0, cell_alloc c1 hl0, cell_alloc c2 hl0, cell_alloc c3 hl0, cell_alloc x2 hl1⟩
              | exact ⟨(hb.cell (by simp; omega)).trans (cell_alloc c0 hl0), (hb.cell (by simp; omega)).trans (cell_alloc c1 hl0), (hb.cell (by simp; omega)).trans (cell_alloc c2 hl0), (hb.cell (by simp; omega)).trans (cell_alloc c3 hl0), (hb.cell (by simp; omega)).trans (cell_alloc x2 hl1)⟩
              | exact ⟨cell_alloc ((hb.cell hl0).trans c0) (by have := hb.size; simp at this; omega), cell_alloc ((hb.cell hl0).trans c1) (by have := hb.size; simp at this; omega), cell_alloc ((hb.cell hl0).trans c2) (by have := hb.size; simp at this; omega), cell_alloc ((hb.cell hl0).trans c3) (by have := hb.size; simp at this; omega), cell_alloc ((hb.cell hl1).trans x2) (by have := hb.size; simp at this; omega)⟩
              | (go_split_ands; exact ⟨cell_set (cell_set ‹_› _ _ (by simp; omega)) _ _ (by simp; omega), cell_set (cell_set ‹_› _ _ (by simp; omega)) _ _ (by simp; omega), cell_set (cell_set ‹_› _ _ (by simp; omega)) _ _ (by simp; omega), cell_set (cell_set ‹_› _ _ (by simp; omega)) _ _ (by simp; omega), cell_set (cell_set ‹_› _ _ (by simp; omega)) _ _ (by simp; omega)⟩))
            (first
              | (go_at_call 24; (with_reducible refine (HE2.out _ ((HS42.out.next (drew_below w42)).st)).mono ?_); rintro e w43 ⟨rfl, hb⟩)
              | (go_at_call 24; (with_reducible refine (HE2.out _ ((HS42.out.next (((Below.refl _ w42).alloc (Nat.le_refl _) _).drew)).st)).mono ?_); rintro e w43 ⟨rfl, hb⟩; have n0 := (hb.cell (p := ⟨w42.heap.size, 0, none⟩) (by simp)).trans (cells_of (heap_new w42 _) rfl); have n1 := (hb.cell (p := ⟨w42.heap.size, 1, none⟩) (by simp)).trans (cells_of (heap_new w42 _) rfl); have n2 := (hb.frozen (p := ⟨w42.heap.size, 0, none⟩) (by simp)); have n3 := (hb.frozen (p := ⟨w42.heap.size, 1, none⟩) (by simp))))
          · have hb42 := HS42.out.b.trans (((drew_below w42).trans hb).mono HS42.out.b.size)
            have hs43 := hb.size
            have z0 := cell_alloc (o := .cells #[.int .i64 lo, .int .i64 hg] 43) ((hb.cell hl2).trans r0) (by simp at hs43; omega)
            have z1 := cell_alloc (o := .cells #[.int .i64 lo, .int .i64 hg] 43) ((hb.cell hl2).trans r1) (by simp at hs43; omega)
            obtain ⟨s0, s1⟩ := box2_of (heap_new w43 (.cells #[.int .i64 lo, .int .i64 hg] 43))
            have hB := hb42.alloc hb42.size (.cells #[.int .i64 lo, .int .i64 hg] 43)
            generalize w43.heap.size = b43 at s0 s1 ⊢
            generalize w43.alloc (.cells #[.int .i64 lo, .int .i64 hg] 43) = W9 at z0 z1 s0 s1 hB ⊢
            have HB9 := Lib.hid hB
            clear hB hb hb42 c0 c1 c2 c3 x2 r0 r1 hwr htm hem hz1 hz2 hz3
            go_wp2_with fail
            refine (works_any _).mono ?_
            rintro e wz ⟨rfl, hb⟩
            have HB := Lib.hid (HB9.out.trans (hb.mono HB9.out.size))
            clear hb
            go_wp2
            go_ret
            exact ⟨rfl, HB.out⟩
          · have hb42 := HS42.out.b.trans ((((Below.refl _ w42).alloc (Nat.le_refl _) (.cells #[.int .i64 0, .int .i64 0] 43)).drew.trans (hb.mono (by simp))).mono HS42.out.b.size)
            have hwl := HS42.out.b.size
            have z0 := cell_set (cell_set ((hb.cell (by simp; omega)).trans (cell_alloc r0 hl2)) ⟨w42.heap.size, 0, none⟩ (.int .i64 lo) (by simp; omega)) ⟨w42.heap.size, 1, none⟩ (.int .i64 hg) (by simp; omega)
            have z1 := cell_set (cell_set ((hb.cell (by simp; omega)).trans (cell_alloc r1 hl2)) ⟨w42.heap.size, 0, none⟩ (.int .i64 lo) (by simp; omega)) ⟨w42.heap.size, 1, none⟩ (.int .i64 hg) (by simp; omega)
            have hh : w43.heap[w42.heap.size]? = some (.cells #[.int .i64 0, .int .i64 0] 43) := (hb.block w42.heap.size (by simp)).trans (heap_new w42 _)
            obtain ⟨s0, s1⟩ := box2_of (heap_set (.int .i64 hg) (heap_set (o := 0) (.int .i64 lo) hh) (o := 1))
            have hB := (hb42.setCell (p := ⟨w42.heap.size, 0, none⟩) hwl (.int .i64 lo)).setCell (p := ⟨w42.heap.size, 1, none⟩) hwl (.int .i64 hg)
            clear hh n0 n1 n2 n3
            generalize (w43.setCell ⟨w42.heap.size, 0, none⟩ (.int .i64 lo)).setCell ⟨w42.heap.size, 1, none⟩ (.int .i64 hg) = W9 at z0 z1 s0 s1 hB ⊢
            have HB9 := Lib.hid hB
            clear hB hb hb42 c0 c1 c2 c3 x2 r0 r1 hwr htm hem hz1 hz2 hz3
            go_wp2_with fail
            refine (works_any _).mono ?_
            rintro e wz ⟨rfl, hb⟩
            have HB := Lib.hid (HB9.out.trans (hb.mono HB9.out.size))
            clear hb
            go_wp2
            go_ret
            exact ⟨rfl, HB.out⟩
end Go.Proofs.Ytjflpmhlodgadaa
