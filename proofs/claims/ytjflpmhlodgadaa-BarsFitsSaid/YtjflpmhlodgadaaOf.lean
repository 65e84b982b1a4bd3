/-
  Of: the bars of which a piece can be.
-/
import Derived.Test.YtjflpmhlodgadaaRest
import Derived.Test.YtjflpmhlodgadaaNum
namespace Go.Proofs.Ytjflpmhlodgadaa
open Go.RowKit Go.Shelf

attribute [local go_sem] Oper.semAt_some

def ofF (xs : List (List Int)) (p : Nat) (b : Nat) : Bool := xs.any fun x => decide (nth x p = (b : Int))
theorem ofF_snoc (xs : List (List Int)) (x : List Int) (p b : Nat) : ofF (xs ++ [x]) p b = (ofF xs p b || decide (nth x p = (b : Int))) := by simp [ofF]
def ofS (S : Store) (p : Nat) : List Int := numsTo (ofF (truthsL S) p) 6
/-- A list of ints in new memory, and an error. -/
def GaveIntsE (xs : List Int) (err : Int) (w : World) (e : Ending) (w' : World) : Prop := ∃ v, e = .returned (.tuple #[v, .int .i64 err]) ∧ IntsAt w'.heap.size w' v xs ∧ Below w.heap.size w w'
theorem ints_nil (B : Nat) (w : World) : IntsAt B w (.slice none 0 0) [] := ⟨none, 0, 0, 0, rfl, by simp, by unfold maxLen; omega, fun h => by simp at h, fun i hi => by simp at hi, fun x hx => by cases hx⟩

set_option maxRecDepth 100000 in
set_option maxHeartbeats 2000000 in
theorem Of_in (F : Fence) (hF : Hid (F = Fence.wide)) (hd : F.depth = none) (hro : F.round = none) (hfn : ∀ f, F.fn f) (n : Nat) (hn : 5 ≤ n) (v : Value) (S : Store) (p : Nat) (w : World) (hx : StoreAt w.heap.size w v S) (hV : Valid S) (hp : p < S.pieces.length) :
    CallsIn F n Try.prog 29 #[v, .int .i64 p] w (GaveIntsE (ofS S p) (errN (ofS S p).length) w) := by
  have hx' := hx
  obtain ⟨a, cap1, b1, off, a2, cap2, b2, off2, rfl, hm, hm2, HA, HC, HA2, HC2⟩ := hx.opened
  have HX := Lib.hid hx'
  have HV := Lib.hid hV
  obtain ⟨hw0, hw8⟩ := hV.wrong
  clear hx hx' hV HA HC HA2 HC2
  have HXB := fun a b => Lib.hid ((HX.out.below (below_at2 w a b)).mono (show w.heap.size ≤ ((w.alloc a).alloc b).heap.size by simp; omega))
  have hmo : Try.prog.follows .mixedOrders = true := by kernel_rfl
  have hpw : wB (p : Int) 0 ((S.pieces.length : Int) - 1) = true := wB_iff.2 ⟨by omega, by omega⟩
  have HPW := Lib.hid hpw
  clear hpw
  refine callsIn_of_wp_marks Try.func29 rfl (hfn _) ?_ hro
  simp only [Try.ntmps29, List.size_toArray, List.length_cons, List.length_nil, Nat.reduceAdd, Nat.reduceSub, Array.replicate_succ, Array.replicate_zero, List.push_toArray, List.append_toArray, List.nil_append, List.cons_append]
  gi_wp2_with fail
  refine (inF hF (check_ok (valid_iff.2 HV.out) (HXB _ _).out)).mono ?_
  rintro e w0 ⟨rfl, hb0⟩
  have hs0 := hb0.size
  simp only [World.size_alloc] at hb0 hs0
  have hh := heap_at2 w (.cells #[.slice a S.bars.length cap1, .int .i64 S.kerf, .slice a2 S.pieces.length cap2, .int .i64 S.wrong] 25) (.cells #[.int .i64 p] 3)
  have hbx := (hb0.block w.heap.size (by omega)).trans hh.1
  have hbr := (hb0.block (w.heap.size + 1) (by omega)).trans hh.2
  have hw00 := (below_at2 w _ _).trans (hb0.mono (by omega))
  clear hh hb0
  obtain ⟨c0, c1, c2, c3⟩ := box4_of hbx
  obtain ⟨c4, _⟩ := cell1_of hbr
  have HBX := Lib.hid hbx
  have HBR := Lib.hid hbr
  clear hbx hbr
  gi_wp2_with fail
  refine (inF hF ((isPiece_any _ S _ _ (HX.out.below hw00)).mono (fun e w' h => (HPW.out ▸ h : e = .returned (.bool true) ∧ Below w0.heap.size w0 w')))).mono ?_
  rintro e w1 ⟨rfl, hb1⟩
  have hs1 := hb1.size
  have hw := hw00.trans (hb1.mono (by omega))
  have hbx := (hb1.block w.heap.size (by omega)).trans HBX.out
  have hbr := (hb1.block (w.heap.size + 1) (by omega)).trans HBR.out
  clear hb1 c0 c1 c2 c3 c4 HBX HBR hw00
  obtain ⟨c0, c1, c2, c3⟩ := box4_of hbx
  have HBX := Lib.hid hbx
  have HBR := Lib.hid hbr
  clear hbx hbr
  have hlt1 : w.heap.size < w1.heap.size := by omega
  have hlt2 : w.heap.size + 1 < w1.heap.size := by omega
  gi_wp2_with (gi_at_call 63; refine (inF hF (truths_any _ _ _ _ _ _ _ _ _)).mono ?_; rintro e w2 ⟨rfl, hb2, hs2, hq2⟩; have HB2 := Lib.hid hb2; have HS2 := Lib.hid hs2; have HQ2 := Lib.hid hq2; clear hb2 hs2 hq2)
  have hb2 := HB2.out
  have hs2 := HS2.out
  have hq2 := HQ2.out
  simp only [World.size_alloc] at hb2 hs2 hq2
  have hs2a : w1.heap.size + 4 ≤ w2.heap.size := by omega
  have hmp : BoolsAt w1.heap.size (ofF [] p) 6 87 w2 := BoolsAt.kept ⟨_, heap_new w1 (.cells #[.bool false, .bool false, .bool false, .bool false, .bool false, .bool false] 87), rfl, fun j hj => by
      have : j = 0 ∨ j = 1 ∨ j = 2 ∨ j = 3 ∨ j = 4 ∨ j = 5 := by omega
      rcases this with rfl | rfl | rfl | rfl | rfl | rfl <;> rfl⟩ (hb2.block w1.heap.size (by omega))
  have h12 : Below w1.heap.size w1 w2 := ((Below.refl _ w1).alloc (Nat.le_refl _) _).trans (hb2.mono (by omega))
  have hw2 : Below w.heap.size w w2 := hw.trans (h12.mono (by omega))
  have HBX2 := Lib.hid ((h12.block _ (by omega)).trans HBX.out)
  have HBR2 := Lib.hid ((h12.block _ (by omega)).trans HBR.out)
  clear hs2 hb2 c0 c1 c2 c3
  refine wpIn_saw F hF hd hro hfn (by omega) rfl w.heap.size _ S S.wrong HV hw0 hw8 (HX.out.below hw2) (by omega) hq2.1 hq2.2 rfl
    (fun k => k = w1.heap.size) (fun k hk => by omega)
    (fun pre W => BoolsAt w1.heap.size (ofF pre p) 6 87 W) (fun _ _ _ => False)
    (fun s A A' row hs hg hr => hs.kept (hg.block _ hs.lt (fun e => by have := hr _ e.symm; omega))) (fun _ _ _ _ _ h _ _ => h) hmp
    (fun tm x => { tmps := (tm.setIfInBounds 21 (.slice (some ⟨w2.heap.size + 2, 0, none⟩) x.length (capS S))).setIfInBounds 8 (.slice (some ⟨w2.heap.size + 2, 0, none⟩) x.length (capS S)), defers := [] }) ?assign ?body ?done ?stop
  case assign =>
    intro l x W K hK
    gi_wp2
    exact hK
  case body =>
    rintro l pre x W hpre hI hkb hbuf
    have hsz := hkb.size
    have hbW := hbuf.lt
    obtain ⟨hok, hxl⟩ := yielded_ok hpre
    have hpx : p < x.length := by omega
    obtain ⟨o1, o2⟩ := hok.2 p hpx
    obtain ⟨m, hm⟩ := Int.eq_ofNat_of_zero_le o1
    have hm6 : m < 6 := by have := HV.out.nb; omega
    have d := hbuf.cell hpx
    rw [hm] at d
    have f := hI.frozen m
    have fc := hI.cell hm6
    obtain ⟨c4, _⟩ := cell1_of (kept_heap hkb HBR2.out (by omega))
    have HI := Lib.hid hI
    have HM := Lib.hid hm
    have HXL := Lib.hid hxl
    clear hkb hI hok hpre hm o1 o2 hxl
    gi_wp2
    refine ⟨KeptBut.setCell _ _ _ rfl, (HI.out.put hm6 true).congr (fun j _ => ?_)⟩
    rw [ofF_snoc, HM.out]
    by_cases e : j = m
    · subst e; simp
    · rw [if_neg e]; simp; intro h; omega
  case done =>
    rintro D W hD hkb hI hK
    have hfin : Below w.heap.size w W := hw2.trans (hkb.below (by omega) (by omega))
    have hsW := hkb.size
    have HI := Lib.hid hI
    have HKD := Lib.hid hK
    have HFIN := Lib.hid hfin
    clear hkb hI hK hfin
    gi_wp2_with fail
    refine (inF hF (numbers_any w1.heap.size 6 6 (ofF (sawL S S.pieces.length S.wrong []) p) _ W HI.out (by omega))).mono ?_
    rintro e w3 ⟨rv, rfl, hrv, hb3⟩
    have hs3 := hb3.size
    have hkD := (hb3.block D (Array.getElem?_eq_some_iff.1 HKD.out).1).trans HKD.out
    have hfin3 := HFIN.out.trans (hb3.mono (by omega))
    obtain ⟨a4, cap4, b4, off4, rfl, hl4, _⟩ := hrv.opened
    have HRV := Lib.hid hrv
    have HKD3 := Lib.hid hkD
    have HFIN3 := Lib.hid hfin3
    clear hrv hkD hfin3 hb3
    obtain ⟨N, hN⟩ : ∃ N, N = (numsTo (ofF (sawL S S.pieces.length S.wrong []) p) 6).length := ⟨_, rfl⟩
    rw [← hN] at hl4 ⊢
    have HN := Lib.hid hN
    clear hN
    by_cases hz : N = 0
    · have hz1 : ((N : Int) == 0) = true := by simp [hz]
      have HZ := Lib.hid hz
      clear hz
      gi_wp2
      refine ⟨by simp, .inl ⟨_, _, rfl, run_takeDeferred HKD3.out, ?_⟩⟩
      have he : ofS S p = [] := List.length_eq_zero_iff.1 (HN.out.symm.trans HZ.out)
      exact ⟨_, results_tmp2 rfl _ _ _, _, by rw [he]; rfl, he ▸ ints_nil _ _, HFIN3.out.trans (putObj_below _ _ (by omega))⟩
    · have hz1 : ((N : Int) == 0) = false := by simp; omega
      have HZ := Lib.hid hz
      clear hz
      gi_wp2
      refine ⟨by simp, .inl ⟨_, _, rfl, run_takeDeferred HKD3.out, ?_⟩⟩
      refine ⟨_, results_tmp2 rfl _ _ _, .slice a4 N cap4, by rw [errN_pos (by unfold ofS truthsL; rw [← HN.out]; exact HZ.out)]; rfl, ?_, HFIN3.out.trans (putObj_below _ _ (by omega))⟩
      have h := HRV.out
      rw [← HN.out] at h
      rw [World.putObj_size]
      exact ints_putObj h HKD3.out
  case stop =>
    rintro D c pre W _ _ _ h _
    exact h.elim
end Go.Proofs.Ytjflpmhlodgadaa
