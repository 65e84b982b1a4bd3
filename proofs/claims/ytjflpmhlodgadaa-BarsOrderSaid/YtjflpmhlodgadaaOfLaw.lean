/-
  What the program and the law's own functions answer of Of, Heats and Strange, whatever store and piece; a law's body: of which bar a piece can be, its heats, strange marks (P1.5, P1.6, P1.7).
-/
import Derived.Test.YtjflpmhlodgadaaOfW3
import Derived.Test.YtjflpmhlodgadaaPlanLaw
import Derived.Test.YtjflpmhlodgadaaAlikeLaw
namespace Go.Proofs.Ytjflpmhlodgadaa
open Go.RowKit Go.Sort

def ofT (S : Store) (A : Int) : List Int × Int :=
  if validB S = false then ([], 10) else if wB A 0 ((S.pieces.length : Int) - 1) = false then ([], 1) else (ofS S A.toNat, errN (truthsL S).length)
def heatsT (S : Store) (A : Int) : List Int × Int :=
  if validB S = false then ([], 10) else if wB A 0 ((S.pieces.length : Int) - 1) = false then ([], 1) else (heatsS S A.toNat, errN (truthsL S).length)
def strT (S : Store) : List Int × Int := if validB S = false then ([], 10) else (strS S, errN (truthsL S).length)

theorem gave_nil {er : Int} {w : World} {f : FuncId} {args : Array Value} (h : Calls Try.prog f args w fun e w' => e = .returned (.tuple #[.slice none 0 0, .int .i64 er]) ∧ Below w.heap.size w w') : Calls Try.prog f args w (GaveIntsE [] er w) :=
  h.mono fun _ _ ⟨h1, h2⟩ => ⟨_, h1, ints_nil _ _, h2⟩
theorem ofS_none {S : Store} {p : Nat} (h : (truthsL S).length = 0) : ofS S p = [] := by
  have h := List.length_eq_zero_iff.1 h
  exact numsTo_none _ (fun j => by simp [ofF, h]) 6
theorem heatsS_none {S : Store} {p : Nat} (h : (truthsL S).length = 0) : heatsS S p = [] := by
  rw [heatsS, ofS_none h]; exact numsTo_none _ (fun j => rfl) 10
theorem of_len {S : Store} {p : Nat} (hV : Valid S) (hp : p < S.pieces.length) : errN (ofS S p).length = errN (truthsL S).length := by
  by_cases h0 : (truthsL S).length = 0
  · rw [ofS_none h0, h0]; rfl
  · obtain ⟨y, hy⟩ : ∃ y, y ∈ truthsL S := List.exists_mem_of_ne_nil _ (fun e => h0 (by rw [e]; rfl))
    rw [of_err hV hy hp, errN_pos h0]

theorem Of_all (v : Value) (S : Store) (A : Int) (w : World) (hx : StoreAt w.heap.size w v S) : Calls Try.prog 29 #[v, .int .i64 A] w (GaveIntsE (ofT S A).1 (ofT S A).2 w) := by
  cases hv : validB S
  · rw [ofT, if_pos hv]; exact gave_nil (Of_bad v S A w hx hv)
  · cases ha : wB A 0 ((S.pieces.length : Int) - 1)
    · rw [ofT, if_neg (by rw [hv]; simp), if_pos ha]; exact gave_nil (Of_arg v S A w hx (valid_iff.1 hv) ha)
    · rw [ofT, if_neg (by rw [hv]; simp), if_neg (by rw [ha]; simp)]
      have h1 := wB_iff.1 ha
      obtain ⟨p, rfl⟩ := Int.eq_ofNat_of_zero_le h1.1
      have := Of_any v S p w hx (valid_iff.1 hv) (by omega)
      rwa [of_len (valid_iff.1 hv) (by omega)] at this
theorem rOf_all (v : Value) (S : Store) (A : Int) (w : World) (hx : StoreAt w.heap.size w v S) : Calls Try.prog 47 #[v, .int .i64 A] w (GaveIntsE (ofT S A).1 (ofT S A).2 w) := by
  cases hv : validB S
  · rw [ofT, if_pos hv]; exact gave_nil (rOf_err v S A _ 10 w hx rfl rfl fun w h => truthsX_bad v S _ w h hv)
  · cases ha : wB A 0 ((S.pieces.length : Int) - 1)
    · rw [ofT, if_neg (by rw [hv]; simp), if_pos ha]; exact gave_nil (rOf_err v S A _ 1 w hx rfl rfl fun w h => by rw [ha]; exact truthsX_arg v S w h hv)
    · rw [ofT, if_neg (by rw [hv]; simp), if_neg (by rw [ha]; simp)]
      have h1 := wB_iff.1 ha
      by_cases h0 : (truthsL S).length = 0
      · rw [ofS_none h0, h0]; exact gave_nil (rOf_err v S A _ 3 w hx rfl rfl fun w h => by rw [ha]; exact truthsX_none (valid_iff.1 hv) h0 w h)
      · obtain ⟨p, rfl⟩ := Int.eq_ofNat_of_zero_le h1.1
        rw [errN_pos h0]
        exact rOf_any v S p w hx (valid_iff.1 hv) (by omega) h0
theorem rOf_nil {v : Value} {S : Store} {A er : Int} {w : World} (hx : StoreAt w.heap.size w v S) (her : (er == 0) = false) (ht : ∀ w, StoreAt w.heap.size w v S → Calls Try.prog 75 #[v, .bool (wB A 0 ((S.pieces.length : Int) - 1))] w (GaveListsX [] er w)) :
    Calls Try.prog 48 #[v, .int .i64 A] w (GaveIntsE [] er w) :=
  gave_nil (rHeats_err v S A er w hx her fun w h => rOf_err v S A _ er w h rfl her ht)
theorem Heats_all (v : Value) (S : Store) (A : Int) (w : World) (hx : StoreAt w.heap.size w v S) : Calls Try.prog 30 #[v, .int .i64 A] w (GaveIntsE (heatsT S A).1 (heatsT S A).2 w) := by
  cases hv : validB S
  · rw [heatsT, if_pos hv]; exact gave_nil (Heats_bad v S A w hx hv)
  · cases ha : wB A 0 ((S.pieces.length : Int) - 1)
    · rw [heatsT, if_neg (by rw [hv]; simp), if_pos ha]; exact gave_nil (Heats_arg v S A w hx (valid_iff.1 hv) ha)
    · rw [heatsT, if_neg (by rw [hv]; simp), if_neg (by rw [ha]; simp)]
      have h1 := wB_iff.1 ha
      obtain ⟨p, rfl⟩ := Int.eq_ofNat_of_zero_le h1.1
      have := Heats_any v S p w hx (valid_iff.1 hv) (by omega)
      rwa [of_len (valid_iff.1 hv) (by omega)] at this
theorem rHeats_all (v : Value) (S : Store) (A : Int) (w : World) (hx : StoreAt w.heap.size w v S) : Calls Try.prog 48 #[v, .int .i64 A] w (GaveIntsE (heatsT S A).1 (heatsT S A).2 w) := by
  cases hv : validB S
  · rw [heatsT, if_pos hv]; exact rOf_nil hx rfl fun w h => truthsX_bad v S _ w h hv
  · cases ha : wB A 0 ((S.pieces.length : Int) - 1)
    · rw [heatsT, if_neg (by rw [hv]; simp), if_pos ha]; exact rOf_nil hx rfl fun w h => by rw [ha]; exact truthsX_arg v S w h hv
    · rw [heatsT, if_neg (by rw [hv]; simp), if_neg (by rw [ha]; simp)]
      have h1 := wB_iff.1 ha
      by_cases h0 : (truthsL S).length = 0
      · rw [heatsS_none h0, h0]; exact rOf_nil hx rfl fun w h => by rw [ha]; exact truthsX_none (valid_iff.1 hv) h0 w h
      · obtain ⟨p, rfl⟩ := Int.eq_ofNat_of_zero_le h1.1
        rw [errN_pos h0]
        exact rHeats_any v S p w hx (valid_iff.1 hv) (by omega) h0
theorem Strange_all (v : Value) (S : Store) (w : World) (hx : StoreAt w.heap.size w v S) : Calls Try.prog 19 #[v] w (GaveIntsE (strT S).1 (strT S).2 w) := by
  cases hv : validB S
  · rw [strT, if_pos hv]; exact gave_nil (Strange_bad v S w hx hv)
  · rw [strT, if_neg (by rw [hv]; simp)]
    exact Strange_any v S w hx (valid_iff.1 hv)
theorem rStrange_all (v : Value) (S : Store) (w : World) (hx : StoreAt w.heap.size w v S) : Calls Try.prog 49 #[v] w (GaveIntsE (strT S).1 (strT S).2 w) := by
  cases hv : validB S
  · rw [strT, if_pos hv]; exact gave_nil (rStrange_err v S 10 w hx rfl fun w h => truthsX_bad v S _ w h hv)
  · rw [strT, if_neg (by rw [hv]; simp)]
    by_cases h0 : (truthsL S).length = 0
    · rw [strS, if_pos h0, h0]; exact gave_nil (rStrange_err v S 3 w hx rfl fun w h => truthsX_none (valid_iff.1 hv) h0 w h)
    · rw [errN_pos h0]
      exact rStrange_any v S w hx (valid_iff.1 hv) h0

set_option maxRecDepth 100000 in
set_option maxHeartbeats 16000000 in
theorem BarsOf_any (v : Value) (S : Store) (A : Int) (w : World) (hx : StoreAt w.heap.size w v S) :
    Calls Try.prog 10 #[v, .int .i64 A] w fun e w' => e = .returned (.bool true) ∧ Below w.heap.size w w' := by
  have hx' := hx
  obtain ⟨a, cap1, b1, off, a2, cap2, b2, off2, rfl, hm, hm2, HA, HC, HA2, HC2⟩ := hx.opened
  have hs := Stat.first hx'
  obtain ⟨c0, c1, c2, c3⟩ := box4_of hs.blk
  have HS0 := Lib.hid hs
  clear hs hx hx' HA HC HA2 HC2
  cases hr : farB S
  case true =>
    have HR := Lib.hid hr
    clear hr
    go_enter Try.func10, Try.ntmps10
    go_wp2_with fail
    refine (Far_to HR.out HS0.out.st).mono ?_
    rintro e w1 ⟨rfl, hb⟩
    have HS1 := Lib.hid (HS0.out.next hb)
    clear hb c0 c1 c2 c3
    obtain ⟨c0, c1, c2, c3⟩ := box4_of HS1.out.blk
    go_wp2_with (go_at_call 15; refine (works_any _).mono ?_; rintro e wz ⟨rfl, hb⟩; have HB := Lib.hid ((HS1.out.next hb).b); clear hb)
    go_ret
    exact ⟨rfl, HB.out⟩
  have hFew := farB_few hr
  have HR := Lib.hid hr
  have HFEW := Lib.hid hFew
  clear hr hFew
  go_enter Try.func10, Try.ntmps10
  go_wp2_with fail
  refine (Far_to HR.out HS0.out.st).mono ?_
  rintro e w1 ⟨rfl, hb⟩
  have HS1 := Lib.hid (HS0.out.next hb)
  clear hb c0 c1 c2 c3
  obtain ⟨c0, c1, c2, c3⟩ := box4_of HS1.out.blk
  go_wp2_with fail
  refine (Copy_any _ S _ HS1.out.st HFEW.out).mono ?_
  rintro e w2 ⟨u, rfl, hcp, hb⟩
  obtain ⟨bv, pv, hs, rfl, h1, h2, h3, h4, h5, h6, h7⟩ := hcp
  obtain ⟨bA, bcap, rfl, _⟩ := own_form h1
  obtain ⟨pA, pcap, rfl, _⟩ := own_form h2
  have HE2 := Lib.hid (Ed.first (CopyAt.of_parts h1 h2 h3 ⟨h4, h5, h6, h7⟩) hb)
  clear h1 h2 h3 h4 h5 h6 h7
  have HS2 := Lib.hid (HS1.out.next hb)
  clear hb c0 c1 c2 c3
  obtain ⟨c0, c1, c2, c3⟩ := box4_of HS2.out.blk
  have hba := (Below.refl w2.heap.size w2).alloc (Nat.le_refl _) (.cells #[.slice bA S.bars.length bcap, .int .i64 S.kerf, .slice pA S.pieces.length pcap, .int .i64 S.wrong] 25)
  have gHS := HS2.out.next hba
  have gHO := HE2.out.stat HS1.out.b
  clear c0 c1 c2 c3
  obtain ⟨c0, c1, c2, c3⟩ := box4_of gHS.blk
  obtain ⟨o0, o1, o2, o3⟩ := box4_of gHO.blk
  go_wp2_with fail
  generalize w2.alloc (.cells #[.slice bA S.bars.length bcap, .int .i64 S.kerf, .slice pA S.pieces.length pcap, .int .i64 S.wrong] 25) = W3 at hba gHS gHO c0 c1 c2 c3 o0 o1 o2 o3 ⊢
  clear hba
  have HS3 := Lib.hid gHS
  have HO3 := Lib.hid gHO
  clear gHS gHO
  refine (Of_all _ S A _ HO3.out.st).mono ?_
  rintro e w4 ⟨v1, rfl, hv, hb⟩
  obtain ⟨A1, n1, _, _, rfl, _, _, _, _⟩ := hv.opened
  have HS4 := Lib.hid (HS3.out.next hb)
  have HO4 := Lib.hid (HO3.out.next hb)
  clear hb c0 c1 c2 c3 o0 o1 o2 o3
  obtain ⟨c0, c1, c2, c3⟩ := box4_of HS4.out.blk
  obtain ⟨o0, o1, o2, o3⟩ := box4_of HO4.out.blk
  have HU4 := Lib.hid hv
  clear hv
  go_wp2_with fail
  refine (rOf_all _ S A _ HS4.out.st).mono ?_
  rintro e w5 ⟨v2, rfl, hv, hb⟩
  obtain ⟨A2, n2, _, _, rfl, _, _, _, _⟩ := hv.opened
  have HS5 := Lib.hid (HS4.out.next hb)
  have HO5 := Lib.hid (HO4.out.next hb)
  have HU5 := Lib.hid (HU4.out.to hb)
  clear hb c0 c1 c2 c3 o0 o1 o2 o3
  obtain ⟨c0, c1, c2, c3⟩ := box4_of HS5.out.blk
  obtain ⟨o0, o1, o2, o3⟩ := box4_of HO5.out.blk
  have HV5 := Lib.hid hv
  clear hv
  go_wp2_with fail
  refine (Heats_all _ S A _ HO5.out.st).mono ?_
  rintro e w6 ⟨v3, rfl, hv, hb⟩
  obtain ⟨A3, n3, _, _, rfl, _, _, _, _⟩ := hv.opened
  have HS6 := Lib.hid (HS5.out.next hb)
  have HO6 := Lib.hid (HO5.out.next hb)
  have HU6 := Lib.hid (HU5.out.to hb)
  have HV6 := Lib.hid (HV5.out.to hb)
  clear hb c0 c1 c2 c3 o0 o1 o2 o3
  obtain ⟨c0, c1, c2, c3⟩ := box4_of HS6.out.blk
  obtain ⟨o0, o1, o2, o3⟩ := box4_of HO6.out.blk
  have HW6 := Lib.hid hv
  clear hv
  go_wp2_with fail
  refine (rHeats_all _ S A _ HS6.out.st).mono ?_
  rintro e w7 ⟨v4, rfl, hv, hb⟩
  obtain ⟨A4, n4, _, _, rfl, _, _, _, _⟩ := hv.opened
  have HS7 := Lib.hid (HS6.out.next hb)
  have HO7 := Lib.hid (HO6.out.next hb)
  have HU7 := Lib.hid (HU6.out.to hb)
  have HV7 := Lib.hid (HV6.out.to hb)
  have HW7 := Lib.hid (HW6.out.to hb)
  clear hb c0 c1 c2 c3 o0 o1 o2 o3
  obtain ⟨c0, c1, c2, c3⟩ := box4_of HS7.out.blk
  obtain ⟨o0, o1, o2, o3⟩ := box4_of HO7.out.blk
  have HX7 := Lib.hid hv
  clear hv
  go_wp2_with fail
  refine (Strange_all _ S _ HO7.out.st).mono ?_
  rintro e w8 ⟨v5, rfl, hv, hb⟩
  obtain ⟨A5, n5, _, _, rfl, _, _, _, _⟩ := hv.opened
  have HS8 := Lib.hid (HS7.out.next hb)
  have HO8 := Lib.hid (HO7.out.next hb)
  have HU8 := Lib.hid (HU7.out.to hb)
  have HV8 := Lib.hid (HV7.out.to hb)
  have HW8 := Lib.hid (HW7.out.to hb)
  have HX8 := Lib.hid (HX7.out.to hb)
  clear hb c0 c1 c2 c3 o0 o1 o2 o3
  obtain ⟨c0, c1, c2, c3⟩ := box4_of HS8.out.blk
  obtain ⟨o0, o1, o2, o3⟩ := box4_of HO8.out.blk
  have HY8 := Lib.hid hv
  clear hv
  go_wp2_with fail
  refine (rStrange_all _ S _ HS8.out.st).mono ?_
  rintro e w9 ⟨v6, rfl, hv, hb⟩
  obtain ⟨A6, n6, _, _, rfl, _, _, _, _⟩ := hv.opened
  have HS9 := Lib.hid (HS8.out.next hb)
  have HO9 := Lib.hid (HO8.out.next hb)
  have HU9 := Lib.hid (HU8.out.to hb)
  have HV9 := Lib.hid (HV8.out.to hb)
  have HW9 := Lib.hid (HW8.out.to hb)
  have HX9 := Lib.hid (HX8.out.to hb)
  have HY9 := Lib.hid (HY8.out.to hb)
  clear hb c0 c1 c2 c3 o0 o1 o2 o3
  obtain ⟨c0, c1, c2, c3⟩ := box4_of HS9.out.blk
  obtain ⟨o0, o1, o2, o3⟩ := box4_of HO9.out.blk
  have HZ9 := Lib.hid hv
  clear hv
  go_wp2_with fail
  refine (SameInts_to (r := true) (by simp) HU9.out HV9.out).mono ?_
  rintro e w10 ⟨rfl, hb⟩
  have HS10 := Lib.hid (HS9.out.next hb)
  have HO10 := Lib.hid (HO9.out.next hb)
  have HU10 := Lib.hid (HU9.out.to hb)
  have HV10 := Lib.hid (HV9.out.to hb)
  have HW10 := Lib.hid (HW9.out.to hb)
  have HX10 := Lib.hid (HX9.out.to hb)
  have HY10 := Lib.hid (HY9.out.to hb)
  have HZ10 := Lib.hid (HZ9.out.to hb)
  clear hb c0 c1 c2 c3 o0 o1 o2 o3
  obtain ⟨c0, c1, c2, c3⟩ := box4_of HS10.out.blk
  obtain ⟨o0, o1, o2, o3⟩ := box4_of HO10.out.blk
  go_wp2_with fail
  refine (SameInts_to (r := true) (by simp) HW10.out HX10.out).mono ?_
  rintro e w11 ⟨rfl, hb⟩
  have HS11 := Lib.hid (HS10.out.next hb)
  have HO11 := Lib.hid (HO10.out.next hb)
  have HU11 := Lib.hid (HU10.out.to hb)
  have HV11 := Lib.hid (HV10.out.to hb)
  have HW11 := Lib.hid (HW10.out.to hb)
  have HX11 := Lib.hid (HX10.out.to hb)
  have HY11 := Lib.hid (HY10.out.to hb)
  have HZ11 := Lib.hid (HZ10.out.to hb)
  clear hb c0 c1 c2 c3 o0 o1 o2 o3
  obtain ⟨c0, c1, c2, c3⟩ := box4_of HS11.out.blk
  obtain ⟨o0, o1, o2, o3⟩ := box4_of HO11.out.blk
  go_wp2_with fail
  refine (SameInts_to (r := true) (by simp) HY11.out HZ11.out).mono ?_
  rintro e w12 ⟨rfl, hb⟩
  have HS12 := Lib.hid (HS11.out.next hb)
  have HO12 := Lib.hid (HO11.out.next hb)
  have HU12 := Lib.hid (HU11.out.to hb)
  have HV12 := Lib.hid (HV11.out.to hb)
  have HW12 := Lib.hid (HW11.out.to hb)
  have HX12 := Lib.hid (HX11.out.to hb)
  have HY12 := Lib.hid (HY11.out.to hb)
  have HZ12 := Lib.hid (HZ11.out.to hb)
  clear hb c0 c1 c2 c3 o0 o1 o2 o3
  obtain ⟨c0, c1, c2, c3⟩ := box4_of HS12.out.blk
  obtain ⟨o0, o1, o2, o3⟩ := box4_of HO12.out.blk
  go_wp2_with fail
  refine (same_eq _ _ S _ HO12.out.st HS12.out.st).mono ?_
  rintro e w13 ⟨rfl, hb⟩
  have HS13 := Lib.hid (HS12.out.next hb)
  have HO13 := Lib.hid (HO12.out.next hb)
  have HU13 := Lib.hid (HU12.out.to hb)
  have HV13 := Lib.hid (HV12.out.to hb)
  have HW13 := Lib.hid (HW12.out.to hb)
  have HX13 := Lib.hid (HX12.out.to hb)
  have HY13 := Lib.hid (HY12.out.to hb)
  have HZ13 := Lib.hid (HZ12.out.to hb)
  clear hb c0 c1 c2 c3 o0 o1 o2 o3
  obtain ⟨c0, c1, c2, c3⟩ := box4_of HS13.out.blk
  obtain ⟨o0, o1, o2, o3⟩ := box4_of HO13.out.blk
  go_wp2_with (go_at_call 15; refine (works_any _).mono ?_; rintro e wz ⟨rfl, hb⟩; have HB := Lib.hid ((HS13.out.next hb).b); clear hb)
  go_ret
  exact ⟨rfl, HB.out⟩
end Go.Proofs.Ytjflpmhlodgadaa
