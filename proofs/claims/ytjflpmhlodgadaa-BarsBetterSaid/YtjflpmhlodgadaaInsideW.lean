/-
  What a store, known better, tells: the law's own function inside.
-/
import Derived.Test.YtjflpmhlodgadaaBetterM
import Derived.Test.YtjflpmhlodgadaaOfLaw
import Derived.Deep.DeepCutAuto
namespace Go.Proofs.Ytjflpmhlodgadaa
open Go.RowKit Go.Sort

theorem restT_ok {S : Store} {c : Int} (hV : Valid S) (h0 : (truthsL S).length ≠ 0) (h : wB c 0 ((S.bars.length : Int) - 1) = true) : restT S c = ((restSpan S c (truthsL S)).1, (restSpan S c (truthsL S)).2, 0) := by
  unfold restT
  rw [if_neg (by rw [valid_iff.2 hV]; simp), if_neg (by rw [h]; simp), if_neg h0]
theorem restT_arg {S : Store} {c : Int} (hV : Valid S) (h : wB c 0 ((S.bars.length : Int) - 1) = false) : restT S c = (0, 0, 1) := by
  unfold restT
  rw [if_neg (by rw [valid_iff.2 hV]; simp), if_pos h]
theorem roomT_ok {S : Store} {n : Int} (hV : Valid S) (h : wB n 1 999 = true) : roomT S n = roomV S n := by
  unfold roomT
  rw [if_neg (by rw [valid_iff.2 hV]; simp), if_neg (by rw [h]; simp)]
theorem roomT_arg {S : Store} {n : Int} (hV : Valid S) (h : wB n 1 999 = false) : roomT S n = (0, 1) := by
  unfold roomT
  rw [if_neg (by rw [valid_iff.2 hV]; simp), if_pos h]
theorem knownV_err {q : List Int → Bool} {xs : List (List Int)} (h : xs.length ≠ 0) : (knownV q xs).2 = 0 := by
  obtain ⟨x, hx⟩ := List.exists_mem_of_ne_nil xs (fun e => h (by rw [e]; rfl))
  exact (known_agrees hx).1

/-- Whether a room is told for sure. -/
def askB (S : Store) (n : Int) : Bool := ((roomT S n).2 == 0) && ((roomT S n).1 != 3)
theorem askB_yes {A B : Store} {n : Int} (hI : Inside A B) (h0 : (truthsL A).length ≠ 0) (h : askB B n = true) : wB n 1 999 = true ∧ (roomT B n).2 = 0 ∧ roomT A n = roomT B n := by
  simp only [askB, Bool.and_eq_true, beq_iff_eq, bne_iff_ne] at h
  cases hD : wB n 1 999
  · rw [roomT_arg hI.vb hD] at h; simp at h
  · refine ⟨rfl, h.1, ?_⟩
    rw [roomT_ok hI.va hD, roomT_ok hI.vb hD]
    rw [roomT_ok hI.vb hD] at h
    exact hI.room n h0 h.2

set_option maxRecDepth 100000 in
set_option maxHeartbeats 16000000 in
theorem inside_any (va vb : Value) (A B : Store) (P R C D : Int) (w : World) (ha : StoreAt w.heap.size w va A) (hb : StoreAt w.heap.size w vb B) (hI : Inside A B) :
    Calls Try.prog 36 #[va, vb, .agg #[.int .i64 P, .int .i64 R, .int .i64 C, .int .i64 D]] w fun e w' => e = .returned (.bool true) ∧ Below w.heap.size w w' := by
  have ha' := ha
  have hb' := hb
  obtain ⟨a, cap1, b1, off, a2, cap2, b2, off2, rfl, hm, hm2, q1, q2, q3, q4⟩ := ha.opened
  obtain ⟨d, dcap1, e1, eoff, d2, dcap2, e2, eoff2, rfl, hm3, hm4, q5, q6, q7, q8⟩ := hb.opened
  have HA0 := Lib.hid (((Stat.first ha').alloc (.cells #[.slice d B.bars.length dcap1, .int .i64 B.kerf, .slice d2 B.pieces.length dcap2, .int .i64 B.wrong] 25)).alloc (.cells #[.int .i64 P, .int .i64 R, .int .i64 C, .int .i64 D] 28))
  have HB0 := Lib.hid ((show Stat w ((w.alloc (.cells #[.slice a A.bars.length cap1, .int .i64 A.kerf, .slice a2 A.pieces.length cap2, .int .i64 A.wrong] 25)).alloc (.cells #[.slice d B.bars.length dcap1, .int .i64 B.kerf, .slice d2 B.pieces.length dcap2, .int .i64 B.wrong] 25)) (w.heap.size + 1) _ _ _ _ B from ⟨(heap_at2 w _ _).2, (hb'.below (below_at2 w _ _)).mono (by simp; omega), below_at2 w _ _⟩).alloc (.cells #[.int .i64 P, .int .i64 R, .int .i64 C, .int .i64 D] 28))
  have HX0 := Lib.hid (show BlkAt (((w.alloc (.cells #[.slice a A.bars.length cap1, .int .i64 A.kerf, .slice a2 A.pieces.length cap2, .int .i64 A.wrong] 25)).alloc (.cells #[.slice d B.bars.length dcap1, .int .i64 B.kerf, .slice d2 B.pieces.length dcap2, .int .i64 B.wrong] 25)).alloc (.cells #[.int .i64 P, .int .i64 R, .int .i64 C, .int .i64 D] 28)) (w.heap.size + 2) (.cells #[.int .i64 P, .int .i64 R, .int .i64 C, .int .i64 D] 28) from (heap_at3 w _ _ _).2.2)
  clear ha hb ha' hb' q1 q2 q3 q4 q5 q6 q7 q8
  obtain ⟨c0, c1, c2, c3⟩ := box4_of HA0.out.blk
  obtain ⟨o0, o1, o2, o3⟩ := box4_of HB0.out.blk
  obtain ⟨x0, x1, x2, x3⟩ := box4_of HX0.out
  have HI := Lib.hid hI
  have hva := Lib.hid hI.va
  have hvb := Lib.hid hI.vb
  by_cases h0 : (truthsL A).length = 0
  · have HMA := Lib.hid (fun w (h : StoreAt w.heap.size w (.agg #[.slice a A.bars.length cap1, .int .i64 A.kerf, .slice a2 A.pieces.length cap2, .int .i64 A.wrong]) A) => show Calls Try.prog 33 #[.agg #[.slice a A.bars.length cap1, .int .i64 A.kerf, .slice a2 A.pieces.length cap2, .int .i64 A.wrong]] w (fun e w' => e = .returned (.tuple #[.int .i64 0, .int .i64 3]) ∧ Below w.heap.size w w') from by
      have := Many_any _ A w h hva.out
      rwa [h0] at this)
    clear hI h0
    go_enter Try.func36, Try.ntmps36
    go_wp2_with fail
    refine (HMA.out _ HA0.out.st).mono ?_
    rintro e w1 ⟨rfl, hb⟩
    have HA1 := Lib.hid (HA0.out.next hb)
    have HB1 := Lib.hid (HB0.out.next hb)
    have HX1 := Lib.hid (HX0.out.next hb)
    clear hb c0 c1 c2 c3 o0 o1 o2 o3 x0 x1 x2 x3
    obtain ⟨c0, c1, c2, c3⟩ := box4_of HA1.out.blk
    obtain ⟨o0, o1, o2, o3⟩ := box4_of HB1.out.blk
    obtain ⟨x0, x1, x2, x3⟩ := box4_of HX1.out
    go_wp2_with fail
    refine (Many_any _ B _ HB1.out.st hvb.out).mono ?_
    rintro e w2 ⟨rfl, hb⟩
    have HA2 := Lib.hid (HA1.out.next hb)
    have HB2 := Lib.hid (HB1.out.next hb)
    have HX2 := Lib.hid (HX1.out.next hb)
    clear hb c0 c1 c2 c3 o0 o1 o2 o3 x0 x1 x2 x3
    obtain ⟨c0, c1, c2, c3⟩ := box4_of HA2.out.blk
    obtain ⟨o0, o1, o2, o3⟩ := box4_of HB2.out.blk
    obtain ⟨x0, x1, x2, x3⟩ := box4_of HX2.out
    go_wp2_with (go_at_call 34; refine (isKnown_same (by first | exact errN_cases _ | simp) _).mono ?_; rintro e w' ⟨rfl, rfl⟩)
    go_ret
    exact ⟨rfl, HA2.out.b⟩
  · obtain ⟨mA, hmA⟩ : ∃ m, m = (truthsL A).length := ⟨_, rfl⟩
    obtain ⟨mB, hmB⟩ : ∃ m, m = (truthsL B).length := ⟨_, rfl⟩
    have hle : mA ≤ mB := by rw [hmA, hmB]; exact hI.many
    have h1 : 1 ≤ mA := by omega
    have hmx : mB ≤ 1679616 := by rw [hmB]; exact sawL_len hI.vb _
    have H0 := Lib.hid h0
    have H0B := Lib.hid (hI.some h0)
    have HMA := Lib.hid (fun w (h : StoreAt w.heap.size w (.agg #[.slice a A.bars.length cap1, .int .i64 A.kerf, .slice a2 A.pieces.length cap2, .int .i64 A.wrong]) A) => show Calls Try.prog 33 #[.agg #[.slice a A.bars.length cap1, .int .i64 A.kerf, .slice a2 A.pieces.length cap2, .int .i64 A.wrong]] w (fun e w' => e = .returned (.tuple #[.int .i64 mA, .int .i64 0]) ∧ Below w.heap.size w w') from by
      have := Many_any _ A w h hva.out
      rwa [errN_pos h0, ← hmA] at this)
    have HMB := Lib.hid (fun w (h : StoreAt w.heap.size w (.agg #[.slice d B.bars.length dcap1, .int .i64 B.kerf, .slice d2 B.pieces.length dcap2, .int .i64 B.wrong]) B) => show Calls Try.prog 33 #[.agg #[.slice d B.bars.length dcap1, .int .i64 B.kerf, .slice d2 B.pieces.length dcap2, .int .i64 B.wrong]] w (fun e w' => e = .returned (.tuple #[.int .i64 mB, .int .i64 0]) ∧ Below w.heap.size w w') from by
      have := Many_any _ B w h hvb.out
      rwa [errN_pos (hI.some h0), ← hmB] at this)
    have hd1 : decide ((mA : Int) < 1) = false := decide_eq_false (by omega)
    have hd2 : decide (mB < mA) = false := decide_eq_false (by omega)
    clear hI h0 hmA hmB
    go_enter Try.func36, Try.ntmps36
    go_wp2_with fail
    refine (HMA.out _ HA0.out.st).mono ?_
    rintro e w1 ⟨rfl, hb⟩
    have HA1 := Lib.hid (HA0.out.next hb)
    have HB1 := Lib.hid (HB0.out.next hb)
    have HX1 := Lib.hid (HX0.out.next hb)
    clear hb c0 c1 c2 c3 o0 o1 o2 o3 x0 x1 x2 x3
    obtain ⟨c0, c1, c2, c3⟩ := box4_of HA1.out.blk
    obtain ⟨o0, o1, o2, o3⟩ := box4_of HB1.out.blk
    obtain ⟨x0, x1, x2, x3⟩ := box4_of HX1.out
    go_wp2_with fail
    refine (HMB.out _ HB1.out.st).mono ?_
    rintro e w2 ⟨rfl, hb⟩
    have HA2 := Lib.hid (HA1.out.next hb)
    have HB2 := Lib.hid (HB1.out.next hb)
    have HX2 := Lib.hid (HX1.out.next hb)
    clear hb c0 c1 c2 c3 o0 o1 o2 o3 x0 x1 x2 x3
    obtain ⟨c0, c1, c2, c3⟩ := box4_of HA2.out.blk
    obtain ⟨o0, o1, o2, o3⟩ := box4_of HB2.out.blk
    obtain ⟨x0, x1, x2, x3⟩ := box4_of HX2.out
    go_wp2_with (go_at_call 34; refine (isKnown_same (by simp) _).mono ?_; rintro e w' ⟨rfl, rfl⟩)
    refine (Rest_all _ A C _ HA2.out.st).mono ?_
    rintro e w3 ⟨rfl, hb⟩
    have HA3 := Lib.hid (HA2.out.next hb)
    have HB3 := Lib.hid (HB2.out.next hb)
    have HX3 := Lib.hid (HX2.out.next hb)
    clear hb c0 c1 c2 c3 o0 o1 o2 o3 x0 x1 x2 x3
    obtain ⟨c0, c1, c2, c3⟩ := box4_of HA3.out.blk
    obtain ⟨o0, o1, o2, o3⟩ := box4_of HB3.out.blk
    obtain ⟨x0, x1, x2, x3⟩ := box4_of HX3.out
    have hba := (Below.refl w3.heap.size w3).alloc (Nat.le_refl _) (.cells #[.int .i64 (restT A C).1, .int .i64 (restT A C).2.1] 43)
    have gHA := HA3.out.next hba
    have gHB := HB3.out.next hba
    have gHX := HX3.out.next hba
    have gHZ := (show BlkAt (w3.alloc (.cells #[.int .i64 (restT A C).1, .int .i64 (restT A C).2.1] 43)) w3.heap.size (.cells #[.int .i64 (restT A C).1, .int .i64 (restT A C).2.1] 43) from heap_new _ _)
    clear c0 c1 c2 c3 o0 o1 o2 o3 x0 x1 x2 x3
    obtain ⟨c0, c1, c2, c3⟩ := box4_of gHA.blk
    obtain ⟨o0, o1, o2, o3⟩ := box4_of gHB.blk
    obtain ⟨x0, x1, x2, x3⟩ := box4_of gHX
    obtain ⟨z0, z1⟩ := box2_of gHZ
    go_upto_if 72 with fail
    generalize w3.alloc (.cells #[.int .i64 (restT A C).1, .int .i64 (restT A C).2.1] 43) = w4 at hba gHA gHB gHX gHZ c0 c1 c2 c3 o0 o1 o2 o3 x0 x1 x2 x3 z0 z1 ⊢
    clear hba
    have HA4 := Lib.hid gHA
    have HB4 := Lib.hid gHB
    have HX4 := Lib.hid gHX
    have HZ4 := Lib.hid gHZ
    clear gHA gHB gHX gHZ
    go_cut [] (fun wx => Hid (Below w4.heap.size w4 wx))
    case first =>
      cases hC : wB C 0 ((A.bars.length : Int) - 1)
      · have hq : ((restT A C).2.2 == 0) = false := by rw [restT_arg hva.out hC]; rfl
        clear hC
        go_wp2_with fail
        go_meet
        exact Below.refl _ _
      · have hCB : wB C 0 ((B.bars.length : Int) - 1) = true := by rw [HI.out.bars]; exact hC
        have hsp := HI.out.span C H0.out
        have eA := restT_ok hva.out H0.out hC
        have eB := restT_ok hvb.out H0B.out hCB
        have hq : ((restT A C).2.2 == 0) = true := by rw [eA]; rfl
        have hq1 : ((restT B C).2.2 != 0) = false := by rw [eB]; rfl
        have hq2 : decide ((restT A C).1 < (restT B C).1) = false := decide_eq_false (by rw [eA, eB]; dsimp only; omega)
        have hq3 : decide ((restT B C).2.1 < (restT A C).2.1) = false := decide_eq_false (by rw [eA, eB]; dsimp only; omega)
        have hq4 : decide ((restT A C).2.1 < (restT A C).1) = false := decide_eq_false (by rw [eA]; dsimp only; omega)
        clear hC hCB hsp eA eB
        go_wp2_with fail
        refine (Rest_all _ B C _ HB4.out.st).mono ?_
        rintro e w5 ⟨rfl, hb⟩
        have HBB := Lib.hid hb
        have HA5 := Lib.hid (HA4.out.next hb)
        have HB5 := Lib.hid (HB4.out.next hb)
        have HX5 := Lib.hid (HX4.out.next hb)
        have HZ5 := Lib.hid (HZ4.out.next hb)
        clear hb c0 c1 c2 c3 o0 o1 o2 o3 x0 x1 x2 x3 z0 z1
        obtain ⟨c0, c1, c2, c3⟩ := box4_of HA5.out.blk
        obtain ⟨o0, o1, o2, o3⟩ := box4_of HB5.out.blk
        obtain ⟨x0, x1, x2, x3⟩ := box4_of HX5.out
        obtain ⟨z0, z1⟩ := box2_of HZ5.out
        have hba := (Below.refl w5.heap.size w5).alloc (Nat.le_refl _) (.cells #[.int .i64 (restT B C).1, .int .i64 (restT B C).2.1] 43)
        have gHA := HA5.out.next hba
        have gHB := HB5.out.next hba
        have gHX := HX5.out.next hba
        have gHZ := HZ5.out.next hba
        have gHY := (show BlkAt (w5.alloc (.cells #[.int .i64 (restT B C).1, .int .i64 (restT B C).2.1] 43)) w5.heap.size (.cells #[.int .i64 (restT B C).1, .int .i64 (restT B C).2.1] 43) from heap_new _ _)
        clear c0 c1 c2 c3 o0 o1 o2 o3 x0 x1 x2 x3 z0 z1
        obtain ⟨c0, c1, c2, c3⟩ := box4_of gHA.blk
        obtain ⟨o0, o1, o2, o3⟩ := box4_of gHB.blk
        obtain ⟨x0, x1, x2, x3⟩ := box4_of gHX
        obtain ⟨z0, z1⟩ := box2_of gHZ
        obtain ⟨y0, y1⟩ := box2_of gHY
        have gBC := HBB.out.trans (hba.mono HBB.out.size)
        go_wp2_with fail
        generalize w5.alloc (.cells #[.int .i64 (restT B C).1, .int .i64 (restT B C).2.1] 43) = w6 at hba gBC gHA gHB gHX gHZ gHY c0 c1 c2 c3 o0 o1 o2 o3 x0 x1 x2 x3 z0 z1 y0 y1 ⊢
        clear hba
        have HA6 := Lib.hid gHA
        have HB6 := Lib.hid gHB
        have HX6 := Lib.hid gHX
        have HZ6 := Lib.hid gHZ
        have HY6 := Lib.hid gHY
        clear gHA gHB gHX gHZ gHY
        have HBC := Lib.hid gBC
        clear gBC
        go_wp2_with fail
        go_meet
        exact HBC
    case rest =>
      have hb := hcut.out
      have HA5 := Lib.hid (HA4.out.next hb)
      have HB5 := Lib.hid (HB4.out.next hb)
      have HX5 := Lib.hid (HX4.out.next hb)
      have HZ5 := Lib.hid (HZ4.out.next hb)
      clear hb hcut c0 c1 c2 c3 o0 o1 o2 o3 x0 x1 x2 x3 z0 z1
      obtain ⟨c0, c1, c2, c3⟩ := box4_of HA5.out.blk
      obtain ⟨o0, o1, o2, o3⟩ := box4_of HB5.out.blk
      obtain ⟨x0, x1, x2, x3⟩ := box4_of HX5.out
      obtain ⟨z0, z1⟩ := box2_of HZ5.out
      go_wp2_with fail
      refine (Room_all _ B D _ HB5.out.st).mono ?_
      rintro e w6 ⟨rfl, hb⟩
      have HA6 := Lib.hid (HA5.out.next hb)
      have HB6 := Lib.hid (HB5.out.next hb)
      have HX6 := Lib.hid (HX5.out.next hb)
      have HZ6 := Lib.hid (HZ5.out.next hb)
      clear hb c0 c1 c2 c3 o0 o1 o2 o3 x0 x1 x2 x3 z0 z1
      obtain ⟨c0, c1, c2, c3⟩ := box4_of HA6.out.blk
      obtain ⟨o0, o1, o2, o3⟩ := box4_of HB6.out.blk
      obtain ⟨x0, x1, x2, x3⟩ := box4_of HX6.out
      obtain ⟨z0, z1⟩ := box2_of HZ6.out
      go_upto_region 13 with fail
      go_cut [115] from 110 to 114 (fun b wz => b = .bool (askB B D) ∧ w6 = wz)
      case first =>
        cases hq : ((roomT B D).2 == 0)
        · have HA := Lib.hid (show askB B D = false from by rw [askB, hq]; rfl)
          go_wp2_with fail
          go_meet
          exact ⟨by rw [HA.out], rfl⟩
        · have HA := Lib.hid (show askB B D = ((roomT B D).1 != 3) from by rw [askB, hq]; rfl)
          go_wp2_with fail
          go_meet
          exact ⟨by rw [HA.out], rfl⟩
      case rest =>
      obtain ⟨rfl, rfl⟩ := hcut
      go_upto_if 115 with fail
      go_cut [] (fun wx => Hid (Below w6.heap.size w6 wx))
      case first =>
        cases hq : askB B D
        · go_wp2_with fail
          go_meet
          exact Below.refl _ _
        · have ⟨hD, h3, e⟩ := askB_yes HI.out H0.out hq
          have HRA := Lib.hid (fun w (h : StoreAt w.heap.size w (.agg #[.slice a A.bars.length cap1, .int .i64 A.kerf, .slice a2 A.pieces.length cap2, .int .i64 A.wrong]) A) => show Calls Try.prog 26 #[.agg #[.slice a A.bars.length cap1, .int .i64 A.kerf, .slice a2 A.pieces.length cap2, .int .i64 A.wrong], .int .i64 D] w (fun e w' => e = .returned (.tuple #[.int .i64 (roomT B D).1, .int .i64 0]) ∧ Below w.heap.size w w') from by
            have := Room_all _ A D w h
            rwa [e, h3] at this)
          clear h3 e hD
          go_wp2_with fail
          refine (HRA.out _ HA6.out.st).mono ?_
          rintro e w7 ⟨rfl, hb⟩
          have HBB := Lib.hid hb
          clear hb
          go_wp2_with fail
          go_meet
          exact HBB
      case rest =>
        have hb := hcut.out
        have HA7 := Lib.hid (HA6.out.next hb)
        have HB7 := Lib.hid (HB6.out.next hb)
        have HX7 := Lib.hid (HX6.out.next hb)
        have HZ7 := Lib.hid (HZ6.out.next hb)
        clear hb hcut c0 c1 c2 c3 o0 o1 o2 o3 x0 x1 x2 x3 z0 z1
        obtain ⟨c0, c1, c2, c3⟩ := box4_of HA7.out.blk
        obtain ⟨o0, o1, o2, o3⟩ := box4_of HB7.out.blk
        obtain ⟨x0, x1, x2, x3⟩ := box4_of HX7.out
        obtain ⟨z0, z1⟩ := box2_of HZ7.out
        cases hP : wB P 0 ((A.pieces.length : Int) - 1)
        · have HP := Lib.hid hP
          clear hP
          go_wp2_with fail
          refine (rIsPiece_to HP.out HA7.out.st).mono ?_
          rintro e w8 ⟨rfl, hb⟩
          have HB8 := Lib.hid (HA7.out.next hb).b
          clear hb
          go_wp2_with fail
          go_ret
          exact ⟨rfl, HB8.out⟩
        have HP := Lib.hid hP
        cases hR : wB R 0 ((A.pieces.length : Int) - 1)
        · have HR := Lib.hid hR
          clear hR hP
          go_wp2_with fail
          refine (rIsPiece_to HP.out HA7.out.st).mono ?_
          rintro e w8 ⟨rfl, hb⟩
          have HA8 := Lib.hid (HA7.out.next hb)
          have HB8 := Lib.hid (HB7.out.next hb)
          have HX8 := Lib.hid (HX7.out.next hb)
          clear hb c0 c1 c2 c3 o0 o1 o2 o3 x0 x1 x2 x3
          obtain ⟨c0, c1, c2, c3⟩ := box4_of HA8.out.blk
          obtain ⟨o0, o1, o2, o3⟩ := box4_of HB8.out.blk
          obtain ⟨x0, x1, x2, x3⟩ := box4_of HX8.out
          go_wp2_with fail
          refine (rIsPiece_to HR.out HA8.out.st).mono ?_
          rintro e w9 ⟨rfl, hb⟩
          have HB9 := Lib.hid (HA8.out.next hb).b
          clear hb
          go_wp2_with fail
          go_ret
          exact ⟨rfl, HB9.out⟩
        have HR := Lib.hid hR
        have h2 := wB_iff.1 hP
        have h3 := wB_iff.1 hR
        obtain ⟨p, rfl⟩ := Int.eq_ofNat_of_zero_le h2.1
        obtain ⟨r, rfl⟩ := Int.eq_ofNat_of_zero_le h3.1
        have hp : p < A.pieces.length := by omega
        have hr : r < A.pieces.length := by omega
        have hpB : p < B.pieces.length := by rw [HI.out.np]; exact hp
        have hrB : r < B.pieces.length := by rw [HI.out.np]; exact hr
        have HOA := Lib.hid (fun w (h : StoreAt w.heap.size w (.agg #[.slice a A.bars.length cap1, .int .i64 A.kerf, .slice a2 A.pieces.length cap2, .int .i64 A.wrong]) A) => show Calls Try.prog 29 #[.agg #[.slice a A.bars.length cap1, .int .i64 A.kerf, .slice a2 A.pieces.length cap2, .int .i64 A.wrong], .int .i64 p] w (GaveIntsE (ofS A p) 0 w) from by
          have := Of_any _ A p w h hva.out hp
          rwa [of_len hva.out hp, errN_pos H0.out] at this)
        have HOB := Lib.hid (fun w (h : StoreAt w.heap.size w (.agg #[.slice d B.bars.length dcap1, .int .i64 B.kerf, .slice d2 B.pieces.length dcap2, .int .i64 B.wrong]) B) => show Calls Try.prog 29 #[.agg #[.slice d B.bars.length dcap1, .int .i64 B.kerf, .slice d2 B.pieces.length dcap2, .int .i64 B.wrong], .int .i64 p] w (GaveIntsE (ofS B p) 0 w) from by
          have := Of_any _ B p w h hvb.out hpB
          rwa [of_len hvb.out hpB, errN_pos H0B.out] at this)
        obtain ⟨kA, hkA⟩ : ∃ k, k = (alikeV A p r).1 := ⟨_, rfl⟩
        obtain ⟨kB, hkB⟩ : ∃ k, k = (alikeV B p r).1 := ⟨_, rfl⟩
        have HLA := Lib.hid (fun w (h : StoreAt w.heap.size w (.agg #[.slice a A.bars.length cap1, .int .i64 A.kerf, .slice a2 A.pieces.length cap2, .int .i64 A.wrong]) A) => show Calls Try.prog 31 #[.agg #[.slice a A.bars.length cap1, .int .i64 A.kerf, .slice a2 A.pieces.length cap2, .int .i64 A.wrong], .int .i64 p, .int .i64 r] w (fun e w' => e = .returned (.tuple #[.int .i64 kA, .int .i64 0]) ∧ Below w.heap.size w w') from by
          have := Alike_any _ A p r w h hva.out hp hr
          rwa [show (alikeV A p r).2 = 0 from knownV_err H0.out, ← hkA] at this)
        have HLB := Lib.hid (fun w (h : StoreAt w.heap.size w (.agg #[.slice d B.bars.length dcap1, .int .i64 B.kerf, .slice d2 B.pieces.length dcap2, .int .i64 B.wrong]) B) => show Calls Try.prog 31 #[.agg #[.slice d B.bars.length dcap1, .int .i64 B.kerf, .slice d2 B.pieces.length dcap2, .int .i64 B.wrong], .int .i64 p, .int .i64 r] w (fun e w' => e = .returned (.tuple #[.int .i64 kB, .int .i64 0]) ∧ Below w.heap.size w w') from by
          have := Alike_any _ B p r w h hvb.out hpB hrB
          rwa [show (alikeV B p r).2 = 0 from knownV_err H0B.out, ← hkB] at this)
        have HKK := Lib.hid (show kB ≠ 3 → kA = kB from fun h => by rw [hkA, hkB]; rw [hkB] at h; rw [HI.out.alike p r H0.out h])
        have hlen : (ofS B p).length ≤ 6 := numsTo_length _ _
        have HSUB := Lib.hid (HI.out.of hp)
        clear hP hR h2 h3 hp hr hpB hrB hkA hkB
        go_wp2_with fail
        refine (rIsPiece_to HP.out HA7.out.st).mono ?_
        rintro e w8 ⟨rfl, hb⟩
        have HA8 := Lib.hid (HA7.out.next hb)
        have HB8 := Lib.hid (HB7.out.next hb)
        have HX8 := Lib.hid (HX7.out.next hb)
        clear hb c0 c1 c2 c3 o0 o1 o2 o3 x0 x1 x2 x3
        obtain ⟨c0, c1, c2, c3⟩ := box4_of HA8.out.blk
        obtain ⟨o0, o1, o2, o3⟩ := box4_of HB8.out.blk
        obtain ⟨x0, x1, x2, x3⟩ := box4_of HX8.out
        go_wp2_with fail
        refine (rIsPiece_to HR.out HA8.out.st).mono ?_
        rintro e w9 ⟨rfl, hb⟩
        have HA9 := Lib.hid (HA8.out.next hb)
        have HB9 := Lib.hid (HB8.out.next hb)
        have HX9 := Lib.hid (HX8.out.next hb)
        clear hb c0 c1 c2 c3 o0 o1 o2 o3 x0 x1 x2 x3
        obtain ⟨c0, c1, c2, c3⟩ := box4_of HA9.out.blk
        obtain ⟨o0, o1, o2, o3⟩ := box4_of HB9.out.blk
        obtain ⟨x0, x1, x2, x3⟩ := box4_of HX9.out
        go_wp2_with fail
        refine (HOA.out _ HA9.out.st).mono ?_
        rintro e w10 ⟨v1, rfl, hv, hb⟩
        obtain ⟨A1, n1, _, _, rfl, _, _, _, _⟩ := hv.opened
        have HU10 := Lib.hid hv
        clear hv
        have HA10 := Lib.hid (HA9.out.next hb)
        have HB10 := Lib.hid (HB9.out.next hb)
        have HX10 := Lib.hid (HX9.out.next hb)
        clear hb c0 c1 c2 c3 o0 o1 o2 o3 x0 x1 x2 x3
        obtain ⟨c0, c1, c2, c3⟩ := box4_of HA10.out.blk
        obtain ⟨o0, o1, o2, o3⟩ := box4_of HB10.out.blk
        obtain ⟨x0, x1, x2, x3⟩ := box4_of HX10.out
        go_wp2_with fail
        refine (HOB.out _ HB10.out.st).mono ?_
        rintro e w11 ⟨v2, rfl, hv, hb⟩
        obtain ⟨A2, n2, _, _, rfl, _, _, _, _⟩ := hv.opened
        have HU11 := Lib.hid (HU10.out.to hb)
        have HV11 := Lib.hid hv
        clear hv
        have HA11 := Lib.hid (HA10.out.next hb)
        have HB11 := Lib.hid (HB10.out.next hb)
        have HX11 := Lib.hid (HX10.out.next hb)
        clear hb c0 c1 c2 c3 o0 o1 o2 o3 x0 x1 x2 x3
        obtain ⟨c0, c1, c2, c3⟩ := box4_of HA11.out.blk
        obtain ⟨o0, o1, o2, o3⟩ := box4_of HB11.out.blk
        obtain ⟨x0, x1, x2, x3⟩ := box4_of HX11.out
        go_wp2_with fail
        refine (HLA.out _ HA11.out.st).mono ?_
        rintro e w12 ⟨rfl, hb⟩
        have HU12 := Lib.hid (HU11.out.to hb)
        have HV12 := Lib.hid (HV11.out.to hb)
        have HA12 := Lib.hid (HA11.out.next hb)
        have HB12 := Lib.hid (HB11.out.next hb)
        have HX12 := Lib.hid (HX11.out.next hb)
        clear hb c0 c1 c2 c3 o0 o1 o2 o3 x0 x1 x2 x3
        obtain ⟨c0, c1, c2, c3⟩ := box4_of HA12.out.blk
        obtain ⟨o0, o1, o2, o3⟩ := box4_of HB12.out.blk
        obtain ⟨x0, x1, x2, x3⟩ := box4_of HX12.out
        go_wp2_with fail
        refine (HLB.out _ HB12.out.st).mono ?_
        rintro e w13 ⟨rfl, hb⟩
        have HU13 := Lib.hid (HU12.out.to hb)
        have HV13 := Lib.hid (HV12.out.to hb)
        have HB13 := Lib.hid (HA12.out.next hb).b
        clear hb
        have HSC := Lib.hid (show Calls Try.prog 39 #[_, _] w13 (fun e w' => e = .returned (.bool true) ∧ Below w13.heap.size w13 w') from (rSubset_any _ _ _ _ w13 HU13.out HV13.out).mono fun _ _ ⟨h1, h2⟩ => ⟨by rw [h1, HSUB.out], h2⟩)
        by_cases hk : kB = 3
        · have hq : (kB == 3) = true := by simpa using hk
          clear hk
          go_wp2_with fail
          refine HSC.out.mono ?_
          rintro e w14 ⟨rfl, hb⟩
          have HB14 := Lib.hid (HB13.out.trans (hb.mono HB13.out.size))
          clear hb
          go_wp2_with fail
          go_ret
          exact ⟨rfl, HB14.out⟩
        · have hq : (kB == 3) = false := by simpa using hk
          have hq2 : (kA == kB) = true := by simpa using HKK.out hk
          clear hk
          go_wp2_with fail
          refine HSC.out.mono ?_
          rintro e w14 ⟨rfl, hb⟩
          have HB14 := Lib.hid (HB13.out.trans (hb.mono HB13.out.size))
          clear hb
          go_wp2_with fail
          go_ret
          exact ⟨rfl, HB14.out⟩

end Go.Proofs.Ytjflpmhlodgadaa
