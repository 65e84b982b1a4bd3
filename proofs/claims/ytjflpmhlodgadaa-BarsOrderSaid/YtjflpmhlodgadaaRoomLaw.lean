/-
  A law's body: one more piece (P1.18).
-/
import Derived.Test.YtjflpmhlodgadaaStat
namespace Go.Proofs.Ytjflpmhlodgadaa
open Go.RowKit Go.Sort

theorem allHeats_step {k : Nat} (hk : k < 10) : (allHeats.take (k + 1)).map (Value.int .i64) = (allHeats.take k).map (Value.int .i64) ++ [.int .i64 (k : Int)] := by
  have : k = 0 ∨ k = 1 ∨ k = 2 ∨ k = 3 ∨ k = 4 ∨ k = 5 ∨ k = 6 ∨ k = 7 ∨ k = 8 ∨ k = 9 := by omega
  rcases this with rfl | rfl | rfl | rfl | rfl | rfl | rfl | rfl | rfl | rfl <;> rfl

/-- A copy with one more piece is a copy of the store with one more piece. -/
theorem copy_more {lo lo' : Nat} {S : Store} {p : Piece} {bv pv hv q : Value} {hs : Nat → Value} {w w1 : World} {o : Obj}
    (h1 : w.ownsRow lo 53 2 bv S.bars.length (bcells S.bars S.bars.length)) (h2 : w.ownsRow lo 60 2 pv S.pieces.length (pcells S.pieces hs S.pieces.length))
    (h3 : ∀ i, i < S.pieces.length → w.ownsRow lo 3 1 (hs i) (pnth S.pieces i).heats.length ((pnth S.pieces i).heats.map (Value.int .i64))) (hW : Wf S) (hWp : I64 p.long ∧ ∀ h ∈ p.heats, I64 h)
    (hh : w.ownsRow lo' 3 1 hv p.heats.length (p.heats.map (Value.int .i64))) (hlo : lo ≤ lo')
    (hg : (w.alloc o).grownBy w1 pv.ownBlock) (hq : w1.ownsRow lo 60 2 q (S.pieces.length + 1) (pcells S.pieces hs S.pieces.length ++ [.int .i64 p.long, hv])) :
    CopyAt lo w1 (.agg #[bv, .int .i64 S.kerf, q, .int .i64 S.wrong]) (more S p) := by
  have hk : ∀ {e : TypeId} {v : Value} {n size : Nat} {xs : List Value}, e ≠ 60 → w.ownsRow lo e size v n xs → w1.ownsRow lo e size v n xs := fun hne h => own_kept_type (h.alloc o) (h2.alloc o) hne hg
  refine ⟨bv, q, fun i => if i = S.pieces.length then hv else hs i, rfl, hk (by decide) h1, ?_, fun i hi => ?_, hW.bars, fun x hx => ?_, hW.kerf, hW.wrong⟩
  · have e : (more S p).pieces.length = S.pieces.length + 1 := more_len S p
    have e2 : pcells (more S p).pieces (fun i => if i = S.pieces.length then hv else hs i) (S.pieces.length + 1) = pcells S.pieces hs S.pieces.length ++ [.int .i64 p.long, hv] := pcells_more
    rw [e, e2]
    exact hq
  · rw [more_len] at hi
    by_cases e : i = S.pieces.length
    · subst e
      have e3 : pnth (more S p).pieces S.pieces.length = p := pnth_append_right
      rw [e3]
      simp only [if_true]
      exact hk (by decide) (own_base hh hlo)
    · have e3 : pnth (more S p).pieces i = pnth S.pieces i := pnth_append_left (by omega)
      rw [e3]
      simp only [if_neg e]
      exact hk (by decide) (h3 i (by omega))
  · rcases List.mem_append.1 hx with h | h
    · exact hW.pieces x h
    · rw [List.mem_singleton.1 h]; exact hWp

set_option maxRecDepth 100000 in
set_option maxHeartbeats 8000000 in
theorem BarsRoom_any (v : Value) (S : Store) (long : Int) (w : World) (hx : StoreAt w.heap.size w v S) (hI : I64 long) :
    Calls Try.prog 8 #[v, .int .i64 long] w fun e w' => e = .returned (.bool true) ∧ Below w.heap.size w w' := by
  have hx' := hx
  obtain ⟨a, cap1, b1, off, a2, cap2, b2, off2, rfl, hm, hm2, HA, HC, HA2, HC2⟩ := hx.opened
  obtain ⟨i0, hi, hz0, hz1, hz2⟩ := info_parts Try_infoInt
  obtain ⟨iP, hiP, hzP0, hzP1, hzP2⟩ := info_parts Try_infoPiece
  have HWF := Lib.hid hx'.wf
  have hs := Stat.first hx'
  obtain ⟨c0, c1, c2, c3⟩ := box4_of hs.blk
  have HS0 := Lib.hid hs
  clear hs hx hx' HA HC HA2 HC2
  cases hr : readyB S
  case false =>
    have HR := Lib.hid hr
    clear hr
    go_enter Try.func8, Try.ntmps8
    go_wp2_with fail
    refine (ready_to HR.out HS0.out.st).mono ?_
    rintro e w1 ⟨rfl, hb⟩
    have hs := HS0.out.next hb
    clear hb c0 c1 c2 c3
    obtain ⟨c0, c1, c2, c3⟩ := box4_of hs.blk
    have HS1 := Lib.hid hs
    have hZ1 := hs.b.size
    clear hs
    go_wp2_with fail
    refine (works_any _).mono ?_
    rintro e w2 ⟨rfl, hb⟩
    have HB := Lib.hid (HS1.out.next hb).b
    clear hb
    go_wp2
    go_ret
    exact ⟨rfl, HB.out⟩
  obtain ⟨hV, hFew, hb4, hp5⟩ := readyB_few hr
  have HR := Lib.hid hr
  have HV := Lib.hid hV
  have HFEW := Lib.hid hFew
  clear hr hV hFew
  by_cases hlo : 1 ≤ long
  case neg =>
    have hd1 : decide (long < 1) = true := by simp; omega
    clear hlo
    go_enter Try.func8, Try.ntmps8
    go_wp2_with fail
    refine (ready_to HR.out HS0.out.st).mono ?_
    rintro e w1 ⟨rfl, hb⟩
    have hs := HS0.out.next hb
    clear hb c0 c1 c2 c3
    obtain ⟨c0, c1, c2, c3⟩ := box4_of hs.blk
    have HS1 := Lib.hid hs
    have hZ1 := hs.b.size
    clear hs
    go_wp2_with fail
    refine (works_any _).mono ?_
    rintro e w2 ⟨rfl, hb⟩
    have HB := Lib.hid (HS1.out.next hb).b
    clear hb
    go_wp2
    go_ret
    exact ⟨rfl, HB.out⟩
  have hd1 : decide (long < 1) = false := by simp; omega
  by_cases hhi : long ≤ 999
  case neg =>
    have hd2 : decide (999 < long) = true := by simp; omega
    clear hlo hhi
    go_enter Try.func8, Try.ntmps8
    go_wp2_with fail
    refine (ready_to HR.out HS0.out.st).mono ?_
    rintro e w1 ⟨rfl, hb⟩
    have hs := HS0.out.next hb
    clear hb c0 c1 c2 c3
    obtain ⟨c0, c1, c2, c3⟩ := box4_of hs.blk
    have HS1 := Lib.hid hs
    have hZ1 := hs.b.size
    clear hs
    go_wp2_with fail
    refine (works_any _).mono ?_
    rintro e w2 ⟨rfl, hb⟩
    have HB := Lib.hid (HS1.out.next hb).b
    clear hb
    go_wp2
    go_ret
    exact ⟨rfl, HB.out⟩
  have hd2 : decide (999 < long) = false := by simp; omega
  have HLO := Lib.hid hlo
  have HHI := Lib.hid hhi
  clear hlo hhi
  obtain ⟨O, hO⟩ : ∃ O, O = more S ⟨long, allHeats⟩ := ⟨_, rfl⟩
  have HO := Lib.hid hO
  have hOW : Wf (more S ⟨long, allHeats⟩) := ⟨HWF.out.bars, fun x hx => by
    rcases List.mem_append.1 hx with h | h
    · exact HWF.out.pieces x h
    · rw [List.mem_singleton.1 h]
      exact ⟨hI, fun h hh => by simp only [allHeats, List.mem_cons, List.not_mem_nil, or_false] at hh; rcases hh with rfl | rfl | rfl | rfl | rfl | rfl | rfl | rfl | rfl | rfl <;> exact ⟨by decide, by decide⟩⟩, HWF.out.kerf, HWF.out.wrong⟩
  have HOW := Lib.hid hOW
  clear hO hOW
  go_enter Try.func8, Try.ntmps8
  go_wp2_with fail
  refine (ready_to HR.out HS0.out.st).mono ?_
  rintro e w1 ⟨rfl, hb⟩
  have hs := HS0.out.next hb
  clear hb c0 c1 c2 c3
  obtain ⟨c0, c1, c2, c3⟩ := box4_of hs.blk
  have HS1 := Lib.hid hs
  have hZ1 := hs.b.size
  clear hs
  go_wp2_with fail
  refine (Copy_any _ S _ HS1.out.st HFEW.out).mono ?_
  rintro e w2 ⟨u, rfl, hcp, hb⟩
  have HB12 := Lib.hid hb
  have hz12 := hb.size
  have hs := HS1.out.next hb
  clear hb c0 c1 c2 c3
  obtain ⟨c0, c1, c2, c3⟩ := box4_of hs.blk
  have HS2 := Lib.hid hs
  have hZ2 := hs.b.size
  clear hs
  obtain ⟨bv, pv, hs, rfl, h1, h2, h3, _⟩ := hcp
  obtain ⟨bA, bcap, rfl, _⟩ := own_form h1
  obtain ⟨pA, pcap, rfl, _⟩ := own_form h2
  have H1 := Lib.hid h1
  have H2 := Lib.hid h2
  have H3 := Lib.hid h3
  clear h1 h2 h3
  go_wp2
  go_loopw [6, 7] (fun v i wr => ∃ k : Nat, k ≤ 10 ∧ i = .int .i64 k ∧ Hid (wr.ownsRow (w2.heap.size + 1) 3 1 v k ((allHeats.take k).map (Value.int .i64))) ∧ Hid (Below (w2.heap.size + 1) (w2.alloc (.cells #[.slice bA S.bars.length bcap, .int .i64 S.kerf, .slice pA S.pieces.length pcap, .int .i64 S.wrong] 25)) wr)) (fun _ i _ => 10 - (intOf i).toNat)
  case atStart => exact ⟨0, Nat.zero_le _, rfl, World.ownsRow_nil _ _ _ _, Below.refl _ _⟩
  case round =>
    obtain ⟨k, hk, rfl, hown, hbr⟩ := hrel
    obtain ⟨vA, vcap, rfl, _⟩ := own_form hown.out
    have hszr := hbr.out.size
    simp only [World.size_alloc] at hszr
    clear c0 c1 c2 c3
    by_cases hlt : k < 10
    · have hle : decide ((k : Int) ≤ 9) = true := by simp; omega
      go_wp2_with (at_builtin; go_loud (refine wpList_onto (base := w2.heap.size + 1) (v := .slice vA k vcap) (n := k) (xs := (allHeats.take k).map (Value.int .i64)) (A := some ⟨wr.heap.size, 0, none⟩) (m := 1) (c := 1) (news := [.int .i64 (k : Int)]) rfl (.tmp 30) (.tmp 32) rfl Try.underlying26 hi hz0 hz1 hz2 rfl (by decide) rfl (hown.out.alloc _) rfl ⟨rfl, fun _ => ⟨_, rfl, cell_one_new _ _ _⟩⟩ (by simp [Value.oneCell']) (by unfold maxLen; omega) (by omega) (by simp; omega) ?_))
      intro A' c' w3 hown3 hgrow3 _
      have HN := Lib.hid (show w3.ownsRow (w2.heap.size + 1) 3 1 (.slice A' (k + 1) c') (k + 1) ((allHeats.take (k + 1)).map (Value.int .i64)) from by rw [allHeats_step hlt, List.map_take]; exact hown3)
      have HBN := Lib.hid ((hbr.out.alloc (by omega) _).grown hgrow3 (by simp; omega) (fun j e => (hown.out.lt j e).1))
      clear hown3 hgrow3 hown hbr
      go_wp2
      exact ⟨⟨k + 1, by omega, by go_num, HN, HBN⟩, by simp [intOf]; omega⟩
    · obtain rfl : k = 10 := by omega
      clear hlt hk
      have hbl : Below w2.heap.size w2 wr := ((Below.refl _ w2).alloc (Nat.le_refl _) _).trans (hbr.out.mono (by omega))
      have hblk := (hbr.out.block w2.heap.size (by omega)).trans (heap_new w2 _)
      have HS3 := Lib.hid (HS2.out.next hbl)
      have G1 := Lib.hid (own_below H1.out hbl)
      have G2 := Lib.hid (own_below H2.out hbl)
      have G3 := Lib.hid (fun i hi => own_below (H3.out i hi) hbl)
      have hpn := own_ne H2.out (b := w2.heap.size) (.inl (Nat.le_refl _))
      have hf := (box4f_of hblk).2 2
      obtain ⟨o0, o1, o2, o3⟩ := box4_of hblk
      have HBLK := Lib.hid hblk
      have HOWN := Lib.hid (show wr.ownsRow (w2.heap.size + 1) 3 1 (.slice vA 10 vcap) allHeats.length (allHeats.map (Value.int .i64)) from hown.out)
      have HBRW := Lib.hid (show Below w1.heap.size w1 wr from HB12.out.trans (hbl.mono (by omega)))
      have hnp := HFEW.out.np
      clear hblk hbl hown hbr
      go_wp2_with (at_builtin; go_loud (refine wpList_onto (base := w1.heap.size) (v := .slice pA S.pieces.length pcap) (n := S.pieces.length) (xs := pcells S.pieces hs S.pieces.length) (A := some ⟨wr.heap.size, 0, none⟩) (m := 1) (c := 1) (news := [.int .i64 long, .slice vA 10 vcap]) rfl (.tmp 35) (.tmp 39) rfl Try.underlying23 hiP hzP0 hzP1 hzP2 rfl (by decide) rfl (G2.out.alloc _) rfl ⟨rfl, fun _ => ⟨_, rfl, World.news_of_block (cs := #[.int .i64 long, .slice vA 10 vcap]) (t := 60) (fr := (0, 0)) (heap_alloc_new wr _)⟩⟩ (by simp [Value.oneCell']) (by unfold maxLen; omega) (by omega) (by simp; omega) ?_))
      intro qA qcap w4 hown4 hgrow4 _
      have hcp := copy_more (p := ⟨long, allHeats⟩) G1.out G2.out G3.out HWF.out (HOW.out.pieces _ (List.mem_append_right _ (by simp))) HOWN.out (by omega) hgrow4 hown4
      have hblk4 := (hgrow4.block w2.heap.size (by simp; omega) (Ne.symm hpn)).trans ((Below.heap_alloc _ _ _ (by omega)).trans HBLK.out)
      have hb4 : Below w1.heap.size w1 w4 := (HBRW.out.alloc (by omega) _).grown hgrow4 (by simp; omega) (fun j e => (H2.out.lt j e).1)
      have hcp5 := hcp.setBox (u := .slice qA (S.pieces.length + 1) qcap) (o := 2) hblk4
      have hblk5 := heap_set (o := 2) (.slice qA (S.pieces.length + 1) qcap) hblk4
      have hb5 := hb4.setCell (p := ⟨w2.heap.size, 2, none⟩) (by simp; omega) (.slice qA (S.pieces.length + 1) qcap)
      have ho : Stat w (w4.setCell ⟨w2.heap.size, 2, none⟩ (.slice qA (S.pieces.length + 1) qcap)) w2.heap.size (.slice bA S.bars.length bcap) (.int .i64 S.kerf) (.slice qA (S.pieces.length + 1) qcap) (.int .i64 S.wrong) (more S ⟨long, allHeats⟩) := ⟨hblk5, hcp5.store, HS1.out.b.trans (hb5.mono HS1.out.b.size)⟩
      have hs5 := HS1.out.next hb5
      have hf4 := (box4f_of hblk4).2 2
      clear o0 o1 o2 o3
      obtain ⟨p0, p1, p2, p3⟩ := box4_of hblk4
      obtain ⟨o0, o1, o2, o3⟩ := box4_of ho.blk
      obtain ⟨c0, c1, c2, c3⟩ := box4_of hs5.blk
      have HO5 := Lib.hid ho
      have HS5 := Lib.hid hs5
      clear hcp hblk4 hb4 hcp5 hblk5 hb5 ho hs5 hown4 hgrow4 hf
      go_wp2_with fail
      clear p0 p1 p2 p3 hf4
      cases hro : readyB (more S ⟨long, allHeats⟩)
      case false =>
        refine (ready_to hro HO5.out.st).mono ?_
        rintro e w6 ⟨rfl, hb⟩
        have hs := HS5.out.next hb
        have ho := HO5.out.next hb
        clear hb c0 c1 c2 c3 o0 o1 o2 o3
        obtain ⟨c0, c1, c2, c3⟩ := box4_of hs.blk
        have HS6 := Lib.hid hs
        have hZ6 := hs.b.size
        clear hs
        obtain ⟨o0, o1, o2, o3⟩ := box4_of ho.blk
        have HO6 := Lib.hid ho
        clear ho
        clear hro
        go_wp2_with (first | (go_at_call 34; refine (isKnown_same (by first | exact .inl rfl | exact .inr rfl) _).mono ?_; rintro e wk ⟨rfl, rfl⟩) | (go_at_call 15; refine (works_any _).mono ?_; rintro e wz ⟨rfl, hb⟩; have HB := Lib.hid (HS6.out.next hb).b; clear hb))
        go_ret
        exact ⟨rfl, HB.out⟩
      have hVO := (readyB_few hro).1
      have HIFF := Lib.hid (room_iff HV.out hVO)
      refine (ready_to hro HO5.out.st).mono ?_
      rintro e w6 ⟨rfl, hb⟩
      have hs := HS5.out.next hb
      have ho := HO5.out.next hb
      clear hb c0 c1 c2 c3 o0 o1 o2 o3
      obtain ⟨c0, c1, c2, c3⟩ := box4_of hs.blk
      have HS6 := Lib.hid hs
      have hZ6 := hs.b.size
      clear hs
      obtain ⟨o0, o1, o2, o3⟩ := box4_of ho.blk
      have HO6 := Lib.hid ho
      clear ho
      have HVO := Lib.hid hVO
      clear hro hVO
      go_wp2_with fail
      refine (Room_any _ S long _ HS6.out.st HV.out HLO.out HHI.out).mono ?_
      rintro e w7 ⟨rfl, hb⟩
      have hs := HS6.out.next hb
      have ho := HO6.out.next hb
      clear hb c0 c1 c2 c3 o0 o1 o2 o3
      obtain ⟨c0, c1, c2, c3⟩ := box4_of hs.blk
      have HS7 := Lib.hid hs
      have hZ7 := hs.b.size
      clear hs
      obtain ⟨o0, o1, o2, o3⟩ := box4_of ho.blk
      have HO7 := Lib.hid ho
      clear ho
      rcases roomV_cases (S := S) (long := long) with ⟨h0, hrv⟩ | ⟨h0, hr0, hrk⟩
      · have hz : (truthsL (more S ⟨long, allHeats⟩)).length = 0 := by
          refine Classical.byContradiction fun hn => ?_
          obtain ⟨x, hx, _⟩ := HIFF.out.1 hn
          rw [List.length_eq_zero_iff.1 h0] at hx
          cases hx
        rw [hrv]
        have HZ := Lib.hid (show errN (truthsL (more S ⟨long, allHeats⟩)).length = 3 from by rw [hz]; rfl)
        clear h0 hrv hz
        go_wp2_with fail
        refine (Many_any _ _ _ HO7.out.st HVO.out).mono ?_
        rintro e w8 ⟨rfl, hb⟩
        rw [HZ.out]
        have hs := HS7.out.next hb
        have ho := HO7.out.next hb
        clear hb c0 c1 c2 c3 o0 o1 o2 o3
        obtain ⟨c0, c1, c2, c3⟩ := box4_of hs.blk
        have HS8 := Lib.hid hs
        have hZ8 := hs.b.size
        clear hs
        obtain ⟨o0, o1, o2, o3⟩ := box4_of ho.blk
        have HO8 := Lib.hid ho
        clear ho
        go_wp2_with (first | (go_at_call 34; refine (isKnown_same (by first | exact .inl rfl | exact .inr rfl) _).mono ?_; rintro e wk ⟨rfl, rfl⟩) | (go_at_call 15; refine (works_any _).mono ?_; rintro e wz ⟨rfl, hb⟩; have HB := Lib.hid (HS8.out.next hb).b; clear hb))
        go_ret
        exact ⟨rfl, HB.out⟩
      · by_cases hz : (truthsL (more S ⟨long, allHeats⟩)).length = 0
        · have HZ := Lib.hid (show errN (truthsL (more S ⟨long, allHeats⟩)).length = 3 from by rw [hz]; rfl)
          have hn : ¬ ((roomV S long).1 = 1 ∨ (roomV S long).1 = 3) := fun h => HIFF.out.2 (hrk.1 h) hz
          have n1 : ((roomV S long).1 == 1) = false := by simpa using fun h => hn (.inl h)
          have n3 : ((roomV S long).1 == 3) = false := by simpa using fun h => hn (.inr h)
          rw [hr0]
          clear h0 hr0 hrk hz hn
          go_wp2_with fail
          refine (Many_any _ _ _ HO7.out.st HVO.out).mono ?_
          rintro e w8 ⟨rfl, hb⟩
          rw [HZ.out]
          have hs := HS7.out.next hb
          have ho := HO7.out.next hb
          clear hb c0 c1 c2 c3 o0 o1 o2 o3
          obtain ⟨c0, c1, c2, c3⟩ := box4_of hs.blk
          have HS8 := Lib.hid hs
          have hZ8 := hs.b.size
          clear hs
          obtain ⟨o0, o1, o2, o3⟩ := box4_of ho.blk
          have HO8 := Lib.hid ho
          clear ho
          go_wp2_with (first | (go_at_call 34; refine (isKnown_same (by first | exact .inl rfl | exact .inr rfl) _).mono ?_; rintro e wk ⟨rfl, rfl⟩) | (go_at_call 15; refine (works_any _).mono ?_; rintro e wz ⟨rfl, hb⟩; have HB := Lib.hid (HS8.out.next hb).b; clear hb))
          go_ret
          exact ⟨rfl, HB.out⟩
        · have HZ := Lib.hid (show errN (truthsL (more S ⟨long, allHeats⟩)).length = 0 from errN_pos hz)
          obtain ⟨M, hM⟩ : ∃ M, (truthsL (more S ⟨long, allHeats⟩)).length = M := ⟨_, rfl⟩
          have hpos : 0 < M := by omega
          have HMM := Lib.hid hM
          rcases hrk.2 (HIFF.out.1 hz) with h1 | h1
          all_goals
            rw [hr0, h1]
            clear h0 hr0 hrk hz h1 hM
            go_wp2_with fail
            refine (Many_any _ _ _ HO7.out.st HVO.out).mono ?_
            rintro e w8 ⟨rfl, hb⟩
            rw [HZ.out, HMM.out]
            have hs := HS7.out.next hb
            have ho := HO7.out.next hb
            clear hb c0 c1 c2 c3 o0 o1 o2 o3
            obtain ⟨c0, c1, c2, c3⟩ := box4_of hs.blk
            have HS8 := Lib.hid hs
            have hZ8 := hs.b.size
            clear hs
            obtain ⟨o0, o1, o2, o3⟩ := box4_of ho.blk
            have HO8 := Lib.hid ho
            clear ho
            go_wp2_with (first | (go_at_call 34; refine (isKnown_same (by first | exact .inl rfl | exact .inr rfl) _).mono ?_; rintro e wk ⟨rfl, rfl⟩) | (go_at_call 15; refine (works_any _).mono ?_; rintro e wz ⟨rfl, hb⟩; have HB := Lib.hid (HS8.out.next hb).b; clear hb))
            go_ret
            exact ⟨rfl, HB.out⟩
end Go.Proofs.Ytjflpmhlodgadaa
