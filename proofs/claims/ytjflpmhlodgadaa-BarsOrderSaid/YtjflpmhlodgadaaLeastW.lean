/-
  Walks: the reference's Least.
-/
import Derived.Test.YtjflpmhlodgadaaTruthsW
namespace Go.Proofs.Ytjflpmhlodgadaa
open Go.RowKit Go.Sort

/-- The least number of used bars among the first k rows, 0 if there are none. -/
def leastTo (S : Store) (l : List (List Int)) : Nat → Int
  | 0 => 0
  | k + 1 => if k = 0 ∨ usedTo2 (xnth l k) S.bars.length < leastTo S l k then usedTo2 (xnth l k) S.bars.length else leastTo S l k
theorem leastTo_spec {S : Store} {l : List (List Int)} : ∀ {k : Nat}, k ≤ l.length → 0 < k → (∃ i, i < k ∧ usedTo2 (xnth l i) S.bars.length = leastTo S l k) ∧ ∀ i, i < k → leastTo S l k ≤ usedTo2 (xnth l i) S.bars.length
  | k + 1, hk, _ => by
    by_cases h0 : k = 0
    · subst h0
      simp only [leastTo, true_or, if_true]
      exact ⟨⟨0, by omega, rfl⟩, fun i hi => by
        obtain rfl : i = 0 := by omega
        exact Int.le_refl _⟩
    · obtain ⟨⟨i, hi, he⟩, hm⟩ := leastTo_spec (S := S) (l := l) (k := k) (by omega) (by omega)
      simp only [leastTo]
      by_cases hc : usedTo2 (xnth l k) S.bars.length < leastTo S l k
      · rw [if_pos (.inr hc)]
        exact ⟨⟨k, by omega, rfl⟩, fun j hj => by
          by_cases e : j = k
          · subst e; exact Int.le_refl _
          · have := hm j (by omega); omega⟩
      · rw [if_neg (by rintro (h | h); exact h0 h; exact hc h)]
        exact ⟨⟨i, by omega, he⟩, fun j hj => by
          by_cases e : j = k
          · subst e; omega
          · exact hm j (by omega)⟩
theorem usedS_truth {S : Store} {x : List Int} (h : x ∈ truthsL S) : usedS x = usedTo2 x S.bars.length := usedS_eq (truths_ok h).1
theorem leastTo_eq {S : Store} : leastTo S (truthsL S) (truthsL S).length = leastS S := by
  by_cases h0 : (truthsL S).length = 0
  · rw [h0]
    have : planS S = [] := by unfold planS; rw [planL_none.2 h0]; rfl
    unfold leastS
    rw [this]
    rfl
  · obtain ⟨⟨i, hi, he⟩, hm⟩ := leastTo_spec (S := S) (l := truthsL S) (k := (truthsL S).length) (Nat.le_refl _) (by omega)
    obtain ⟨⟨y, hy, hye⟩, hml⟩ := least_iff (xnth_mem hi)
    obtain ⟨j, hj, hje⟩ := List.getElem_of_mem hy
    have h1 := hm j hj
    rw [xnth_lt hj, hje, ← usedS_truth hy, hye] at h1
    have h2 := hml _ (xnth_mem hi)
    rw [usedS_truth (xnth_mem hi), he] at h2
    omega

set_option maxRecDepth 100000 in
set_option maxHeartbeats 8000000 in
theorem rLeast_of (v : Value) (S : Store) (l : List (List Int)) (er : Int) (w : World) (hx : StoreAt w.heap.size w v S) (hb6' : 0 < l.length → S.bars.length ≤ 6) (hlen : l.length ≤ 1679616)
    (hI : ∀ x ∈ l, ∀ y ∈ x, I64 y)
    (ht : ∀ w, StoreAt w.heap.size w v S → Calls Try.prog 75 #[v, .bool true] w (GaveListsE l er w)) :
    Calls Try.prog 53 #[v] w fun e w' => e = .returned (.tuple #[.int .i64 (leastTo S l l.length), .int .i64 er]) ∧ Below w.heap.size w w' := by
  obtain ⟨a, cap1, b1, off, a2, cap2, b2, off2, rfl, hm, hm2, HA, HC, HA2, HC2⟩ := hx.opened
  have hs := Stat.first hx
  obtain ⟨c0, c1, c2, c3⟩ := box4_of hs.blk
  have HS0 := Lib.hid hs
  have HT := Lib.hid ht
  have HI := Lib.hid hI
  have HB6 := Lib.hid hb6'
  clear hb6' hs hx ht hI HA HC HA2 HC2
  go_enter Try.func53, Try.ntmps53
  go_wp2_with fail
  refine (HT.out _ HS0.out.st).mono ?_
  rintro e w2 ⟨u, rfl, hu, hb⟩
  have hs := HS0.out.next hb
  clear c0 c1 c2 c3 hb
  obtain ⟨c0, c1, c2, c3⟩ := box4_of hs.blk
  obtain ⟨ls, n1, n2, n3⟩ := hu
  obtain ⟨lA, lcap, rfl, _⟩ := own_form n2
  have HS2 := Lib.hid hs
  have N2 := Lib.hid n2
  have N3 := Lib.hid n3
  clear hs n1 n2 n3
  go_wp2
  go_loopw [6, 7] (fun n i wr => ∃ k : Nat, k ≤ l.length ∧ i = .int .i64 k ∧ n = .int .i64 (leastTo S l k) ∧ Hid (Below w2.heap.size w2 wr)) (fun _ i _ => l.length - (intOf i).toNat)
  case atStart => exact ⟨0, Nat.zero_le _, rfl, rfl, Below.refl _ _⟩
  case round =>
    obtain ⟨k, hk, rfl, rfl, hbr⟩ := hrel
    have hst := HS2.out.next hbr.out
    clear c0 c1 c2 c3
    obtain ⟨c0, c1, c2, c3⟩ := box4_of hst.blk
    have HST := Lib.hid hst
    clear hst
    by_cases hlt : k < l.length
    · have hb6 := HB6.out (by omega)
      have hk0 : (0 : Int) ≤ (k : Int) := by omega
      have hk1 : (k : Int) < (l.length : Int) := by omega
      obtain ⟨g, cap, hv, _, hgl⟩ := N2.out.form (by omega)
      cases hv
      obtain ⟨x, hx1, hx2⟩ := N3.out k hlt
      obtain ⟨xA, xcap, rfl, _⟩ := own_form hx2
      have hc := ((own_below N2.out hbr.out).cellAt k (by omega)).trans hx1
      have hxi : IntsAt wr.heap.size wr (.slice xA (xnth l k).length xcap) (xnth l k) := own_ints (own_below hx2 hbr.out) (HI.out _ (xnth_mem hlt))
      have HXI := Lib.hid hxi
      clear hx1 hx2 hxi
      have q1 : ∀ d os, Calls Try.prog 21 #[.agg #[.slice a S.bars.length cap1, .int .i64 S.kerf, .slice a2 S.pieces.length cap2, .int .i64 S.wrong], .slice xA (xnth l k).length xcap] (grow (redrawn wr d) os) fun e w'' => e = .returned (.int .i64 (usedTo2 (xnth l k) S.bars.length)) ∧ ∃ p : Regrown, w'' = grow (redrawn wr p.d) p.os := fun d os =>
        Calls.regrown_of (rUsed_any _ _ S (xnth l k) _ hb6 (HST.out.next (below_regrown wr d os)).st (Nat.le_refl _) ((HXI.out.below (below_regrown wr d os)).mono (below_regrown wr d os).size))
      have Q1 := Lib.hid q1
      have k0 := cell_regrown c0
      have k1 := cell_regrown c1
      have k2 := cell_regrown c2
      have k3 := cell_regrown c3
      have k4 := cell_regrown hc
      have HFI := Lib.hid (fun d os => below_regrown wr d os)
      clear q1 c0 c1 c2 c3 hc
      have hu0 := usedTo2_le (xnth l k) S.bars.length
      go_wp2_with fail
      refine wp_region_quiet_below (by kernel_rfl) (by kernel_rfl) ?_
      repeat (first | go_big_quiet_step ((go_at_call 21; exact Q1.out _ _)) | quiet_step ((go_at_call 21; exact Q1.out _ _)))
      refine wpQuiet_nil ?_
      intro _ hw'
      obtain ⟨⟨dq, osq⟩, hw''⟩ := hw'
      subst hw''
      have hbq := HFI.out dq osq
      generalize grow (redrawn wr dq) osq = wq at hbq ⊢
      have HBQ := Lib.hid (hbr.out.trans (hbq.mono hbr.out.size))
      clear hbq k0 k1 k2 k3 k4
      by_cases h0 : k = 0
      · subst h0
        have HN := Lib.hid (show leastTo S l (0 + 1) = usedTo2 (xnth l 0) S.bars.length from by simp only [leastTo, true_or, if_true])
        go_wp2
        exact ⟨⟨0 + 1, by omega, by go_num, by rw [HN.out], HBQ⟩, by simp [intOf]; omega⟩
      · have e0 : ((k : Int) == 0) = false := by simp; omega
        by_cases hlu : usedTo2 (xnth l k) S.bars.length < leastTo S l k
        · have HN := Lib.hid (show leastTo S l (k + 1) = usedTo2 (xnth l k) S.bars.length from by simp only [leastTo]; rw [if_pos (.inr hlu)])
          go_wp2
          exact ⟨⟨k + 1, by omega, by go_num, by rw [HN.out], HBQ⟩, by simp [intOf]; omega⟩
        · have HN := Lib.hid (show leastTo S l (k + 1) = leastTo S l k from by simp only [leastTo]; rw [if_neg (by rintro (h | h); exact h0 h; exact hlu h)])
          have hlu' : leastTo S l k ≤ usedTo2 (xnth l k) S.bars.length := by omega
          go_wp2
          exact ⟨⟨k + 1, by omega, by go_num, by rw [HN.out], HBQ⟩, by simp [intOf]; omega⟩
    · obtain rfl : l.length = k := by omega
      go_wp2
      go_ret2
      exact ⟨rfl, HST.out.b⟩
theorem rLeast_any (v : Value) (S : Store) (w : World) (hx : StoreAt w.heap.size w v S) (hV : Valid S) :
    Calls Try.prog 53 #[v] w fun e w' => e = .returned (.tuple #[.int .i64 (leastS S), .int .i64 (errN (truthsL S).length)]) ∧ Below w.heap.size w w' := by
  have h := rLeast_of v S (truthsL S) (errN (truthsL S).length) w hx (fun _ => hV.nb) (sawL_len hV _) (fun x hx' => okBars_i64 hV (truths_ok hx').1) (fun w h => truths_any' v S w h hV)
  rw [leastTo_eq] at h
  exact h
theorem rLeast_bad (v : Value) (S : Store) (w : World) (hx : StoreAt w.heap.size w v S) (hv : validB S = false) :
    Calls Try.prog 53 #[v] w fun e w' => e = .returned (.tuple #[.int .i64 0, .int .i64 10]) ∧ Below w.heap.size w w' :=
  rLeast_of v S [] 10 w hx (fun h => by simp at h) (by simp) (fun x hx' => by cases hx') (fun w h => truths_bad v S true w h hv)
end Go.Proofs.Ytjflpmhlodgadaa
