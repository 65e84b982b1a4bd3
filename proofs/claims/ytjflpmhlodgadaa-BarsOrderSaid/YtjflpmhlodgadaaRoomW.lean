/-
  Walks: the reference's Room.
-/
import Derived.Test.YtjflpmhlodgadaaFewW
import Derived.Test.YtjflpmhlodgadaaBase
namespace Go.Proofs.Ytjflpmhlodgadaa
open Go.RowKit Go.Sort

/-- How many of the first k rows have it. -/
def cntTo (q : List Int → Bool) (l : List (List Int)) : Nat → Int
  | 0 => 0
  | k + 1 => cntTo q l k + if q (xnth l k) = true then 1 else 0
theorem cntTo_le (q : List Int → Bool) (l : List (List Int)) : ∀ k : Nat, 0 ≤ cntTo q l k ∧ cntTo q l k ≤ k
  | 0 => by simp [cntTo]
  | k + 1 => by have := cntTo_le q l k; simp only [cntTo]; split <;> omega
theorem cnt_step {q : List Int → Bool} {l : List (List Int)} {k : Nat} {b : Bool} (h : q (xnth l k) = b) : cntTo q l (k + 1) = cntTo q l k + if b = true then 1 else 0 := by subst h; rfl
theorem cntTo_all {q : List Int → Bool} {l : List (List Int)} : ∀ {k : Nat}, cntTo q l k = k ↔ ∀ i, i < k → q (xnth l i) = true
  | 0 => by simp [cntTo]
  | k + 1 => by
    have h := cntTo_le q l k
    have ih := cntTo_all (q := q) (l := l) (k := k)
    simp only [cntTo]
    constructor
    · intro he i hi
      by_cases hq : q (xnth l k) = true
      · rw [if_pos hq] at he
        by_cases e : i = k
        · subst e; exact hq
        · exact ih.1 (by omega) i (by omega)
      · rw [if_neg hq] at he; omega
    · intro ha
      rw [if_pos (ha k (by omega)), ih.2 (fun i hi => ha i (by omega))]
      rfl
theorem cntTo_none {q : List Int → Bool} {l : List (List Int)} : ∀ {k : Nat}, cntTo q l k = 0 ↔ ∀ i, i < k → q (xnth l i) = false
  | 0 => by simp [cntTo]
  | k + 1 => by
    have h := cntTo_le q l k
    have ih := cntTo_none (q := q) (l := l) (k := k)
    simp only [cntTo]
    constructor
    · intro he i hi
      by_cases hq : q (xnth l k) = true
      · rw [if_pos hq] at he; omega
      · rw [if_neg hq] at he
        by_cases e : i = k
        · subst e; simpa using hq
        · exact ih.1 (by omega) i (by omega)
    · intro ha
      rw [if_neg (by rw [ha k (by omega)]; simp), ih.2 (fun i hi => ha i (by omega))]
      rfl
theorem mem_xnth {l : List (List Int)} {x : List Int} : x ∈ l ↔ ∃ i, i < l.length ∧ xnth l i = x := by
  constructor
  · intro h
    obtain ⟨i, hi, rfl⟩ := List.getElem_of_mem h
    exact ⟨i, hi, xnth_lt hi⟩
  · rintro ⟨i, hi, rfl⟩
    exact xnth_mem hi
/-- What the reference makes of a count is what the program answers. -/
theorem known_cnt {q : List Int → Bool} {l : List (List Int)} (h : l.length ≠ 0) : knownV q l = (knownOf (cntTo q l l.length) l.length, 0) := by
  rw [knownV_of, if_neg h, knownOf]
  have h1 : cntTo q l l.length = l.length ↔ ∀ x ∈ l, q x = true := cntTo_all.trans ⟨fun h x hx => by obtain ⟨i, hi, rfl⟩ := mem_xnth.1 hx; exact h i hi, fun h i hi => h _ (xnth_mem hi)⟩
  have h2 : cntTo q l l.length = 0 ↔ ∀ x ∈ l, q x = false := cntTo_none.trans ⟨fun h x hx => by obtain ⟨i, hi, rfl⟩ := mem_xnth.1 hx; exact h i hi, fun h i hi => h _ (xnth_mem hi)⟩
  by_cases c1 : ∀ x ∈ l, q x = true
  · rw [if_pos c1, if_pos (h1.2 c1)]
  · rw [if_neg c1, if_neg (fun e => c1 (h1.1 e))]
    by_cases c2 : ∀ x ∈ l, q x = false
    · rw [if_pos c2, if_pos (h2.2 c2)]
    · rw [if_neg c2, if_neg (fun e => c2 (h2.1 e))]

set_option maxRecDepth 100000 in
set_option maxHeartbeats 8000000 in
theorem rRoom_err (v : Value) (S : Store) (long : Int) (r : Bool) (er : Int) (w : World) (hx : StoreAt w.heap.size w v S) (hr : wB long 1 999 = r) (her : (er == 0) = false)
    (ht : ∀ w, StoreAt w.heap.size w v S → Calls Try.prog 75 #[v, .bool r] w (GaveListsE [] er w)) :
    Calls Try.prog 52 #[v, .int .i64 long] w fun e w' => e = .returned (.tuple #[.int .i64 0, .int .i64 er]) ∧ Below w.heap.size w w' := by
  obtain ⟨a, cap1, b1, off, a2, cap2, b2, off2, rfl, hm, hm2, HA, HC, HA2, HC2⟩ := hx.opened
  have hs := Stat.first hx
  have HS0 := Lib.hid hs
  have HSD := Lib.hid (hs.next ((Below.refl _ _).drew))
  have HT := Lib.hid ht
  have HR := Lib.hid hr
  clear hs hx ht hr HA HC HA2 HC2
  go_enter Try.func52, Try.ntmps52
  go_wp2_with fail
  go_region_held3 (fun w' => w'.cell? ⟨w.heap.size, 0, none⟩ = some (.slice a S.bars.length cap1) ∧ w'.cell? ⟨w.heap.size, 1, none⟩ = some (.int .i64 S.kerf) ∧ w'.cell? ⟨w.heap.size, 2, none⟩ = some (.slice a2 S.pieces.length cap2) ∧ w'.cell? ⟨w.heap.size, 3, none⟩ = some (.int .i64 S.wrong))
    (first
      | exact box4_of HSD.out.blk
      | exact box4_of hs2.blk)
    (first
      | (go_at_call 37; refine (rwithin_to HR.out _).mono ?_; rintro e w' ⟨rfl, rfl⟩)
      | (go_at_call 75; refine (HT.out _ HSD.out.st).mono ?_; rintro e w2 ⟨u, rfl, hu, hb⟩; obtain ⟨us, u1, u2, u3⟩ := hu; obtain ⟨uA, ucap, rfl, _⟩ := own_form u2; have hs2 := HSD.out.next hb; have HB := Lib.hid hs2.b))
  clear hb
  go_wp2
  go_ret2
  exact ⟨rfl, HB.out⟩

set_option maxRecDepth 100000 in
set_option maxHeartbeats 8000000 in
theorem rRoom_any (v : Value) (S : Store) (long : Int) (w : World) (hx : StoreAt w.heap.size w v S) (hV : Valid S) (hl0 : 1 ≤ long) (hl9 : long ≤ 999) (hne : (truthsL S).length ≠ 0) :
    Calls Try.prog 52 #[v, .int .i64 long] w fun e w' => e = .returned (.tuple #[.int .i64 (roomV S long).1, .int .i64 (roomV S long).2]) ∧ Below w.heap.size w w' := by
  obtain ⟨a, cap1, b1, off, a2, cap2, b2, off2, rfl, hm, hm2, HA, HC, HA2, HC2⟩ := hx.opened
  have hs := Stat.first hx
  have HS0 := Lib.hid hs
  have HSD := Lib.hid (hs.next ((Below.refl _ _).drew))
  have HV := Lib.hid hV
  have HR := Lib.hid (show wB long 1 999 = true from wB_iff.2 ⟨hl0, hl9⟩)
  have hlen : (truthsL S).length ≤ 1679616 := sawL_len hV _
  obtain ⟨l, hl⟩ : ∃ l, l = truthsL S := ⟨_, rfl⟩
  have HRV := Lib.hid (show roomV S long = (knownOf (cntTo (fun x => roomB S x long) l l.length) l.length, 0) from by rw [hl]; exact known_cnt hne)
  have HOK := Lib.hid (show ∀ x ∈ l, OkBars S x ∧ x.length = S.pieces.length from by rw [hl]; exact fun x h => truths_ok h)
  rw [← hl] at hlen hne
  have HT := Lib.hid (fun w (h : StoreAt w.heap.size w (.agg #[.slice a S.bars.length cap1, .int .i64 S.kerf, .slice a2 S.pieces.length cap2, .int .i64 S.wrong]) S) => show Calls Try.prog 75 #[_, .bool true] w (GaveListsE l 0 w) from by
    have h := truths_any' _ S w h hV
    rw [← hl, errN_pos hne] at h
    exact h)
  clear hs hx hl hV hne HA HC HA2 HC2
  go_enter Try.func52, Try.ntmps52
  go_wp2_with fail
  go_region_held3 (fun w' => w'.cell? ⟨w.heap.size, 0, none⟩ = some (.slice a S.bars.length cap1) ∧ w'.cell? ⟨w.heap.size, 1, none⟩ = some (.int .i64 S.kerf) ∧ w'.cell? ⟨w.heap.size, 2, none⟩ = some (.slice a2 S.pieces.length cap2) ∧ w'.cell? ⟨w.heap.size, 3, none⟩ = some (.int .i64 S.wrong))
    (first
      | exact box4_of HSD.out.blk
      | exact box4_of hs2.blk)
    (first
      | (go_at_call 37; refine (rwithin_to HR.out _).mono ?_; rintro e w' ⟨rfl, rfl⟩)
      | (go_at_call 75; refine (HT.out _ HSD.out.st).mono ?_; rintro e w2 ⟨u, rfl, hu, hb⟩; obtain ⟨us, u1, u2, u3⟩ := hu; obtain ⟨uA, ucap, rfl, _⟩ := own_form u2; have hs2 := HSD.out.next hb; have HB := Lib.hid hs2.b))
  have HS2 := Lib.hid hs2
  have N2 := Lib.hid u2
  have N3 := Lib.hid u3
  obtain ⟨c0, c1, c2, c3⟩ := box4_of hs2.blk
  clear hb u1 u2 u3 hs2
  go_wp2
  go_loopw [8, 9] (fun n i wr => ∃ k : Nat, k ≤ l.length ∧ i = .int .i64 k ∧ n = .int .i64 (cntTo (fun x => roomB S x long) l k) ∧ Hid (Below w2.heap.size w2 wr)) (fun _ i _ => l.length - (intOf i).toNat)
  case atStart => exact ⟨0, Nat.zero_le _, rfl, rfl, Below.refl _ _⟩
  case round =>
    obtain ⟨k, hk, rfl, rfl, hbr⟩ := hrel
    have hst := HS2.out.next hbr.out
    clear c0 c1 c2 c3
    obtain ⟨c0, c1, c2, c3⟩ := box4_of hst.blk
    have HST := Lib.hid hst
    clear hst
    by_cases hlt : k < l.length
    · have hk0 : (0 : Int) ≤ (k : Int) := by omega
      have hk1 : (k : Int) < (l.length : Int) := by omega
      obtain ⟨g, cap, hv, _, hgl⟩ := N2.out.form (by omega)
      cases hv
      obtain ⟨x, hx1, hx2⟩ := N3.out k hlt
      obtain ⟨xA, xcap, rfl, _⟩ := own_form hx2
      have hc := ((own_below N2.out hbr.out).cellAt k (by omega)).trans hx1
      have HXM := Lib.hid (HOK.out _ (xnth_mem hlt))
      have hxi : IntsAt wr.heap.size wr (.slice xA (xnth l k).length xcap) (xnth l k) := own_ints (own_below hx2 hbr.out) (okBars_i64 HV.out HXM.out.1)
      have HXI := Lib.hid hxi
      clear hx1 hx2 hxi
      have q1 : ∀ d os, Calls Try.prog 28 #[.agg #[.slice a S.bars.length cap1, .int .i64 S.kerf, .slice a2 S.pieces.length cap2, .int .i64 S.wrong], .slice xA (xnth l k).length xcap, .int .i64 long] (grow (redrawn wr d) os) fun e w'' => e = .returned (.bool (roomB S (xnth l k) long)) ∧ ∃ p : Regrown, w'' = grow (redrawn wr p.d) p.os := fun d os =>
        Calls.regrown_of (rHasRoom_any _ _ S (xnth l k) long _ HV.out (HST.out.next (below_regrown wr d os)).st (Nat.le_refl _) ((HXI.out.below (below_regrown wr d os)).mono (below_regrown wr d os).size) HXM.out.1.1 hl0 hl9)
      have k0 := cell_regrown c0
      have k1 := cell_regrown c1
      have k2 := cell_regrown c2
      have k3 := cell_regrown c3
      have k4 := cell_regrown hc
      have HFI := Lib.hid (fun d os => below_regrown wr d os)
      have hcl := cntTo_le (fun x => roomB S x long) l k
      cases hq : roomB S (xnth l k) long
      all_goals
        rw [hq] at q1
        have Q1 := Lib.hid q1
        have HCN := Lib.hid (cnt_step (q := fun x => roomB S x long) (l := l) hq)
        clear q1 c0 c1 c2 c3 hc hq
        go_wp2_with fail
        refine wp_region_quiet_below (by kernel_rfl) (by kernel_rfl) ?_
        repeat (first | go_big_quiet_step ((go_at_call 28; exact Q1.out _ _)) | quiet_step ((go_at_call 28; exact Q1.out _ _)))
        refine wpQuiet_nil ?_
        intro _ hw'
        obtain ⟨⟨dq, osq⟩, hw''⟩ := hw'
        subst hw''
        have hbq := HFI.out dq osq
        generalize grow (redrawn wr dq) osq = wq at hbq ⊢
        have HBQ := Lib.hid (hbr.out.trans (hbq.mono hbr.out.size))
        clear hbq k0 k1 k2 k3 k4
        go_wp2
        exact ⟨⟨k + 1, by omega, by go_num, by rw [HCN.out]; simp, HBQ⟩, by simp [intOf]; omega⟩
    · obtain rfl : l.length = k := by omega
      go_wp2_with (go_at_call 76; refine (rKnown_any _ _ _).mono ?_; rintro e w' ⟨rfl, rfl⟩)
      go_ret2
      exact ⟨by rw [HRV.out]; rfl, HST.out.b⟩
end Go.Proofs.Ytjflpmhlodgadaa
