/-
  Walks: the reference's Alike.
-/
import Derived.Test.YtjflpmhlodgadaaTruthsX
import Derived.Test.YtjflpmhlodgadaaAsks
namespace Go.Proofs.Ytjflpmhlodgadaa
open Go.RowKit Go.Sort

set_option maxRecDepth 100000 in
set_option maxHeartbeats 8000000 in
theorem rAlike_err (v : Value) (S : Store) (A B : Int) (pa pb : Bool) (er : Int) (w : World) (hx : StoreAt w.heap.size w v S) (hpa : wB A 0 ((S.pieces.length : Int) - 1) = pa) (hpb : wB B 0 ((S.pieces.length : Int) - 1) = pb) (her : (er == 0) = false)
    (ht : ∀ w, StoreAt w.heap.size w v S → Calls Try.prog 75 #[v, .bool (pa && pb)] w (GaveListsX [] er w)) :
    Calls Try.prog 50 #[v, .int .i64 A, .int .i64 B] w fun e w' => e = .returned (.tuple #[.int .i64 0, .int .i64 er]) ∧ Below w.heap.size w w' := by
  obtain ⟨a, cap1, b1, off, a2, cap2, b2, off2, rfl, hm, hm2, HA, HC, HA2, HC2⟩ := hx.opened
  have hs := Stat.first hx
  have HS0 := Lib.hid hs
  have HPA := Lib.hid hpa
  have HPB := Lib.hid hpb
  have HT := Lib.hid ht
  clear hs hx hpa hpb ht HA HC HA2 HC2
  go_enter Try.func50, Try.ntmps50
  go_wp2_with fail
  have hs := HS0.out
  clear HS0
  generalize w.alloc (.cells #[.slice a S.bars.length cap1, .int .i64 S.kerf, .slice a2 S.pieces.length cap2, .int .i64 S.wrong] 25) = W at hs ⊢
  have q1 : ∀ d os, Calls Try.prog 22 #[.agg #[.slice a S.bars.length cap1, .int .i64 S.kerf, .slice a2 S.pieces.length cap2, .int .i64 S.wrong], .int .i64 A] (grow (redrawn W d) os) fun e w'' => e = .returned (.bool pa) ∧ ∃ p : Regrown, w'' = grow (redrawn W p.d) p.os := fun d os => Calls.regrown_of (rIsPiece_to HPA.out (hs.next (below_regrown W d os)).st)
  have q2 : ∀ d os, Calls Try.prog 22 #[.agg #[.slice a S.bars.length cap1, .int .i64 S.kerf, .slice a2 S.pieces.length cap2, .int .i64 S.wrong], .int .i64 B] (grow (redrawn W d) os) fun e w'' => e = .returned (.bool pb) ∧ ∃ p : Regrown, w'' = grow (redrawn W p.d) p.os := fun d os => Calls.regrown_of (rIsPiece_to HPB.out (hs.next (below_regrown W d os)).st)
  have q3 : ∀ d os, Calls Try.prog 75 #[.agg #[.slice a S.bars.length cap1, .int .i64 S.kerf, .slice a2 S.pieces.length cap2, .int .i64 S.wrong], .bool (pa && pb)] (grow (redrawn W d) os) fun e w'' => e = .returned (.tuple #[.slice none 0 0, .int .i64 er]) ∧ ∃ p : Regrown, w'' = grow (redrawn W p.d) p.os := fun d os => Calls.regrown_of ((HT.out _ (hs.next (below_regrown W d os)).st).mono fun _ _ h => h.nil)
  obtain ⟨c0, c1, c2, c3⟩ := box4_of hs.blk
  have k0 := cell_regrown c0
  have k1 := cell_regrown c1
  have k2 := cell_regrown c2
  have k3 := cell_regrown c3
  have HS1 := Lib.hid hs
  clear hs c0 c1 c2 c3
  have Q1 := Lib.hid q1
  have Q2 := Lib.hid q2
  clear q1 q2
  cases pa <;> cases pb
  all_goals
    simp only [Bool.and_true, Bool.and_false, Bool.and_self] at q3
    have Q3 := Lib.hid q3
    clear q3
    refine wp_region_quiet_below (by kernel_rfl) (by kernel_rfl) ?_
    repeat (first | go_big_quiet_step (first | (go_at_call 22; with_reducible exact Q1.out _ _) | (go_at_call 22; with_reducible exact Q2.out _ _) | (go_at_call 75; exact Q3.out _ _)) | quiet_step (first | (go_at_call 22; with_reducible exact Q1.out _ _) | (go_at_call 22; with_reducible exact Q2.out _ _) | (go_at_call 75; exact Q3.out _ _)))
    refine wpQuiet_nil ?_
    intro _ hw'
    obtain ⟨⟨dq, osq⟩, hw''⟩ := hw'
    subst hw''
    have HB := Lib.hid (HS1.out.next (below_regrown W dq osq)).b
    generalize grow (redrawn W dq) osq = wq at HB ⊢
    clear k0 k1 k2 k3
    go_wp2
    go_ret2
    exact ⟨rfl, HB.out⟩

set_option maxRecDepth 100000 in
set_option maxHeartbeats 8000000 in
theorem rAlike_any (v : Value) (S : Store) (p r : Nat) (w : World) (hx : StoreAt w.heap.size w v S) (hV : Valid S) (hp : p < S.pieces.length) (hr : r < S.pieces.length) (hne : (truthsL S).length ≠ 0) :
    Calls Try.prog 50 #[v, .int .i64 p, .int .i64 r] w fun e w' => e = .returned (.tuple #[.int .i64 (alikeV S p r).1, .int .i64 (alikeV S p r).2]) ∧ Below w.heap.size w w' := by
  obtain ⟨a, cap1, b1, off, a2, cap2, b2, off2, rfl, hm, hm2, HA, HC, HA2, HC2⟩ := hx.opened
  have hs := Stat.first hx
  have HS0 := Lib.hid hs
  have HSD := Lib.hid (hs.next ((Below.refl _ _).drew))
  have HV := Lib.hid hV
  have HPA := Lib.hid (show wB (p : Int) 0 ((S.pieces.length : Int) - 1) = true from wB_iff.2 ⟨by omega, by omega⟩)
  have HPB := Lib.hid (show wB (r : Int) 0 ((S.pieces.length : Int) - 1) = true from wB_iff.2 ⟨by omega, by omega⟩)
  have hlen : (truthsL S).length ≤ 1679616 := sawL_len hV _
  obtain ⟨l, hl⟩ : ∃ l, l = truthsL S := ⟨_, rfl⟩
  have HRV := Lib.hid (show alikeV S p r = (knownOf (cntTo (alikeB p r) l l.length) l.length, 0) from by rw [hl]; exact known_cnt hne)
  have HOK := Lib.hid (show ∀ x ∈ l, OkBars S x ∧ x.length = S.pieces.length from by rw [hl]; exact fun x h => truths_ok h)
  rw [← hl] at hlen hne
  have HT := Lib.hid (fun w (h : StoreAt w.heap.size w (.agg #[.slice a S.bars.length cap1, .int .i64 S.kerf, .slice a2 S.pieces.length cap2, .int .i64 S.wrong]) S) => show Calls Try.prog 75 #[_, .bool true] w (GaveListsE l 0 w) from by
    have h := truths_any' _ S w h hV
    rw [← hl, errN_pos hne] at h
    exact h)
  clear hs hx hl hV hne HA HC HA2 HC2
  go_enter Try.func50, Try.ntmps50
  go_wp2_with fail
  go_region_held3 (fun w' => w'.cell? ⟨w.heap.size, 0, none⟩ = some (.slice a S.bars.length cap1) ∧ w'.cell? ⟨w.heap.size, 1, none⟩ = some (.int .i64 S.kerf) ∧ w'.cell? ⟨w.heap.size, 2, none⟩ = some (.slice a2 S.pieces.length cap2) ∧ w'.cell? ⟨w.heap.size, 3, none⟩ = some (.int .i64 S.wrong))
    (first
      | exact box4_of HSD.out.blk
      | exact box4_of hsA.blk
      | exact box4_of hsB.blk
      | exact box4_of hs2.blk)
    (first
      | (go_at_call 22; with_reducible (refine (rIsPiece_to HPA.out HSD.out.st).mono ?_); rintro e wA ⟨rfl, hb⟩; have hsA := HSD.out.next hb; clear hb)
      | (go_at_call 22; with_reducible (refine (rIsPiece_to HPB.out hsA.st).mono ?_); rintro e wB ⟨rfl, hb⟩; have hsB := hsA.next hb; clear hb)
      | (go_at_call 75; refine (HT.out _ hsB.st).mono ?_; rintro e w2 ⟨u, rfl, hu, hb⟩; obtain ⟨us, u1, u2, u3⟩ := hu; obtain ⟨uA, ucap, rfl, _⟩ := own_form u2; have hs2 := hsB.next hb; have HB := Lib.hid hs2.b))
  have HS2 := Lib.hid hs2
  have N2 := Lib.hid u2
  have N3 := Lib.hid u3
  obtain ⟨c0, c1, c2, c3⟩ := box4_of hs2.blk
  clear hb u1 u2 u3 hs2 hsA hsB
  go_wp2
  go_loopw [10, 11] (fun n i wr => ∃ k : Nat, k ≤ l.length ∧ i = .int .i64 k ∧ n = .int .i64 (cntTo (alikeB p r) l k) ∧ Hid (Below w2.heap.size w2 wr)) (fun _ i _ => l.length - (intOf i).toNat)
  case atStart => exact ⟨0, Nat.zero_le _, rfl, rfl, Below.refl _ _⟩
  case round =>
    obtain ⟨k, hk, rfl, rfl, hbr⟩ := hrel
    have hst := HS2.out.next hbr.out
    clear c0 c1 c2 c3
    have HST := Lib.hid hst
    clear hst
    by_cases hlt : k < l.length
    · have hk0 : (0 : Int) ≤ (k : Int) := by omega
      have hk1 : (k : Int) < (l.length : Int) := by omega
      obtain ⟨g, cap, hv, _, hgl⟩ := N2.out.form (by omega)
      cases hv
      obtain ⟨x, hx1, hx2⟩ := N3.out k hlt
      obtain ⟨xA, xcap, rfl, _⟩ := own_form hx2
      have hc := ((own_below N2.out hbr.out).cellAt k (by omega)).trans hx1
      have HXM := Lib.hid (HOK.out _ (xnth_mem hlt))
      have hxi : IntsAt wr.heap.size wr (.slice xA (xnth l k).length xcap) (xnth l k) := own_ints (own_below hx2 hbr.out) (okBars_i64 HV.out HXM.out.1)
      have hxl : (xnth l k).length = S.pieces.length := HXM.out.2
      obtain ⟨a3, cap3, b3, off3, he, hm3, HA3, HC3, _⟩ := hxi.opened
      injection he with e1 e2 e3
      subst e1
      subst e3
      obtain ⟨h0, h1⟩ := HA3.out (by omega)
      subst h0
      have d0 := HC3.out p (by omega)
      have d1 := HC3.out r (by omega)
      have HXL := Lib.hid hxl
      have hp3 : (p : Int) < ((xnth l k).length : Int) := by omega
      have hr3 : (r : Int) < ((xnth l k).length : Int) := by omega
      clear hx1 hx2 hxi hxl e2 HA3 HC3
      have hcl := cntTo_le (alikeB p r) l k
      cases hq : alikeB p r (xnth l k)
      all_goals
        have HCN := Lib.hid (cnt_step (q := alikeB p r) (l := l) hq)
        have hq' : (nth (xnth l k) p == nth (xnth l k) r) = _ := hq
        clear hq
        go_wp2
        go_quiet (fail)
        go_wp2
        exact ⟨⟨k + 1, by omega, by go_num, by rw [HCN.out]; simp, drewN_below hbr.out _⟩, by simp [intOf]; omega⟩
    · obtain rfl : l.length = k := by omega
      go_wp2_with (go_at_call 76; refine (rKnown_any _ _ _).mono ?_; rintro e w' ⟨rfl, rfl⟩)
      go_ret2
      exact ⟨by rw [HRV.out]; rfl, HST.out.b⟩
end Go.Proofs.Ytjflpmhlodgadaa
