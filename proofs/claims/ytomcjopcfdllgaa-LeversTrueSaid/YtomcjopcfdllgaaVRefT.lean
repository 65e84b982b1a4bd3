/-
  Levers, the law's reference: whether a number is in a list, what is known, whether a setting is a truth.
-/
import Derived.Test.YtomcjopcfdllgaaVRefL
import Derived.Test.YtomcjopcfdllgaaVPulled

namespace Go.Proofs.Ytomcjopcfdllgaa
open Go.RowKit Go.Shelf

theorem rIn_any (v : Value) (xs : List Int) (x : Int) (w : World) {B : Nat} (hx : IntsAt B w v xs) :
    Calls Try.prog 16 #[v, .int .i64 x] w fun e w' => e = .returned (.bool (inB xs x)) ∧ w = w' := by
  obtain ⟨a, cap, b, off, rfl, hm, HA, HC, HW⟩ := hx.opened
  clear hx
  go_enter Try.func16, Try.ntmps16
  go_wp2
  go_loop [5] (fun i => ∃ k : Nat, k ≤ xs.length ∧ i = .int .i64 k ∧ Hid (∀ i, i < k → x ≠ nth xs i)) (fun i => xs.length - (intOf i).toNat)
  case atStart => exact ⟨0, Nat.zero_le _, rfl, fun i hi => by omega⟩
  case round =>
    obtain ⟨k, hk, rfl, hall⟩ := hrel
    by_cases hlt : k < xs.length
    · obtain ⟨rfl, hb⟩ := HA.out (by omega)
      have hcell := HC.out k hlt
      by_cases he : x = nth xs k
      · have hn : (nth xs k == x) = true := by simp [he]
        have HE := Lib.hid he
        clear he
        go_wp2
        go_ret
        exact ⟨ret_bool (inB_yes hlt HE.out).symm, rfl⟩
      · have hn : (nth xs k == x) = false := by simpa using (fun h => he h.symm)
        have HE := Lib.hid he
        clear he
        go_wp2
        exact ⟨⟨k + 1, by omega, by go_num, fun i hi => by by_cases h : i = k; exact h ▸ HE.out; exact hall.out i (by omega)⟩, by simp [intOf]; omega⟩
    · go_wp2
      go_ret
      exact ⟨ret_bool (by rw [inB_no (allTo_true (fun i hi => by simpa using hall.out i (by omega)))]), rfl⟩
theorem rIn_to {v : Value} {xs : List Int} {x : Int} {w : World} {B : Nat} (h : x ∈ xs) (hx : IntsAt B w v xs) :
    Calls Try.prog 16 #[v, .int .i64 x] w fun e w' => e = .returned (.bool true) ∧ w = w' := by
  have := rIn_any v xs x w hx
  rwa [show inB xs x = true from decide_eq_true h] at this
/-- What is known does not contradict what is so. -/
theorem rAgrees_any (n m : Nat) (b : Bool) (w : World) (_h1 : n ≤ m) (_hm : 0 < m) (ht : b = true → 0 < n) (hf : b = false → n < m) :
    Calls Try.prog 26 #[.int .i64 (knownI n m), .bool b] w fun e w' => e = .returned (.bool true) ∧ w = w' := by
  obtain ⟨K, hK⟩ : ∃ K, knownI n m = K := ⟨_, rfl⟩
  have hk : (K = 1 ∧ b = true) ∨ (K = 2 ∧ b = false) ∨ K = 3 := by
    rw [← hK]
    unfold knownI
    split
    · rename_i h
      refine .inl ⟨rfl, ?_⟩
      cases hb : b with
      | true => rfl
      | false => have := hf hb; omega
    · split
      · rename_i h h2
        refine .inr (.inl ⟨rfl, ?_⟩)
        cases hb : b with
        | false => rfl
        | true => have := ht hb; omega
      · exact .inr (.inr rfl)
  rw [hK]
  clear hK ht hf
  rcases hk with ⟨rfl, rfl⟩ | ⟨rfl, rfl⟩ | rfl
  · go_enter Try.func26, Try.ntmps26
    go_wp2
    go_ret
    exact ⟨rfl, rfl⟩
  · go_enter Try.func26, Try.ntmps26
    go_wp2
    go_ret
    exact ⟨rfl, rfl⟩
  · go_enter Try.func26, Try.ntmps26
    go_wp2
    go_ret
    exact ⟨rfl, rfl⟩
theorem arms_all : ∀ {ls : List Lev} {x : List Int}, x.length = ls.length → (∀ i, i < ls.length → (lnth ls i).lo ≤ nth x i ∧ nth x i ≤ (lnth ls i).hi) → x ∈ armsL ls
  | [], [], _, _ => by simp [armsL]
  | [], _ :: _, h, _ => by simp at h
  | _ :: _, [], h, _ => by simp at h
  | l :: ls, a :: x, h, hx => by
    refine mem_arms.2 ⟨a, x, rfl, hx 0 (by simp), arms_all (by simpa using h) (fun i hi => ?_)⟩
    have := hx (i + 1) (by simp; omega)
    simpa [lnth, nth] using this
theorem set_in {M : Mach} {x : List Int} {k : Int} (hl : x.length = M.levers.length) (hk : M.lkLo ≤ k ∧ k ≤ M.lkHi) (hx : ∀ i, i < M.levers.length → (lnth M.levers i).lo ≤ nth x i ∧ nth x i ≤ (lnth M.levers i).hi) : (x, k) ∈ setsM M := mem_sets.2 ⟨arms_all hl hx, hk⟩

def TruthR (M : Mach) (x : List Int) (k : Int) (e : Ending) : Prop := ∃ r, e = .returned (.bool r) ∧ (r = true → (x, k) ∈ truthsM M)
set_option maxRecDepth 100000 in
set_option maxHeartbeats 8000000 in
theorem IsTruth_any (v : Value) (M : Mach) (sv : Value) (x : List Int) (k : Int) (w : World) (hx : MachAt w.heap.size w v M) (hV : ValidM M) (hs : IntsAt w.heap.size w sv x) (_hk : I64 k) :
    Calls Try.prog 13 #[v, .agg #[sv, .int .i64 k]] w fun e w' => TruthR M x k e ∧ Below w.heap.size w w' := by
  have HMX := Lib.hid hx
  have HSX := Lib.hid hs
  obtain ⟨a, cap, a2, cap2, rfl⟩ := hx.form
  obtain ⟨sa, sc, sb0, so0, rfl, _⟩ := id hs
  have hnl := hV.nl
  have HV := Lib.hid hV
  have HWR0 := Lib.hid (fun (hin : (x, k) ∈ setsM M) W (hb : Below w.heap.size w W) => Wrongs_any _ M _ x k W ((hx.below hb).mono hb.size) hV ((hs.below hb).mono hb.size) (inSet_of hV hin))
  clear hx hs hV

  by_cases hl : x.length = M.levers.length
  case neg =>
    have hl1 : ((x.length : Int) != (M.levers.length : Int)) = true := by simp; omega
    clear hl
    go_enter Try.func13, Try.ntmps13
    go_wp2
    go_ret
    exact ⟨⟨false, rfl, fun h => by cases h⟩, by go_grown⟩
  have hl1 : ((x.length : Int) != (M.levers.length : Int)) = false := by simp [hl]
  have HLEN := Lib.hid hl
  clear hl
  cases hwk : wB k M.lkLo M.lkHi with
  | false =>
    go_enter Try.func13, Try.ntmps13
    go_wp2_with (go_at_call 53; refine (uwithin_any _ _ _ _).mono ?_; rintro e w' ⟨rfl, rfl⟩; rw [hwk])
    go_ret
    exact ⟨⟨false, rfl, fun h => by cases h⟩, by go_grown⟩
  | true =>
    have hkk := wB_iff.1 hwk
    go_enter Try.func13, Try.ntmps13
    go_upto_region 3 with (go_at_call 53; refine (uwithin_any _ _ _ _).mono ?_; rintro e w' ⟨rfl, rfl⟩; rw [hwk])
    obtain ⟨W0, hW⟩ : ∃ W0, W0 = (w.alloc (.cells #[.slice a M.levers.length cap, .int .i64 M.water, .int .i64 M.lkLo, .int .i64 M.lkHi, .slice a2 M.bals.length cap2, .int .i64 M.wrong] 27)).alloc (.cells #[.slice sa x.length sc, .int .i64 k] 30) := ⟨_, rfl⟩
    have hb : Below w.heap.size w W0 := by rw [hW]; exact ((Below.refl _ w).alloc (Nat.le_refl _) _).alloc (by simp) _
    have hsz : W0.heap.size = w.heap.size + 2 := by rw [hW]; simp
    have e0 : W0.heap[w.heap.size]? = some (.cells #[.slice a M.levers.length cap, .int .i64 M.water, .int .i64 M.lkLo, .int .i64 M.lkHi, .slice a2 M.bals.length cap2, .int .i64 M.wrong] 27) := by rw [hW]; exact heap_old1 _ _ _
    have e1 : W0.heap[w.heap.size + 1]? = some (.cells #[.slice sa x.length sc, .int .i64 k] 30) := by rw [hW]; exact heap_new1 _ _ _
    rw [← hW]
    clear hW hwk hl1
    have HB := Lib.hid hb
    have HC := Lib.hid (fun X (hX : Below W0.heap.size W0 X) => (show _ ∧ _ from ⟨cells6 ((hX.block w.heap.size (by omega)).trans e0), cells2S ((hX.block (w.heap.size + 1) (by omega)).trans e1)⟩))
    have HMW := Lib.hid (fun X (hX : Below W0.heap.size W0 X) => HMX.out.below (hb.trans (hX.mono hb.size)))
    have HSW := Lib.hid (fun X (hX : Below W0.heap.size W0 X) => HSX.out.below (hb.trans (hX.mono hb.size)))
    clear e0 e1 hb hsz
    go_wp2_with fail
    go_loopw [5] (fun vi wr => ∃ q : Nat, q ≤ M.levers.length ∧ vi = .int .i64 (q : Nat) ∧ Hid (∀ j, j < q → (lnth M.levers j).lo ≤ nth x j ∧ nth x j ≤ (lnth M.levers j).hi) ∧ Hid (Below W0.heap.size W0 wr)) (fun vi _ => M.levers.length - (intOf vi).toNat)
    case atStart => exact ⟨0, Nat.zero_le _, rfl, Lib.hid (fun j hj => by omega), Lib.hid (Below.refl _ _)⟩
    case round =>
      obtain ⟨q, hi, rfl, hall, hb0⟩ := hrel
      have hbs := hb0.out.size
      have hbw := HB.out.size
      obtain ⟨⟨c0, c1, c2, c3, c4, c5⟩, s0, s1⟩ := HC.out wr hb0.out
      by_cases hlt : q < M.levers.length
      · have hix : q < x.length := by have := HLEN.out; omega
        obtain ⟨bb, off, rfl, hbb, hcl⟩ := levs_cells ((HMW.out wr hb0.out).mono (by omega : w.heap.size ≤ wr.heap.size)) (by omega)
        obtain ⟨sb, so, rfl, hsb, hcs⟩ := ints_cells ((HSW.out wr hb0.out).mono (by omega : w.heap.size ≤ wr.heap.size)) (by omega)
        have HY := Lib.hid (hcl q hlt)
        have HY3 := Lib.hid (hcs q hix)
        clear hcl hcs
        obtain ⟨LO, hLO⟩ : ∃ LO, (lnth M.levers q).lo = LO := ⟨_, rfl⟩
        obtain ⟨HI, hHI⟩ : ∃ HI, (lnth M.levers q).hi = HI := ⟨_, rfl⟩
        obtain ⟨XI, hXI⟩ : ∃ XI, nth x q = XI := ⟨_, rfl⟩
        rw [hLO, hHI] at HY
        rw [hXI] at HY3
        obtain ⟨rb, hrb0⟩ : ∃ rb, wB XI LO HI = rb := ⟨_, rfl⟩
        have hrb := Lib.hid (show Value.bool (wB XI LO HI) = .bool rb by rw [hrb0])
        have HOK := Lib.hid (show rb = true → (lnth M.levers q).lo ≤ nth x q ∧ nth x q ≤ (lnth M.levers q).hi from fun h => by rw [hLO, hHI, hXI]; exact wB_iff.1 (hrb0.trans h))
        obtain ⟨n, hn⟩ : ∃ n, M.levers.length = n := ⟨_, rfl⟩
        have hn2 : x.length = n := HLEN.out.trans hn
        have HN := Lib.hid hn
        have HN2 := Lib.hid hn2
        rw [hn] at hlt hi c0 ⊢
        rw [hn2] at s0 ⊢
        have hn3 : n ≤ 3 := by omega
        clear hn hn2 hrb0 hLO hHI hXI
        go_upto_region 6 with fail
        refine wp_region_facts _ 21 [32, 33, 34, 35, 36, 37, 38, 39, 40, 41, 42, 43, 44, 45, 46, 47, 48, 49, 50, 51, 52] [isV (.pointer (some ⟨w.heap.size + 1, 0, none⟩)), isV (.slice (some ⟨sb, so, none⟩) n sc), isV (.int .i64 (q : Nat)), isV (.pointer (some ⟨sb, so + q, none⟩)), isV (.int .i64 XI), isV (.pointer (some ⟨w.heap.size, 0, none⟩)), isV (.slice (some ⟨bb, off, none⟩) n cap), isV (.int .i64 (q : Nat)), isV (.pointer (some ⟨bb, off + q * 3, none⟩)), isV (.pointer (some ⟨bb, off + q * 3 + 1, none⟩)), isV (.pointer (some ⟨bb, off + q * 3 + 1, none⟩)), isV (.int .i64 LO), isV (.pointer (some ⟨w.heap.size, 0, none⟩)), isV (.slice (some ⟨bb, off, none⟩) n cap), isV (.int .i64 (q : Nat)), isV (.pointer (some ⟨bb, off + q * 3, none⟩)), isV (.pointer (some ⟨bb, off + q * 3 + 1, none⟩)), isV (.pointer (some ⟨bb, off + q * 3 + 2, none⟩)), isV (.int .i64 HI), ⟨fun v W => v = .bool rb, fun _ _ _ h _ => h⟩, isV (.bool (!rb))] (by kernel_rfl) (by kernel_rfl) (by kernel_rfl) rfl (by decide) (by decide) (by simp) ?step ?rest
        case step =>
          intro i ac W d hi hd hb hoff hdep
          obtain ⟨⟨c0, c1, c2, c3, c4, c5⟩, s0, s1⟩ := HC.out W (hb0.out.trans (hb.mono hb0.out.size))
          rw [HN.out] at c0
          rw [HN2.out] at s0
          have y3 := (hb.cell (p := ⟨sb, so + q, none⟩) hsb).trans HY3.out
          obtain ⟨y0, y1, y2⟩ := HY.out.below hb hbb
          have hi2 : i = 0 ∨ i = 1 ∨ i = 2 ∨ i = 3 ∨ i = 4 ∨ i = 5 ∨ i = 6 ∨ i = 7 ∨ i = 8 ∨ i = 9 ∨ i = 10 ∨ i = 11 ∨ i = 12 ∨ i = 13 ∨ i = 14 ∨ i = 15 ∨ i = 16 ∨ i = 17 ∨ i = 18 ∨ i = 19 ∨ i = 20 := by omega
          rcases hi2 with rfl | rfl | rfl | rfl | rfl | rfl | rfl | rfl | rfl | rfl | rfl | rfl | rfl | rfl | rfl | rfl | rfl | rfl | rfl | rfl | rfl
          · obtain rfl : 32 = d := by simpa using hd
            have q3 : ac.tmps[3]?.getD undef = .pointer (some ⟨w.heap.size + 1, 0, none⟩) := (eval_tmp _ _).symm.trans <| (hoff 3 (by decide)).trans rfl
            refine fact_value rfl rfl rfl (v := .pointer (some ⟨w.heap.size + 1, 0, none⟩)) (W' := W) ?_ (Below.refl _ _) rfl
            simp only [execOp]
            go_simp
          · obtain rfl : 33 = d := by simpa using hd
            have q32 : ac.tmps[32]?.getD undef = .pointer (some ⟨w.heap.size + 1, 0, none⟩) := (eval_tmp _ _).symm.trans (hdep 0 32 rfl rfl)
            refine fact_value rfl rfl rfl (v := .slice (some ⟨sb, so, none⟩) n sc) (W' := W) ?_ (Below.refl _ _) rfl
            simp only [execOp]
            go_simp
          · obtain rfl : 34 = d := by simpa using hd
            have q5 : ac.tmps[5]?.getD undef = .int .i64 (q : Nat) := (eval_tmp _ _).symm.trans <| (hoff 5 (by decide)).trans rfl
            refine fact_value rfl rfl rfl (v := .int .i64 (q : Nat)) (W' := W) ?_ (Below.refl _ _) rfl
            simp only [execOp]
            go_simp
          · obtain rfl : 35 = d := by simpa using hd
            have q33 : ac.tmps[33]?.getD undef = .slice (some ⟨sb, so, none⟩) n sc := (eval_tmp _ _).symm.trans (hdep 1 33 rfl rfl)
            have q34 : ac.tmps[34]?.getD undef = .int .i64 (q : Nat) := (eval_tmp _ _).symm.trans (hdep 2 34 rfl rfl)
            refine fact_value rfl rfl rfl (v := .pointer (some ⟨sb, so + q, none⟩)) (W' := W) ?_ (Below.refl _ _) rfl
            simp only [execOp]
            go_simp
          · obtain rfl : 36 = d := by simpa using hd
            have q35 : ac.tmps[35]?.getD undef = .pointer (some ⟨sb, so + q, none⟩) := (eval_tmp _ _).symm.trans (hdep 3 35 rfl rfl)
            refine fact_value rfl rfl rfl (v := .int .i64 XI) (W' := W) ?_ (Below.refl _ _) rfl
            simp only [execOp]
            go_simp
          · obtain rfl : 37 = d := by simpa using hd
            have q2 : ac.tmps[2]?.getD undef = .pointer (some ⟨w.heap.size, 0, none⟩) := (eval_tmp _ _).symm.trans <| (hoff 2 (by decide)).trans rfl
            refine fact_value rfl rfl rfl (v := .pointer (some ⟨w.heap.size, 0, none⟩)) (W' := W) ?_ (Below.refl _ _) rfl
            simp only [execOp]
            go_simp
          · obtain rfl : 38 = d := by simpa using hd
            have q37 : ac.tmps[37]?.getD undef = .pointer (some ⟨w.heap.size, 0, none⟩) := (eval_tmp _ _).symm.trans (hdep 5 37 rfl rfl)
            refine fact_value rfl rfl rfl (v := .slice (some ⟨bb, off, none⟩) n cap) (W' := W) ?_ (Below.refl _ _) rfl
            simp only [execOp]
            go_simp
          · obtain rfl : 39 = d := by simpa using hd
            have q5 : ac.tmps[5]?.getD undef = .int .i64 (q : Nat) := (eval_tmp _ _).symm.trans <| (hoff 5 (by decide)).trans rfl
            refine fact_value rfl rfl rfl (v := .int .i64 (q : Nat)) (W' := W) ?_ (Below.refl _ _) rfl
            simp only [execOp]
            go_simp
          · obtain rfl : 40 = d := by simpa using hd
            have q38 : ac.tmps[38]?.getD undef = .slice (some ⟨bb, off, none⟩) n cap := (eval_tmp _ _).symm.trans (hdep 6 38 rfl rfl)
            have q39 : ac.tmps[39]?.getD undef = .int .i64 (q : Nat) := (eval_tmp _ _).symm.trans (hdep 7 39 rfl rfl)
            refine fact_value rfl rfl rfl (v := .pointer (some ⟨bb, off + q * 3, none⟩)) (W' := W) ?_ (Below.refl _ _) rfl
            simp only [execOp]
            go_simp
          · obtain rfl : 41 = d := by simpa using hd
            have q40 : ac.tmps[40]?.getD undef = .pointer (some ⟨bb, off + q * 3, none⟩) := (eval_tmp _ _).symm.trans (hdep 8 40 rfl rfl)
            refine fact_value rfl rfl rfl (v := .pointer (some ⟨bb, off + q * 3 + 1, none⟩)) (W' := W) ?_ (Below.refl _ _) rfl
            simp only [execOp]
            go_simp
          · obtain rfl : 42 = d := by simpa using hd
            have q41 : ac.tmps[41]?.getD undef = .pointer (some ⟨bb, off + q * 3 + 1, none⟩) := (eval_tmp _ _).symm.trans (hdep 9 41 rfl rfl)
            refine fact_value rfl rfl rfl (v := .pointer (some ⟨bb, off + q * 3 + 1, none⟩)) (W' := W) ?_ (Below.refl _ _) rfl
            simp only [execOp]
            go_simp
          · obtain rfl : 43 = d := by simpa using hd
            have q42 : ac.tmps[42]?.getD undef = .pointer (some ⟨bb, off + q * 3 + 1, none⟩) := (eval_tmp _ _).symm.trans (hdep 10 42 rfl rfl)
            refine fact_value rfl rfl rfl (v := .int .i64 LO) (W' := W) ?_ (Below.refl _ _) rfl
            simp only [execOp]
            go_simp
          · obtain rfl : 44 = d := by simpa using hd
            have q2 : ac.tmps[2]?.getD undef = .pointer (some ⟨w.heap.size, 0, none⟩) := (eval_tmp _ _).symm.trans <| (hoff 2 (by decide)).trans rfl
            refine fact_value rfl rfl rfl (v := .pointer (some ⟨w.heap.size, 0, none⟩)) (W' := W) ?_ (Below.refl _ _) rfl
            simp only [execOp]
            go_simp
          · obtain rfl : 45 = d := by simpa using hd
            have q44 : ac.tmps[44]?.getD undef = .pointer (some ⟨w.heap.size, 0, none⟩) := (eval_tmp _ _).symm.trans (hdep 12 44 rfl rfl)
            refine fact_value rfl rfl rfl (v := .slice (some ⟨bb, off, none⟩) n cap) (W' := W) ?_ (Below.refl _ _) rfl
            simp only [execOp]
            go_simp
          · obtain rfl : 46 = d := by simpa using hd
            have q5 : ac.tmps[5]?.getD undef = .int .i64 (q : Nat) := (eval_tmp _ _).symm.trans <| (hoff 5 (by decide)).trans rfl
            refine fact_value rfl rfl rfl (v := .int .i64 (q : Nat)) (W' := W) ?_ (Below.refl _ _) rfl
            simp only [execOp]
            go_simp
          · obtain rfl : 47 = d := by simpa using hd
            have q45 : ac.tmps[45]?.getD undef = .slice (some ⟨bb, off, none⟩) n cap := (eval_tmp _ _).symm.trans (hdep 13 45 rfl rfl)
            have q46 : ac.tmps[46]?.getD undef = .int .i64 (q : Nat) := (eval_tmp _ _).symm.trans (hdep 14 46 rfl rfl)
            refine fact_value rfl rfl rfl (v := .pointer (some ⟨bb, off + q * 3, none⟩)) (W' := W) ?_ (Below.refl _ _) rfl
            simp only [execOp]
            go_simp
          · obtain rfl : 48 = d := by simpa using hd
            have q47 : ac.tmps[47]?.getD undef = .pointer (some ⟨bb, off + q * 3, none⟩) := (eval_tmp _ _).symm.trans (hdep 15 47 rfl rfl)
            refine fact_value rfl rfl rfl (v := .pointer (some ⟨bb, off + q * 3 + 1, none⟩)) (W' := W) ?_ (Below.refl _ _) rfl
            simp only [execOp]
            go_simp
          · obtain rfl : 49 = d := by simpa using hd
            have q48 : ac.tmps[48]?.getD undef = .pointer (some ⟨bb, off + q * 3 + 1, none⟩) := (eval_tmp _ _).symm.trans (hdep 16 48 rfl rfl)
            refine fact_value rfl rfl rfl (v := .pointer (some ⟨bb, off + q * 3 + 2, none⟩)) (W' := W) ?_ (Below.refl _ _) rfl
            simp only [execOp]
            go_simp
          · obtain rfl : 50 = d := by simpa using hd
            have q49 : ac.tmps[49]?.getD undef = .pointer (some ⟨bb, off + q * 3 + 2, none⟩) := (eval_tmp _ _).symm.trans (hdep 17 49 rfl rfl)
            refine fact_value rfl rfl rfl (v := .int .i64 HI) (W' := W) ?_ (Below.refl _ _) rfl
            simp only [execOp]
            go_simp
          · obtain rfl : 51 = d := by simpa using hd
            have q36 : ac.tmps[36]?.getD undef = .int .i64 XI := (eval_tmp _ _).symm.trans (hdep 4 36 rfl rfl)
            have q43 : ac.tmps[43]?.getD undef = .int .i64 LO := (eval_tmp _ _).symm.trans (hdep 11 43 rfl rfl)
            have q50 : ac.tmps[50]?.getD undef = .int .i64 HI := (eval_tmp _ _).symm.trans (hdep 18 50 rfl rfl)
            refine fact_call rfl rfl rfl (f := 53) (args := #[.int .i64 XI, .int .i64 LO, .int .i64 HI]) ?_ ?_
            · simp only [execOp]
              go_simp
            · refine (uwithin_any XI LO HI W).mono ?_
              rintro e w' ⟨rfl, rfl⟩
              exact ⟨_, rfl, Below.refl _ _, hrb.out⟩
          · obtain rfl : 52 = d := by simpa using hd
            have q51 : (ac.tmps[51]?.getD undef) = .bool rb := eval_tmp ac _ ▸ hdep 19 51 rfl rfl
            refine fact_value rfl rfl rfl (v := .bool (!rb)) (W' := W) ?_ (Below.refl _ _) rfl
            simp only [execOp]
            go_simp
        case rest =>
          intro vs W hvl hb hval
          obtain ⟨v0, v1, v2, v3, v4, v5, v6, v7, v8, v9, v10, v11, v12, v13, v14, v15, v16, v17, v18, v19, v20, rfl⟩ : ∃ v0 v1 v2 v3 v4 v5 v6 v7 v8 v9 v10 v11 v12 v13 v14 v15 v16 v17 v18 v19 v20, vs = [v0, v1, v2, v3, v4, v5, v6, v7, v8, v9, v10, v11, v12, v13, v14, v15, v16, v17, v18, v19, v20] := by
            match vs, hvl with
            | [v0, v1, v2, v3, v4, v5, v6, v7, v8, v9, v10, v11, v12, v13, v14, v15, v16, v17, v18, v19, v20], _ => exact ⟨v0, v1, v2, v3, v4, v5, v6, v7, v8, v9, v10, v11, v12, v13, v14, v15, v16, v17, v18, v19, v20, rfl⟩
          obtain rfl : v0 = .pointer (some ⟨w.heap.size + 1, 0, none⟩) := by obtain ⟨u, e, h⟩ := hval 0 (by omega); have e2 : some v0 = some u := e; injection e2 with e2; subst e2; exact h
          obtain rfl : v1 = .slice (some ⟨sb, so, none⟩) n sc := by obtain ⟨u, e, h⟩ := hval 1 (by omega); have e2 : some v1 = some u := e; injection e2 with e2; subst e2; exact h
          obtain rfl : v2 = .int .i64 (q : Nat) := by obtain ⟨u, e, h⟩ := hval 2 (by omega); have e2 : some v2 = some u := e; injection e2 with e2; subst e2; exact h
          obtain rfl : v3 = .pointer (some ⟨sb, so + q, none⟩) := by obtain ⟨u, e, h⟩ := hval 3 (by omega); have e2 : some v3 = some u := e; injection e2 with e2; subst e2; exact h
          obtain rfl : v4 = .int .i64 XI := by obtain ⟨u, e, h⟩ := hval 4 (by omega); have e2 : some v4 = some u := e; injection e2 with e2; subst e2; exact h
          obtain rfl : v5 = .pointer (some ⟨w.heap.size, 0, none⟩) := by obtain ⟨u, e, h⟩ := hval 5 (by omega); have e2 : some v5 = some u := e; injection e2 with e2; subst e2; exact h
          obtain rfl : v6 = .slice (some ⟨bb, off, none⟩) n cap := by obtain ⟨u, e, h⟩ := hval 6 (by omega); have e2 : some v6 = some u := e; injection e2 with e2; subst e2; exact h
          obtain rfl : v7 = .int .i64 (q : Nat) := by obtain ⟨u, e, h⟩ := hval 7 (by omega); have e2 : some v7 = some u := e; injection e2 with e2; subst e2; exact h
          obtain rfl : v8 = .pointer (some ⟨bb, off + q * 3, none⟩) := by obtain ⟨u, e, h⟩ := hval 8 (by omega); have e2 : some v8 = some u := e; injection e2 with e2; subst e2; exact h
          obtain rfl : v9 = .pointer (some ⟨bb, off + q * 3 + 1, none⟩) := by obtain ⟨u, e, h⟩ := hval 9 (by omega); have e2 : some v9 = some u := e; injection e2 with e2; subst e2; exact h
          obtain rfl : v10 = .pointer (some ⟨bb, off + q * 3 + 1, none⟩) := by obtain ⟨u, e, h⟩ := hval 10 (by omega); have e2 : some v10 = some u := e; injection e2 with e2; subst e2; exact h
          obtain rfl : v11 = .int .i64 LO := by obtain ⟨u, e, h⟩ := hval 11 (by omega); have e2 : some v11 = some u := e; injection e2 with e2; subst e2; exact h
          obtain rfl : v12 = .pointer (some ⟨w.heap.size, 0, none⟩) := by obtain ⟨u, e, h⟩ := hval 12 (by omega); have e2 : some v12 = some u := e; injection e2 with e2; subst e2; exact h
          obtain rfl : v13 = .slice (some ⟨bb, off, none⟩) n cap := by obtain ⟨u, e, h⟩ := hval 13 (by omega); have e2 : some v13 = some u := e; injection e2 with e2; subst e2; exact h
          obtain rfl : v14 = .int .i64 (q : Nat) := by obtain ⟨u, e, h⟩ := hval 14 (by omega); have e2 : some v14 = some u := e; injection e2 with e2; subst e2; exact h
          obtain rfl : v15 = .pointer (some ⟨bb, off + q * 3, none⟩) := by obtain ⟨u, e, h⟩ := hval 15 (by omega); have e2 : some v15 = some u := e; injection e2 with e2; subst e2; exact h
          obtain rfl : v16 = .pointer (some ⟨bb, off + q * 3 + 1, none⟩) := by obtain ⟨u, e, h⟩ := hval 16 (by omega); have e2 : some v16 = some u := e; injection e2 with e2; subst e2; exact h
          obtain rfl : v17 = .pointer (some ⟨bb, off + q * 3 + 2, none⟩) := by obtain ⟨u, e, h⟩ := hval 17 (by omega); have e2 : some v17 = some u := e; injection e2 with e2; subst e2; exact h
          obtain rfl : v18 = .int .i64 HI := by obtain ⟨u, e, h⟩ := hval 18 (by omega); have e2 : some v18 = some u := e; injection e2 with e2; subst e2; exact h
          have k19 : v19 = .bool rb := by obtain ⟨u, e, h⟩ := hval 19 (by omega); have e2 : some v19 = some u := e; injection e2 with e2; subst e2; exact h
          obtain rfl : v20 = .bool (!rb) := by obtain ⟨u, e, h⟩ := hval 20 (by omega); have e2 : some v20 = some u := e; injection e2 with e2; subst e2; exact h
          clear hval hvl
          simp only [putL, Act.put, List.drop, List.setIfInBounds_toArray, List.set_cons_zero, List.set_cons_succ]
          have HBW := Lib.hid (hb0.out.trans (hb.mono hb0.out.size))
          clear hb k19 c0 c1 c2 c3 c4 c5 s0 s1
          cases rb with
          | true =>
            go_wp2
            exact ⟨⟨q + 1, by omega, by go_num, Lib.hid (fun j hj => by by_cases e : j = q; exact e ▸ HOK.out rfl; exact hall.out j (by omega)), HBW⟩, by simp [intOf]; omega⟩
          | false =>
            go_wp2
            go_ret
            exact ⟨⟨false, rfl, fun h => by cases h⟩, HB.out.trans (HBW.out.mono HB.out.size)⟩
      · have hie : q = M.levers.length := by omega
        have hset : (x, k) ∈ setsM M := set_in HLEN.out hkk (fun j hj => hall.out j (by omega))
        have HWR := Lib.hid (fun W (hb : Below wr.heap.size wr W) => HWR0.out hset W (HB.out.trans ((hb0.out.trans (hb.mono hbs)).mono hbw)))
        have HTR := Lib.hid (show (((wrongsP M k (prodL x) : Nat) : Int) ≤ M.wrong) → (x, k) ∈ truthsM M from fun h => mem_truths.2 ⟨hset, by rw [truthB_is, decide_eq_true_eq]; exact h⟩)
        obtain ⟨WR, hWR⟩ : ∃ WR, wrongsP M k (prodL x) = WR := ⟨_, rfl⟩
        rw [hWR] at HWR HTR
        have hif : ¬ ((q : Nat) : Int) < ((x.length : Nat) : Int) := by have := HLEN.out; omega
        have HCW := Lib.hid (fun X (hX : Below wr.heap.size wr X) => HC.out X (hb0.out.trans (hX.mono hbs)))
        clear hset hWR hall
        go_upto_region 8 with fail
        refine wp_region_facts _ 6 [53, 54, 55, 56, 57, 58] [isV (.agg #[.slice a M.levers.length cap, .int .i64 M.water, .int .i64 M.lkLo, .int .i64 M.lkHi, .slice a2 M.bals.length cap2, .int .i64 M.wrong]), isV (.agg #[.slice sa x.length sc, .int .i64 k]), ⟨fun v W => v = .int .i64 (WR : Nat), fun _ _ _ h _ => h⟩, isV (.pointer (some ⟨w.heap.size, 5, none⟩)), isV (.int .i64 M.wrong), isV (.bool (decide ((WR : Int) ≤ M.wrong)))] (by kernel_rfl) (by kernel_rfl) (by kernel_rfl) rfl (by decide) (by decide) (by simp) ?step ?rest
        case step =>
          intro i ac W d hi hd hb hoff hdep
          obtain ⟨⟨c0, c1, c2, c3, c4, c5⟩, s0, s1⟩ := HCW.out W hb
          have hi2 : i = 0 ∨ i = 1 ∨ i = 2 ∨ i = 3 ∨ i = 4 ∨ i = 5 := by omega
          rcases hi2 with rfl | rfl | rfl | rfl | rfl | rfl
          · obtain rfl : 53 = d := by simpa using hd
            have q2 : ac.tmps[2]?.getD undef = .pointer (some ⟨w.heap.size, 0, none⟩) := (eval_tmp _ _).symm.trans <| (hoff 2 (by decide)).trans rfl
            refine fact_value rfl rfl rfl (v := .agg #[.slice a M.levers.length cap, .int .i64 M.water, .int .i64 M.lkLo, .int .i64 M.lkHi, .slice a2 M.bals.length cap2, .int .i64 M.wrong]) (W' := W) ?_ (Below.refl _ _) rfl
            simp only [execOp]
            go_simp
          · obtain rfl : 54 = d := by simpa using hd
            have q3 : ac.tmps[3]?.getD undef = .pointer (some ⟨w.heap.size + 1, 0, none⟩) := (eval_tmp _ _).symm.trans <| (hoff 3 (by decide)).trans rfl
            refine fact_value rfl rfl rfl (v := .agg #[.slice sa x.length sc, .int .i64 k]) (W' := W) ?_ (Below.refl _ _) rfl
            simp only [execOp]
            go_simp
          · obtain rfl : 55 = d := by simpa using hd
            have q53 : ac.tmps[53]?.getD undef = .agg #[.slice a M.levers.length cap, .int .i64 M.water, .int .i64 M.lkLo, .int .i64 M.lkHi, .slice a2 M.bals.length cap2, .int .i64 M.wrong] := (eval_tmp _ _).symm.trans (hdep 0 53 rfl rfl)
            have q54 : ac.tmps[54]?.getD undef = .agg #[.slice sa x.length sc, .int .i64 k] := (eval_tmp _ _).symm.trans (hdep 1 54 rfl rfl)
            refine fact_call rfl rfl rfl (f := 23) (args := #[.agg #[.slice a M.levers.length cap, .int .i64 M.water, .int .i64 M.lkLo, .int .i64 M.lkHi, .slice a2 M.bals.length cap2, .int .i64 M.wrong], .agg #[.slice sa x.length sc, .int .i64 k]]) ?_ ?_
            · simp only [execOp]
              go_simp
            · refine (HWR.out W hb).mono ?_
              rintro e w' ⟨rfl, hb2⟩
              exact ⟨_, rfl, hb2, rfl⟩
          · obtain rfl : 56 = d := by simpa using hd
            have q2 : ac.tmps[2]?.getD undef = .pointer (some ⟨w.heap.size, 0, none⟩) := (eval_tmp _ _).symm.trans <| (hoff 2 (by decide)).trans rfl
            refine fact_value rfl rfl rfl (v := .pointer (some ⟨w.heap.size, 5, none⟩)) (W' := W) ?_ (Below.refl _ _) rfl
            simp only [execOp]
            go_simp
          · obtain rfl : 57 = d := by simpa using hd
            have q56 : ac.tmps[56]?.getD undef = .pointer (some ⟨w.heap.size, 5, none⟩) := (eval_tmp _ _).symm.trans (hdep 3 56 rfl rfl)
            refine fact_value rfl rfl rfl (v := .int .i64 M.wrong) (W' := W) ?_ (Below.refl _ _) rfl
            simp only [execOp]
            go_simp
          · obtain rfl : 58 = d := by simpa using hd
            have q55 : (ac.tmps[55]?.getD undef) = .int .i64 (WR : Nat) := eval_tmp ac _ ▸ hdep 2 55 rfl rfl
            have q57 : ac.tmps[57]?.getD undef = .int .i64 M.wrong := (eval_tmp _ _).symm.trans (hdep 4 57 rfl rfl)
            refine fact_value rfl rfl rfl (v := .bool (decide ((WR : Int) ≤ M.wrong))) (W' := W) ?_ (Below.refl _ _) rfl
            simp only [execOp]
            go_simp
        case rest =>
          intro vs W hvl hb hval
          obtain ⟨v0, v1, v2, v3, v4, v5, rfl⟩ : ∃ v0 v1 v2 v3 v4 v5, vs = [v0, v1, v2, v3, v4, v5] := by
            match vs, hvl with
            | [v0, v1, v2, v3, v4, v5], _ => exact ⟨v0, v1, v2, v3, v4, v5, rfl⟩
          obtain rfl : v0 = .agg #[.slice a M.levers.length cap, .int .i64 M.water, .int .i64 M.lkLo, .int .i64 M.lkHi, .slice a2 M.bals.length cap2, .int .i64 M.wrong] := by obtain ⟨u, e, h⟩ := hval 0 (by omega); have e2 : some v0 = some u := e; injection e2 with e2; subst e2; exact h
          obtain rfl : v1 = .agg #[.slice sa x.length sc, .int .i64 k] := by obtain ⟨u, e, h⟩ := hval 1 (by omega); have e2 : some v1 = some u := e; injection e2 with e2; subst e2; exact h
          have k2 : v2 = .int .i64 (WR : Nat) := by obtain ⟨u, e, h⟩ := hval 2 (by omega); have e2 : some v2 = some u := e; injection e2 with e2; subst e2; exact h
          obtain rfl : v3 = .pointer (some ⟨w.heap.size, 5, none⟩) := by obtain ⟨u, e, h⟩ := hval 3 (by omega); have e2 : some v3 = some u := e; injection e2 with e2; subst e2; exact h
          obtain rfl : v4 = .int .i64 M.wrong := by obtain ⟨u, e, h⟩ := hval 4 (by omega); have e2 : some v4 = some u := e; injection e2 with e2; subst e2; exact h
          obtain rfl : v5 = .bool (decide ((WR : Int) ≤ M.wrong)) := by obtain ⟨u, e, h⟩ := hval 5 (by omega); have e2 : some v5 = some u := e; injection e2 with e2; subst e2; exact h
          clear hval hvl
          simp only [putL, Act.put, List.drop, List.setIfInBounds_toArray, List.set_cons_zero, List.set_cons_succ]
          have HBW := Lib.hid (hb0.out.trans (hb.mono hb0.out.size))
          clear hb k2 c0 c1 c2 c3 c4 c5 s0 s1
          go_wp2
          go_ret
          exact ⟨⟨_, rfl, fun h => HTR.out (of_decide_eq_true h)⟩, HB.out.trans (HBW.out.mono HB.out.size)⟩
end Go.Proofs.Ytomcjopcfdllgaa
