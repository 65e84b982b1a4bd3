/-
  Levers, walks: the balances that cannot be right.
-/
import Derived.Test.YtomcjopcfdllgaaVHas
import Derived.Test.YtomcjopcfdllgaaVAns
import Derived.WalkMore

namespace Go.Proofs.Ytomcjopcfdllgaa
open Go.RowKit Go.Shelf

attribute [local go_sem] Oper.semAt_some

theorem scopeF {F : Fence} (hF : Hid (F = Fence.wide)) {n : Nat} {P : Program} {c : Code} {Q : Exit → Act → World → Prop} {a : Act} {w : World} (h : c.wpIn F n P (Exit.noGoto Q) a w) : (Code.scope c).wpIn F n P Q a w := by
  have := hF.out
  subst this
  exact wpIn_wide.2 (wp_scope_straight (wpIn_wide.1 h))
theorem labelF {F : Fence} (hF : Hid (F = Fence.wide)) {n : Nat} {P : Program} {l : Nat} {Q : Exit → Act → World → Prop} {a : Act} {w : World} (h : Q .normal a w) : (Code.label l).wpIn F n P Q a w := by
  have := hF.out
  subst this
  exact wpIn_wide.2 (wp_label h)
/-- Whether a balance is right in some truth. -/
def someR (M : Mach) (k : Nat) : Bool := (truthsM M).any (fun s => rightP M s.2 (prodL s.1) (bnth M.bals k))
theorem someR_grp {M : Mach} (hV : ValidM M) {k : Nat} (hk : k < M.bals.length) : someR M k = (grpT M 0).any (fun g => rightP M g.leak (g.lo M 0) (bnth M.bals k)) := by
  have h := right_ends hV (lev := 0) (by decide) (b := bnth M.bals k) (by rw [bnth_lt hk]; exact List.getElem_mem hk)
  rw [Bool.eq_iff_iff, someR, List.any_eq_true, List.any_eq_true]
  exact h
/-- The balances that cannot be right, of the first k. -/
def strTo (M : Mach) (k : Nat) : List Int := ((List.range k).filter (fun i => !someR M i)).map Int.ofNat
theorem strTo_succ (M : Mach) (k : Nat) : strTo M (k + 1) = strTo M k ++ (if someR M k = true then [] else [(k : Int)]) := by
  unfold strTo
  rw [List.range_succ, List.filter_append, List.map_append]
  congr 1
  cases h : someR M k <;> simp [h]
theorem strTo_len (M : Mach) (k : Nat) : (strTo M k).length ≤ k := by
  unfold strTo
  rw [List.length_map]
  have := List.length_filter_le (fun i => !someR M i) (List.range k)
  rwa [List.length_range] at this
theorem strTo_in {M : Mach} {k : Nat} : ∀ x ∈ strTo M k, 0 ≤ x ∧ x < k := by
  intro x hx
  unfold strTo at hx
  obtain ⟨i, hi, rfl⟩ := List.mem_map.1 hx
  have := List.mem_range.1 (List.mem_filter.1 hi).1
  exact ⟨Int.natCast_nonneg _, by show (i : Int) < k; omega⟩
def strM (M : Mach) : List Int := strTo M M.bals.length

theorem row_belowS {w w' : World} {base : Nat} {e : TypeId} {size : Nat} {v : Value} {n : Nat} {xs : List Value} (h : w.ownsRow base e size v n xs) (hb : Below w.heap.size w w') : w'.ownsRow base e size v n xs :=
  h.kept (row := none) ⟨hb.os, hb.tape, hb.output, hb.size, fun k hk _ => hb.block k hk⟩ (by cases hv : v.ownBlock <;> simp)
theorem own_cells {w : World} {base : Nat} {e : TypeId} {size : Nat} {v : Value} {n : Nat} {xs : List Value} (h : w.ownsRow base e size v n xs) {b : Nat} (hb : v.ownBlock = some b) : ∃ cs, w.heap[b]? = some (.cells cs e) := by
  obtain ⟨_, ⟨rfl, _⟩ | ⟨g, cap, cur, rfl, _, hg, _⟩⟩ := h
  · cases hb
  · have : g = b := by simpa [Value.ownBlock] using hb
    subst this
    exact ⟨cur, hg⟩
/-- Numbers in memory stay where marks are taken. -/
theorem ints_marks {B : Nat} {W W' : World} {v : Value} {xs : List Int} {ds : List Nat} (h : IntsAt B W v xs) (hk : KeptBut (fun k => k ∈ ds) W W') (hd : ∀ D ∈ ds, W.heap[D]? = some (.deferred (some []))) (hB : B ≤ W.heap.size := by omega) : IntsAt W'.heap.size W' v xs := by
  obtain ⟨a, cap, b, off, hv, hl, hm, ha, hc, hw⟩ := h
  have hs := hk.size
  refine ⟨a, cap, b, off, hv, hl, hm, fun h => ⟨(ha h).1, by have := (ha h).2; omega⟩, fun i hi => ?_, hw⟩
  have hb := (ha (by omega)).2
  refine (World.cell?_of_block (w := W) (a := ⟨b, off + i, none⟩) (hk.block b (by omega) (fun hm => ?_))).trans (hc i hi)
  have h1 := hc i hi
  have h2 := hd b hm
  simp [World.cell?, h2] at h1

set_option maxRecDepth 100000 in
set_option maxHeartbeats 8000000 in
theorem Strange_in (F : Fence) (hF : Hid (F = Fence.wide)) (hd : F.depth = none) (hro : F.round = none) (hfn : ∀ f, F.fn f) (n : Nat) (hn : 9 ≤ n) (v : Value) (M : Mach) (w : World) (hx : MachAt w.heap.size w v M) (hV : validMB M = true) :
    CallsIn F n Try.prog 20 #[v] w fun e w' => ((truthsM M = [] → e = .returned (.tuple #[.slice none 0 0, .int .i64 3])) ∧ (truthsM M ≠ [] → ∃ v, e = .returned (.tuple #[v, .int .i64 0]) ∧ IntsAt w'.heap.size w' v (strM M))) ∧ Below w.heap.size w w' := by
  have hV' := validM_iff.1 hV
  have HX := Lib.hid (fun W (hb : Below w.heap.size w W) => (hx.below hb).mono hb.size)
  obtain ⟨a, cap, a2, cap2, rfl⟩ := hx.form
  have HV := Lib.hid hV
  have HV' := Lib.hid hV'
  clear hx hV hV'
  refine callsIn_of_wp_marks Try.func20 rfl (hfn _) ?_ hro
  simp only [Try.ntmps20, List.size_toArray, List.length_cons, List.length_nil, Nat.reduceAdd, Nat.reduceSub, Array.replicate_succ, Array.replicate_zero, List.push_toArray, List.append_toArray, List.nil_append, List.cons_append]
  gi_wp2_with fail
  refine scopeF hF ?_
  gi_wp2_with fail
  refine (inF hF (open_ok _ M _ _ _ _ (HX.out _ (by go_grown)) HV.out (by decide))).mono ?_
  rintro e w1 ⟨pb, rfl, hwk, hb1⟩
  have hsz := hb1.size
  simp only [World.size_alloc] at hsz
  have hbw : Below w.heap.size w w1 := (((Below.refl _ w).alloc (Nat.le_refl _) _)).trans (hb1.mono (by simp))
  have HWK := Lib.hid hwk
  have HBW := Lib.hid hbw
  clear hb1 hwk hbw
  gi_wp2_with fail
  obtain ⟨w2, hw2⟩ : ∃ w2, w2 = w1.alloc (.cells #[.pointer (some ⟨pb, 0, none⟩)] 77) := ⟨_, rfl⟩
  have hs2 : w2.heap.size = w1.heap.size + 1 := by rw [hw2]; simp
  have hb2 : Below w1.heap.size w1 w2 := by rw [hw2]; exact (Below.refl _ w1).alloc (Nat.le_refl _) _
  have hp2 : w2.heap[w1.heap.size]? = some (.cells #[.pointer (some ⟨pb, 0, none⟩)] 77) := by rw [hw2]; exact heap_new _ _
  rw [← hw2]
  clear hw2
  have hwk2 := (HWK.out.below hb2).mono hb2.size
  have HB2 := Lib.hid (HBW.out.trans (hb2.mono HBW.out.size))
  obtain ⟨b1, hb1e⟩ : ∃ b1, w1.heap.size = b1 := ⟨_, rfl⟩
  rw [hb1e] at hs2 hsz hp2 ⊢
  have e0 := (cell1_of hp2).1
  have HWK2 := Lib.hid hwk2
  have HP2 := Lib.hid hp2
  clear hb1e hwk2 hb2 hp2
  gi_wp2_with fail
  refine (inF hF (hasTruth_any M HV'.out pb w2 HWK2.out)).mono ?_
  rintro e w3 ⟨rfl, hb3⟩
  have hs3 := hb3.size
  have hwk3 := (HWK2.out.below hb3).mono hb3.size
  have hp3 := (hb3.block b1 (by omega)).trans HP2.out
  have HB3 := Lib.hid (HB2.out.trans (hb3.mono HB2.out.size))
  by_cases he : truthsM M = []
  · have hE : (truthsM M).isEmpty = true := by rw [he]; rfl
    rw [hE]
    have HE := Lib.hid he
    clear he hE hwk3 hp3 hb3
    gi_wp2_with fail
    exact ⟨_, results_tmp2 rfl _ _ _, ⟨fun _ => rfl, fun h => absurd HE.out h⟩, HB3.out⟩
  · have hE : (truthsM M).isEmpty = false := by simp [he]
    rw [hE]
    have HE := Lib.hid he
    obtain ⟨t1, t12, bv, c4, hbals⟩ := hwk3.three
    obtain ⟨a4, cap4, bb4, off4, rfl, hlen4, hcap4, hA4, hC4, _⟩ := hbals
    have e3 := (cell1_of hp3).1
    have HWK3 := Lib.hid hwk3
    have HP3 := Lib.hid hp3
    clear he hE hb3 hwk3 hp3 t1 t12
    gi_wp2_with fail
    refine labelF hF ?_
    gi_wp2_with fail
    obtain ⟨MV, hMV⟩ : ∃ MV, Value.agg #[.slice a M.levers.length cap, .int .i64 M.water, .int .i64 M.lkLo, .int .i64 M.lkHi, .slice a2 M.bals.length cap2, .int .i64 M.wrong] = MV := ⟨_, rfl⟩
    rw [hMV]
    have HMV := Lib.hid hMV
    clear hMV
    have HA4 := Lib.hid hA4
    have HC4 := Lib.hid hC4
    have hnb := HV'.out.nb
    clear hA4 hC4 c4 e3 e0
    refine wpIn_loop (fun a' wr => ∃ (k : Nat) (ds : List Nat) (A : Option Addr) (c : Nat) (u7 u8 u28 u29 u30 u31 u32 u33 u40 u41 u42 u43 u44 : Value), (k ≤ M.bals.length ∧ Hid (wr.ownsRow w3.heap.size 3 1 (.slice A (strTo M k).length c) (strTo M k).length ((strTo M k).map (Value.int .i64))) ∧ Hid (Below w3.heap.size w3 wr) ∧ Hid (ds.Nodup ∧ ∀ D ∈ ds, w3.heap.size ≤ D ∧ wr.heap[D]? = some (.deferred (some [])))) ∧ a' = { tmps := #[MV, .pointer (some ⟨w.heap.size, 0, none⟩), .slice none 0 0, .int .i64 0, .pointer (some ⟨b1, 0, none⟩), .int .i64 0, .slice A (strTo M k).length c, u7, u8, undef, .tuple #[.pointer (some ⟨pb, 0, none⟩), .int .i64 0], MV, .tuple #[.pointer (some ⟨pb, 0, none⟩), .int .i64 0], .pointer (some ⟨pb, 0, none⟩), .int .i64 0, .int .i64 0, .bool false, undef, .pointer (some ⟨pb, 0, none⟩), .bool true, .bool false, .pointer (some ⟨pb, 0, none⟩), .pointer (some ⟨pb, 0, none⟩), .pointer (some ⟨pb, 0, none⟩), .pointer (some ⟨pb, 4, none⟩), .slice a4 M.bals.length cap4, .int .i64 (M.bals.length : Nat), .int .i64 (k : Nat), u28, u29, u30, u31, u32, u33, undef, undef, undef, undef, undef, undef, u40, u41, u42, u43, u44, undef], defers := marks ds })
      (fun a' _ => M.bals.length - (intOf (a'.tmps.getD 27 undef)).toNat) ?start ?round
    case start => exact ⟨0, [], none, 0, undef, undef, undef, undef, undef, undef, undef, undef, undef, undef, undef, undef, undef, ⟨Nat.zero_le _, Lib.hid (show w3.ownsRow w3.heap.size 3 1 (.slice none 0 0) 0 [] from ⟨by simp, .inl ⟨rfl, rfl⟩⟩), Lib.hid (Below.refl _ _), Lib.hid ⟨List.nodup_nil, by simp⟩⟩, rfl⟩
    case round =>
      rintro a' wr ⟨k, ds, A, c, u7, u8, u28, u29, u30, u31, u32, u33, u40, u41, u42, u43, u44, ⟨hk, hown, hbr, hds⟩, rfl⟩
      have hsr := hbr.out.size
      have HP := Lib.hid ((hbr.out.block b1 (by omega)).trans HP3.out)
      have HWKR := Lib.hid ((HWK3.out.below hbr.out).mono hbr.out.size)
      by_cases hlt : k < M.bals.length
      · obtain ⟨rfl, hbb4⟩ := HA4.out (by omega)
        obtain ⟨f0, f1, f2, f3⟩ := HC4.out k hlt
        have hbx : bnth M.bals k ∈ M.bals := by rw [bnth_lt hlt]; exact List.getElem_mem hlt
        have HSR := Lib.hid (someR_grp HV'.out hlt)
        have HSU := Lib.hid (strTo_succ M k)
        have HBX := Lib.hid hbx
        have e4 := (cell1_of ((Below.heap_alloc wr (.cells #[.int .i64 (bnth M.bals k).weight, .int .i64 (bnth M.bals k).minutes, .int .i64 (bnth M.bals k).load, .int .i64 (bnth M.bals k).off] 51) b1 (heap_lt HP.out)).trans HP.out)).1
        have q0 := (hbr.out.cell (p := ⟨bb4, off4 + k * 4, none⟩) hbb4).trans f0
        have q1 := (hbr.out.cell (p := ⟨bb4, off4 + k * 4 + 1, none⟩) hbb4).trans f1
        have q2 := (hbr.out.cell (p := ⟨bb4, off4 + k * 4 + 2, none⟩) hbb4).trans f2
        have q3 := (hbr.out.cell (p := ⟨bb4, off4 + k * 4 + 3, none⟩) hbb4).trans f3
        have HOWN := hown
        have HBR := hbr
        have HDS := hds
        clear f0 f1 f2 f3 hbx
        gi_wp2_with fail
        obtain ⟨w5, hw5⟩ : ∃ w5, w5 = wr.alloc (.cells #[.int .i64 (bnth M.bals k).weight, .int .i64 (bnth M.bals k).minutes, .int .i64 (bnth M.bals k).load, .int .i64 (bnth M.bals k).off] 51) := ⟨_, rfl⟩
        have hs5 : w5.heap.size = wr.heap.size + 1 := by rw [hw5]; simp
        have hb5 : Below wr.heap.size wr w5 := by rw [hw5]; exact (Below.refl _ wr).alloc (Nat.le_refl _) _
        have hx5 : w5.heap[wr.heap.size]? = some (.cells #[.int .i64 (bnth M.bals k).weight, .int .i64 (bnth M.bals k).minutes, .int .i64 (bnth M.bals k).load, .int .i64 (bnth M.bals k).off] 51) := by rw [hw5]; exact heap_new _ _
        rw [← hw5]
        clear hw5 e4 q0 q1 q2 q3
        have HB5 := Lib.hid (hbr.out.trans (hb5.mono hbr.out.size))
        have HX5 := Lib.hid hx5
        have HP5 := Lib.hid ((hb5.block b1 (by omega)).trans HP.out)
        have HOWN5 := Lib.hid (row_belowS hown.out hb5)
        have HDS5 := Lib.hid (show ds.Nodup ∧ ∀ D ∈ ds, w3.heap.size ≤ D ∧ D < w5.heap.size ∧ w5.heap[D]? = some (.deferred (some [])) from ⟨hds.out.1, fun D hD => by
          have h1 := hds.out.2 D hD
          have h2 := heap_lt h1.2
          exact ⟨h1.1, by omega, (hb5.block D h2).trans h1.2⟩⟩)
        have hwk5 := (HWKR.out.below hb5).mono hb5.size
        have HWK5 := Lib.hid hwk5
        have hsr5 : w3.heap.size ≤ w5.heap.size := by omega
        have hd0 : F.depth = none := hd
        obtain ⟨XB, hXB⟩ : ∃ XB, bnth M.bals k = XB := ⟨_, rfl⟩
        rw [hXB] at HX5 HBX HSR
        clear hx5 hb5 hown hbr hds HOWN HBR HDS HWKR hwk5 hXB HC4
        -- the next round's start, whatever this one found
        have HNEXT := Lib.hid (fun (W : World) (D : Nat) (hD : D = w5.heap.size) (hkb : KeptBut (fun _ => False) w5 W) (hK : W.heap[D]? = some (.deferred (some []))) =>
          (show Below w3.heap.size w3 W ∧ W.ownsRow w3.heap.size 3 1 (.slice A (strTo M k).length c) (strTo M k).length ((strTo M k).map (Value.int .i64)) ∧ ((D :: ds).Nodup ∧ ∀ E ∈ D :: ds, w3.heap.size ≤ E ∧ W.heap[E]? = some (.deferred (some []))) from by
            have hbl : Below w5.heap.size w5 W := hkb.below (Nat.le_refl _) (fun k h => h.elim)
            refine ⟨HB5.out.trans (hbl.mono hsr5), row_belowS HOWN5.out hbl, List.nodup_cons.2 ⟨fun h => ?_, HDS5.out.1⟩, fun E hE => ?_⟩
            · have := (HDS5.out.2 D h).2.1
              omega
            · rcases List.mem_cons.1 hE with rfl | hE
              · exact ⟨by omega, hK⟩
              · have h1 := HDS5.out.2 E hE
                exact ⟨h1.1, (hbl.block E h1.2.1).trans h1.2.2⟩))
        refine wpIn_truths F hF hd hro hfn (by omega) M HV'.out 0 (by omega) pb w5.heap.size rfl HWK5.out (Nat.le_refl _) rfl (fun _ => False) (fun k hk => hk.elim)
          (fun pre W => pre.any (fun g => rightP M g.leak (g.lo M 0) XB) = false) (fun d pre W => d = .exit 1 ∧ pre.any (fun g => rightP M g.leak (g.lo M 0) XB) = true) (fun s A A' h _ => h) (fun d s A A' h _ => h) rfl
          (fun tm W g => { tmps := (tm.setIfInBounds 34 (grpV M 0 g)).setIfInBounds 9 (.pointer (some ⟨W.heap.size, 0, none⟩)), defers := [] }) ?assign ?body ?done ?stop
        case assign =>
          intro l x W K hK
          rw [grpV_eq] at hK ⊢
          obtain ⟨x0, x1, x2, y0, y1, y2, lk, gm, hgc⟩ : ∃ x0 x1 x2 y0 y1 y2 lk gm, grpC M 0 x = nine x0 x1 x2 lk y0 y1 y2 gm := ⟨_, _, _, _, _, _, _, _, rfl⟩
          rw [hgc] at hK ⊢
          unfold nine at hK ⊢
          gi_wp2
          exact hK
        case body =>
          intro l pre x V U hpre hI hkb hV2 hVU hgb hwU
          have hxg : x ∈ grpL M 0 := (List.mem_filter.1 (hpre.subset (show x ∈ pre ++ [x] by simp))).1
          obtain ⟨x0, x1, x2, y0, y1, y2, hgc, hx012, _, hxlo, _, hl0, hl20⟩ := grp_form HV'.out (by decide) hxg
          rw [grpV_eq]
          have hany : (pre ++ [x]).any (fun g => rightP M g.leak (g.lo M 0) XB) = rightP M x.leak (x.lo M 0) XB := by rw [List.any_append, hI]; simp
          obtain ⟨lk, hlk⟩ : ∃ lk, x.leak = lk := ⟨_, rfl⟩
          obtain ⟨gm, hgm⟩ : ∃ gm, x.many = gm := ⟨_, rfl⟩
          rw [hgc, hlk, hgm] at hgb ⊢
          unfold nine at hgb ⊢
          rw [hlk] at hany hl0 hl20
          obtain ⟨t1, t12, _⟩ := hwU.three
          have hpb := hwU.1
          have hUs := hkb.size
          have HR := Lib.hid (fun m => CallsIn.inRound l (inF hF (n := m) (visRight_any M HV'.out pb x0 x1 x2 lk XB U (by omega) HBX.out ⟨hl0, hl20⟩ hx012.1 hx012.2.1 hx012.2.2 t1 t12)))
          rw [hxlo] at HR
          obtain ⟨RB, hRB⟩ : ∃ RB, rightP M lk (x.lo M 0) XB = RB := ⟨_, rfl⟩
          rw [hRB] at HR hany
          have hxp := (hkb.block b1 (by omega) (fun h => h)).trans HP5.out
          have hxb := (hkb.block wr.heap.size (by omega) (fun h => h)).trans HX5.out
          obtain ⟨c0, c1, c2, c3⟩ := cells4 hxb
          have ep := (cell1_of hxp).1
          obtain ⟨GB, hGB⟩ : ∃ GB, V.heap.size = GB := ⟨_, rfl⟩
          rw [hGB] at hV2 hVU hgb ⊢
          obtain ⟨g0, g1, g2, g3, g4, g5, g6, g7, g8⟩ := cells9 hgb
          obtain ⟨v0, v1, v2, v3⟩ := XB
          unfold bV at HR
          dsimp only at HR c0 c1 c2 c3
          have HANY := Lib.hid hany
          clear hgb hxp hxb t1 t12 hkb hpre hlk hgm hGB hgc hxg hwU hI hany hRB hxlo hx012
          cases RB with
          | true =>
            gi_wp2_with (gi_at_call 67; refine (HR.out _).mono ?_; rintro e w9 ⟨rfl, hb9⟩; have HB9 := Lib.hid hb9; clear hb9)
            exact ⟨KeptBut.of_below HB9.out, rfl, HANY.out⟩
          | false =>
            gi_wp2_with (gi_at_call 67; refine (HR.out _).mono ?_; rintro e w9 ⟨rfl, hb9⟩; have HB9 := Lib.hid hb9; clear hb9)
            exact ⟨KeptBut.of_below HB9.out, HANY.out⟩
        case done =>
          rintro D W hD hkb hI hK
          obtain ⟨n1, n2, n3⟩ := HNEXT.out W D hD hkb hK
          have hno : someR M k = false := HSR.out.trans hI
          rw [hno] at HSU
          have HN1 := Lib.hid n1
          have HN2 := Lib.hid n2
          have HN3 := Lib.hid n3
          have hsl := strTo_len M k
          obtain ⟨LS, hLS⟩ : ∃ LS, strTo M k = LS := ⟨_, rfl⟩
          rw [hLS] at HSU HN2 hsl ⊢
          obtain ⟨ln, hln⟩ : ∃ ln, LS.length = ln := ⟨_, rfl⟩
          rw [hln] at HN2 hsl ⊢
          have HLN := Lib.hid hln
          clear n1 n2 n3 hno hI hkb hK hLS hln hD HNEXT
          obtain ⟨i0, hi, hz0, hz1, hz2⟩ := info_parts Try_infoJ
          have hDW := HN3.out.2 D (by simp)
          have HLE := Lib.hid (show (strTo M (k + 1)).length = ln + 1 by rw [HSU, if_neg (by simp), List.length_append, HLN.out]; rfl)
          have HXS := Lib.hid (show strTo M (k + 1) = LS ++ [(k : Int)] by rw [HSU, if_neg (by simp)])
          clear hDW HSU
          gi_wp2_with (gi_at_builtin; refine wpListIn_append_own _ rfl _ _ 28 rfl w3.heap.size 3 i0 (.int .i64 0) 1 8 Try.underlying28 hi hz0 hz1 hz2 rfl (by decide) _ _ _ rfl (HN2.out.alloc _) ⟨W.heap.size, 0, none⟩ 1 1 [.int .i64 (k : Nat)] rfl rfl (cell_one_new _ _ _) (by simp [Value.oneCell']) (by unfold maxLen; omega) (by have := HN1.out.size; omega) (by simp; have := HN1.out.size; omega) ?_
                       intro v' w6 hown' hgrow _
                       obtain ⟨g', cap', rfl⟩ := ownsRow_succ hown'
                       have HK6 := Lib.hid (show KeptBut (fun b => (Value.slice A ln c).ownBlock = some b) W w6 from ⟨hgrow.os, hgrow.tape, hgrow.output, Nat.le_trans (by simp) hgrow.size, fun b hb ho => (hgrow.block b (by simp; omega) (fun h => ho h.symm)).trans (Below.heap_alloc _ _ _ hb)⟩)
                       have HOWN6 := Lib.hid hown'
                       clear hown' hgrow)
          have h27 : ((k + 1 : Nat) : Int) = (k : Int) + 1 := by omega
          have hk6 : ∀ b, b < W.heap.size → (Value.slice A ln c).ownBlock ≠ some b → w6.heap[b]? = W.heap[b]? := fun b h1 h2 => HK6.out.block b h1 h2
          refine ⟨⟨k + 1, D :: ds, _, _, _, _, _, _, _, _, _, _, _, _, _, _, _, ⟨by omega, Lib.hid ?_, Lib.hid ?_, Lib.hid ⟨HN3.out.1, fun E hE => ⟨(HN3.out.2 E hE).1, ?_⟩⟩⟩, by rw [HLE.out, h27]; rfl⟩, ?_⟩
          · rw [HXS.out, List.length_append, HLN.out, List.map_append]; exact HOWN6.out
          · exact ⟨HK6.out.os.trans HN1.out.os, HK6.out.tape.trans HN1.out.tape, HK6.out.output.trans HN1.out.output, Nat.le_trans HN1.out.size HK6.out.size, fun b hb => (hk6 b (by have := HN1.out.size; omega) (fun h => by have := (HN2.out.lt b h).1; omega)).trans (HN1.out.block b hb)⟩
          · have hE2 := (HN3.out.2 E hE).2
            refine (hk6 E (heap_lt hE2) (fun h => ?_)).trans hE2
            obtain ⟨_, hc⟩ := own_cells HN2.out h
            rw [hE2] at hc
            cases hc
          · show M.bals.length - (intOf (Value.int .i64 ((k : Int) + 1))).toNat < M.bals.length - (intOf (Value.int .i64 (k : Nat))).toNat
            simp only [intOf]
            omega
        case stop =>
          rintro D d pre W hD hkb hpre ⟨rfl, hI⟩ hK
          obtain ⟨n1, n2, n3⟩ := HNEXT.out W D hD hkb hK
          have hyes : someR M k = true := by
            rw [HSR.out]
            obtain ⟨q, hq⟩ := hpre
            rw [← hq, List.any_append, hI]
            rfl
          rw [hyes] at HSU
          have HN1 := Lib.hid n1
          have HN2 := Lib.hid n2
          have HN3 := Lib.hid n3
          have HLE := Lib.hid (show strTo M (k + 1) = strTo M k by rw [HSU.out, if_pos rfl, List.append_nil])
          clear n1 n2 n3 hyes hI hkb hK hD HNEXT hpre HSU
          gi_wp2_with fail
          have h27 : ((k + 1 : Nat) : Int) = (k : Int) + 1 := by omega
          refine ⟨⟨k + 1, D :: ds, _, _, _, _, _, _, _, _, _, _, _, _, _, _, _, ⟨by omega, Lib.hid ?_, HN1, HN3⟩, by rw [HLE.out, h27]; rfl⟩, ?_⟩
          · rw [HLE.out]; exact HN2.out
          · show M.bals.length - (intOf (Value.int .i64 ((k : Int) + 1))).toNat < M.bals.length - (intOf (Value.int .i64 (k : Nat))).toNat
            simp only [intOf]
            omega
      · have hkl : k = M.bals.length := by omega
        have hkf : ¬ ((k : Nat) : Int) < ((M.bals.length : Nat) : Int) := by omega
        have HKL := Lib.hid hkl
        clear hkl hlt
        gi_wp2_with fail
        refine leaves_marks ds _ hds.out.1 (fun D hD => (hds.out.2 D hD).2) (fun w' hk' => ?_)
        have hint := ints_of_own hown.out (fun x hx => by have := strTo_in x hx; unfold I64; omega)
        refine ⟨_, results_tmp2 rfl _ _ _, ⟨fun h => absurd h HE.out, fun _ => ⟨_, rfl, ?_⟩⟩, ?_⟩
        · have := ints_marks hint hk' (fun D hD => (hds.out.2 D hD).2)
          rw [HKL.out] at this
          unfold strM
          rw [← HKL.out] at this ⊢
          exact this
        · exact (HB3.out.trans (hbr.out.mono HB3.out.size)).trans (hk'.below (by have := HB3.out.size; omega) (fun D hD => by have := (hds.out.2 D hD).1; have := HB3.out.size; omega))
theorem Strange_any (v : Value) (M : Mach) (w : World) (hx : MachAt w.heap.size w v M) (hV : validMB M = true) :
    Calls Try.prog 20 #[v] w fun e w' => ((truthsM M = [] → e = .returned (.tuple #[.slice none 0 0, .int .i64 3])) ∧ (truthsM M ≠ [] → ∃ v, e = .returned (.tuple #[v, .int .i64 0]) ∧ IntsAt w'.heap.size w' v (strM M))) ∧ Below w.heap.size w w' :=
  wide_calls (Strange_in Fence.wide rfl rfl rfl (fun _ => trivial) 9 (by omega) v M w hx hV)
end Go.Proofs.Ytomcjopcfdllgaa
