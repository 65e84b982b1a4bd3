/-
  Levers: the iterator 'truths': the groups of which not too many balances are wrong.
-/
import Derived.Test.YtomcjopcfdllgaaVGroups
import Derived.Test.YtomcjopcfdllgaaVGrpF
import Derived.Test.YtomcjopcfdllgaaVBelow

namespace Go.Proofs.Ytomcjopcfdllgaa
open Go.RowKit Go.Shelf Go.Sort

attribute [local go_sem] Oper.semAt_some

def tP (M : Mach) (lev : Nat) (g : Grp) : Bool := truthB M g.leak (g.lo M lev)
theorem grpT_is (M : Mach) (lev : Nat) : grpT M lev = (grpL M lev).filter (tP M lev) := rfl
theorem heap_old1 (w : World) (o o' : Obj) : ((w.alloc o).alloc o').heap[w.heap.size]? = some o := (Below.heap_alloc _ _ _ (by simp)).trans (World.alloc_heap_new w o)
theorem heap_new1 (w : World) (o o' : Obj) : ((w.alloc o).alloc o').heap[w.heap.size + 1]? = some o' := by
  have := World.alloc_heap_new (w.alloc o) o'
  rwa [World.size_alloc] at this
set_option maxRecDepth 100000 in
set_option maxHeartbeats 8000000 in
theorem truths_seq (F : Fence) (hF : Hid (F = Fence.wide)) (hd : F.depth = none) (hro : F.round = none) (hfn : ∀ f, F.fn f) (n : Nat) (hn : 5 ≤ n) (M : Mach) (hV : ValidM M) (lev : Nat) (hl : lev < 3) (pb B : Nat) (w0 : World) (hx : WorkAt B w0 pb M lev) (hB : B ≤ w0.heap.size) :
    SeqB F n Try.prog 60 #[.pointer (some ⟨pb, 0, none⟩)] #[] [2, 3] 4 (fun _ g => grpV M lev g) (fun _ _ _ => True) (grpT M lev) (fun k => k < B) w0 := by
  intro l own J Jx U hb hown hJ hJx hY h0
  have hBW : B ≤ U.heap.size := Nat.le_trans hB hb.size
  have hx1 : WorkAt B U pb M lev := hx.below (hb.mono hB)
  have HJ := Lib.hid (fun s A A' (h : J s A) (hk : KeptBut (fun j => j = U.heap.size + 2 ∨ j = U.heap.size + 3) A A') => hJ s A A' h (hk.mono (fun j _ h => by
    rcases h with rfl | rfl
    · exact ⟨2, by simp, by omega⟩
    · exact ⟨3, by simp, by omega⟩)))
  have HJX := Lib.hid (fun s A A' (h : Jx s A) (hk : KeptBut (fun j => j = U.heap.size + 2 ∨ j = U.heap.size + 3) A A') => hJx s A A' h (hk.mono (fun j _ h => by
    rcases h with rfl | rfl
    · exact ⟨2, by simp, by omega⟩
    · exact ⟨3, by simp, by omega⟩)))
  have HY := Lib.hid (fun m pre x W1 (h1 : pre ++ [x] <+: grpT M lev) (h2 : J pre W1) (h3 : U.heap.size + 4 ≤ W1.heap.size) => yield_free hd m (hY pre x W1 h1 h2 (fun c hc => by
    simp only [List.mem_cons, List.not_mem_nil, or_false] at hc
    rcases hc with rfl | rfl <;> omega) trivial))
  have HX := Lib.hid hx1
  have H0 := Lib.hid h0
  have HNO := Lib.hid (fun k (h : own k) => (show k < U.heap.size ∧ B ≤ k from ⟨(hown k h).1, by have := (hown k h).2; omega⟩))
  clear hx hb hY hJ hJx h0 hown hx1
  show CallsIn F n Try.prog 60 #[.pointer (some ⟨pb, 0, none⟩), .func (.yield l) #[] #[]] U _
  refine callsIn_of_wp_marks Try.func60 rfl (hfn _) ?_ hro
  simp only [Try.ntmps60, List.size_toArray, List.length_cons, List.length_nil, Nat.reduceAdd, Nat.reduceSub, Array.replicate_succ, Array.replicate_zero, List.push_toArray, List.append_toArray, List.nil_append, List.cons_append]
  gi_wp2_with fail
  obtain ⟨V0, hV0⟩ : ∃ V0, V0 = (U.alloc (.cells #[.pointer (some ⟨pb, 0, none⟩)] 77)).alloc (.cells #[.func (.yield l) #[] #[]] 113) := ⟨_, rfl⟩
  have hs0 : V0.heap.size = U.heap.size + 2 := by rw [hV0]; simp
  have hb0 : Below U.heap.size U V0 := by rw [hV0]; exact ((Below.refl _ U).alloc (Nat.le_refl _) _).alloc (by simp) _
  have hbx0 : V0.heap[U.heap.size]? = some (.cells #[.pointer (some ⟨pb, 0, none⟩)] 77) := by rw [hV0]; exact heap_old1 _ _ _
  have hbx1 : V0.heap[U.heap.size + 1]? = some (.cells #[.func (.yield l) #[] #[]] 113) := by rw [hV0]; exact heap_new1 _ _ _
  rw [← hV0]
  clear hV0
  have hj0 : J [] V0 := HJ.out _ _ _ H0.out (KeptBut.of_below hb0)
  have hwk0 := HX.out.below (hb0.mono hBW)
  have HS0 := Lib.hid hs0
  have HB0 := Lib.hid hb0
  have HBX0 := Lib.hid hbx0
  have HBX1 := Lib.hid hbx1
  have HLAST := Lib.hid (fun W (hk : KeptBut own V0 W) => (KeptBut.of_below hb0).trans hk)
  have HKJ := Lib.hid (fun (A A' : World) (h : KeptBut (fun r => r = V0.heap.size ∨ r = V0.heap.size + 1 ∨ ∃ c ∈ ([] : List Nat), r = V0.heap.size + 2 + c) A A') => (show KeptBut (fun j => j = U.heap.size + 2 ∨ j = U.heap.size + 3) A A' from h.mono (fun j _ h => by
    rcases h with h | h | ⟨c, hc, h⟩
    · omega
    · omega
    · cases hc)))
  clear hb0 hbx0 hbx1 H0
  refine wpIn_rangeFunc_B hro (by omega) (gf := 68) (ba := #[.pointer (some ⟨pb, 0, none⟩)]) (lb := #[]) rfl (hfn _) (enters_of Try.func68 (by kernel_rfl) rfl) (groups_seq F hF hd hro hfn (n - 1) M hV lev hl pb B V0 hwk0 (by omega)) (Below.refl _ _) rfl
    own (fun k hk => ⟨by have := (HNO.out k hk).1; omega, by have := (HNO.out k hk).2; omega⟩) (fun k hk => by omega) (fun _ _ _ _ _ => trivial)
    (fun pre W => J (pre.filter (tP M lev)) W) (fun d pre W => d = .ret ∧ Jx (pre.filter (tP M lev)) W)
    (fun s A A' h hk => HJ.out _ _ _ h (HKJ.out _ _ hk)) (fun d s A A' h hk => ⟨h.1, HJX.out _ _ _ h.2 (HKJ.out _ _ hk)⟩) hj0
    (fun W g => { tmps := #[.pointer (some ⟨pb, 0, none⟩), .func (.yield l) #[] #[], .pointer (some ⟨U.heap.size, 0, none⟩), .pointer (some ⟨U.heap.size + 1, 0, none⟩), .pointer (some ⟨W.heap.size, 0, none⟩), .pointer (some ⟨pb, 0, none⟩), .func (.func 68) #[.pointer (some ⟨pb, 0, none⟩)] #[], grpV M lev g, undef, undef, undef, undef, undef, undef, undef, undef, undef, undef, undef, undef, undef, undef, undef, undef], defers := [] })
    (fun W g => W.alloc (.cells (grpC M lev g) 88)) (fun W x => (Below.refl _ W).alloc (Nat.le_refl _) _) ?assign ?body ?done ?stop
  case assign =>
    intro l x W K hK
    rw [grpV_eq] at hK ⊢
    obtain ⟨x0, x1, x2, y0, y1, y2, lk, gm, hgc⟩ : ∃ x0 x1 x2 y0 y1 y2 lk gm, grpC M lev x = nine x0 x1 x2 lk y0 y1 y2 gm := ⟨_, _, _, _, _, _, _, _, rfl⟩
    rw [hgc] at hK ⊢
    unfold nine at hK ⊢
    gi_wp2
    exact hK
  case body =>
    intro l' pre x V Z hpre hI hkb _ _ hV2 hkl
    have hkU := HLAST.out _ hkb
    have hbU : Below B U Z := hkU.below hBW (fun k hk => (HNO.out k hk).2)
    have hsZ := hkb.size
    have hbox := (hkb.block U.heap.size (by omega) (fun h => by have := (HNO.out _ h).1; omega)).trans HBX0.out
    have hboy := (hkb.block (U.heap.size + 1) (by omega) (fun h => by have := (HNO.out _ h).1; omega)).trans HBX1.out
    have HC0 := Lib.hid (cell1_of hbox).1
    have HC1 := Lib.hid (cell1_of hboy).1
    have hgb := (hkl.block V.heap.size (by simp) (by omega)).trans (heap_new V (.cells (grpC M lev x) 88))
    have hxg : x ∈ grpL M lev := hpre.subset (by simp)
    obtain ⟨x0, x1, x2, y0, y1, y2, hgc, hx012, _, hlo, _, hl0, hl20⟩ := grp_form hV hl hxg
    have hwk := HX.out.below hbU
    have hcw : (⟨pb, 5, none⟩ : Addr).block < Z.heap.size := by have := hwk.1; show pb < _; omega
    have hpZ : pb < Z.heap.size := hcw
    have hcw5 : Z.cell? ⟨pb, 5, none⟩ = some (.int .i64 M.wrong) := by
      obtain ⟨_, lv, bv, av, mv, sv, hblk, _⟩ := hwk
      exact (cells20 hblk).1.2.2.2.2.2
    obtain ⟨t1, t12, bv, t4, tB⟩ := hwk.three
    have hBZ : B ≤ Z.heap.size := by omega
    have hcall : ∀ W', Below Z.heap.size Z W' → Calls Try.prog 69 #[.pointer (some ⟨pb, 0, none⟩), .agg #[.int .i64 x0, .int .i64 x1, .int .i64 x2, .int .i64 x.leak]] W' fun r w' => r = .returned (.int .i64 (wrongsP M x.leak (x.lo M lev) : Nat)) ∧ Below W'.heap.size W' w' := fun W' h => by
      rw [← hlo]
      exact notRight_any M hV pb x0 x1 x2 x.leak bv W' (by have := h.size; omega) ⟨hl0, hl20⟩ hx012.1 hx012.2.1 hx012.2.2 ((h.cell hpZ).trans t1) ((h.cell hpZ).trans t4) ((h.cell hpZ).trans t12) ((tB.mono hBZ).below h |>.mono h.size)
    have htp : tP M lev x = decide ((wrongsP M x.leak (x.lo M lev) : Int) ≤ M.wrong) := rfl
    obtain ⟨WN, hWN⟩ : ∃ WN, wrongsP M x.leak (x.lo M lev) = WN := ⟨_, rfl⟩
    obtain ⟨lk, hlk⟩ : ∃ lk, x.leak = lk := ⟨_, rfl⟩
    obtain ⟨gm, hgm⟩ : ∃ gm, x.many = gm := ⟨_, rfl⟩
    rw [hgc, hlk, hgm] at hgb
    rw [hWN, hlk] at hcall
    rw [hWN] at htp
    have hgv : grpV M lev x = .agg #[.int .i64 x0, .int .i64 x1, .int .i64 x2, .int .i64 lk, .int .i64 y0, .int .i64 y1, .int .i64 y2, .int .i64 lk, .int .i64 (gm : Nat)] := by rw [grpV_eq, hgc, hlk, hgm]; rfl
    have HQ := Lib.hid (fun m W' h => CallsIn.inRound l' (inF hF (n := m) (hcall W' h)))
    have HGV := Lib.hid hgv
    have HCW := Lib.hid hcw5
    have HTP := Lib.hid htp
    obtain ⟨GB, hGB⟩ : ∃ GB, V.heap.size = GB := ⟨_, rfl⟩
    have hgl : GB < Z.heap.size := by rw [← hGB]; exact heap_lt hgb
    rw [hGB] at hgb
    have HGB := Lib.hid (show Z.heap[GB]? = some (.cells #[.int .i64 x0, .int .i64 x1, .int .i64 x2, .int .i64 lk, .int .i64 y0, .int .i64 y1, .int .i64 y2, .int .i64 lk, .int .i64 (gm : Nat)] 88) from hgb)
    have hcu0 : (⟨U.heap.size, 0, none⟩ : Addr).block < Z.heap.size := by show U.heap.size < _; omega
    have hcu1 : (⟨U.heap.size + 1, 0, none⟩ : Addr).block < Z.heap.size := by show U.heap.size + 1 < _; omega
    have hd0 : (F.inRound l').depth = none := hd
    have HPRE := Lib.hid (filter_prefix (tP M lev) hpre)
    have HI := Lib.hid hI
    have hZ4 : U.heap.size + 4 ≤ Z.heap.size := by rw [hGB] at hV2; have := HS0.out; omega
    simp only [hGB, hgv]
    clear hcall hkl hkU hbU hkb hbox hboy hI hpre hj0 hwk0 hwk hgb hxg hgc hx012 hlo hl0 hl20 hcw5 hpZ t1 t12 t4 tB htp hWN hlk hgm hgv hGB
    by_cases hp : (WN : Int) ≤ M.wrong
    · have hpt : decide ((WN : Int) ≤ M.wrong) = true := by simpa using hp
      gi_wp2_with fail
      refine wpIn_region_factsA _ 13 [8, 9, 10, 11, 12, 13, 14, 15, 16, 17, 18, 19, 20] [isV (.pointer (some ⟨pb, 0, none⟩)), isV (.pointer (some ⟨GB, 0, none⟩)), isV (.agg #[.int .i64 x0, .int .i64 x1, .int .i64 x2, .int .i64 lk]), ⟨fun v W => v = .int .i64 (WN : Nat), fun _ _ _ h _ => h⟩, isV (.pointer (some ⟨pb, 0, none⟩)), isV (.pointer (some ⟨pb, 0, none⟩)), isV (.pointer (some ⟨pb, 0, none⟩)), isV (.pointer (some ⟨pb, 5, none⟩)), isV (.int .i64 M.wrong), isV (.bool true), isV (.bool true), isV (.func (.yield l) #[] #[]), isV (.agg #[.int .i64 x0, .int .i64 x1, .int .i64 x2, .int .i64 lk, .int .i64 y0, .int .i64 y1, .int .i64 y2, .int .i64 lk, .int .i64 (gm : Nat)])] (by kernel_rfl) (by kernel_rfl) rfl (by decide) (by decide) (by simp) ?step ?rest
      case step =>
        intro i ac W d hi hd hb hoff hdep
        have z0 := (hb.cell hcu0).trans HC0.out
        have z1 := (hb.cell hcu1).trans HC1.out
        obtain ⟨g0, g1, g2, g3, g4, g5, g6, g7, g8⟩ := cells9 ((hb.block GB hgl).trans HGB.out)
        have z2 := (hb.cell hcw).trans HCW.out
        have hi2 : i = 0 ∨ i = 1 ∨ i = 2 ∨ i = 3 ∨ i = 4 ∨ i = 5 ∨ i = 6 ∨ i = 7 ∨ i = 8 ∨ i = 9 ∨ i = 10 ∨ i = 11 ∨ i = 12 := by omega
        rcases hi2 with rfl | rfl | rfl | rfl | rfl | rfl | rfl | rfl | rfl | rfl | rfl | rfl | rfl
        · obtain rfl : 8 = d := by simpa using hd
          have q2 : ac.tmps[2]?.getD undef = .pointer (some ⟨U.heap.size, 0, none⟩) := (eval_tmp _ _).symm.trans <| (hoff 2 (by decide)).trans rfl
          refine fact_valueIn (fun f => hfn f) rfl (by intro c h; cases h) rfl rfl (v := .pointer (some ⟨pb, 0, none⟩)) (W' := W) ?_ (Below.refl _ _) rfl
          simp only [execOp]
          go_simp
        · obtain rfl : 9 = d := by simpa using hd
          have q4 : ac.tmps[4]?.getD undef = .pointer (some ⟨GB, 0, none⟩) := (eval_tmp _ _).symm.trans <| (hoff 4 (by decide)).trans rfl
          refine fact_valueIn (fun f => hfn f) rfl (by intro c h; cases h) rfl rfl (v := .pointer (some ⟨GB, 0, none⟩)) (W' := W) ?_ (Below.refl _ _) rfl
          simp only [execOp]
          go_simp
        · obtain rfl : 10 = d := by simpa using hd
          have q9 : ac.tmps[9]?.getD undef = .pointer (some ⟨GB, 0, none⟩) := (eval_tmp _ _).symm.trans (hdep 1 9 rfl rfl)
          refine fact_valueIn (fun f => hfn f) rfl (by intro c h; cases h) rfl rfl (v := .agg #[.int .i64 x0, .int .i64 x1, .int .i64 x2, .int .i64 lk]) (W' := W) ?_ (Below.refl _ _) rfl
          simp only [execOp]
          go_simp
        · obtain rfl : 11 = d := by simpa using hd
          have q8 : ac.tmps[8]?.getD undef = .pointer (some ⟨pb, 0, none⟩) := (eval_tmp _ _).symm.trans (hdep 0 8 rfl rfl)
          have q10 : ac.tmps[10]?.getD undef = .agg #[.int .i64 x0, .int .i64 x1, .int .i64 x2, .int .i64 lk] := (eval_tmp _ _).symm.trans (hdep 2 10 rfl rfl)
          refine fact_callIn (fun f => hfn f) hd0 rfl (by intro c h; cases h) rfl rfl (f := 69) (args := #[.pointer (some ⟨pb, 0, none⟩), .agg #[.int .i64 x0, .int .i64 x1, .int .i64 x2, .int .i64 lk]]) ?_ ?_
          · simp only [execOp]
            go_simp
          · refine (HQ.out _ W hb).mono ?_
            rintro e w' ⟨rfl, hb'⟩
            exact ⟨_, rfl, hb', rfl⟩
        · obtain rfl : 12 = d := by simpa using hd
          have q2 : ac.tmps[2]?.getD undef = .pointer (some ⟨U.heap.size, 0, none⟩) := (eval_tmp _ _).symm.trans <| (hoff 2 (by decide)).trans rfl
          refine fact_valueIn (fun f => hfn f) rfl (by intro c h; cases h) rfl rfl (v := .pointer (some ⟨pb, 0, none⟩)) (W' := W) ?_ (Below.refl _ _) rfl
          simp only [execOp]
          go_simp
        · obtain rfl : 13 = d := by simpa using hd
          have q12 : ac.tmps[12]?.getD undef = .pointer (some ⟨pb, 0, none⟩) := (eval_tmp _ _).symm.trans (hdep 4 12 rfl rfl)
          refine fact_valueIn (fun f => hfn f) rfl (by intro c h; cases h) rfl rfl (v := .pointer (some ⟨pb, 0, none⟩)) (W' := W) ?_ (Below.refl _ _) rfl
          simp only [execOp]
          go_simp
        · obtain rfl : 14 = d := by simpa using hd
          have q13 : ac.tmps[13]?.getD undef = .pointer (some ⟨pb, 0, none⟩) := (eval_tmp _ _).symm.trans (hdep 5 13 rfl rfl)
          refine fact_valueIn (fun f => hfn f) rfl (by intro c h; cases h) rfl rfl (v := .pointer (some ⟨pb, 0, none⟩)) (W' := W) ?_ (Below.refl _ _) rfl
          simp only [execOp]
          go_simp
        · obtain rfl : 15 = d := by simpa using hd
          have q14 : ac.tmps[14]?.getD undef = .pointer (some ⟨pb, 0, none⟩) := (eval_tmp _ _).symm.trans (hdep 6 14 rfl rfl)
          refine fact_valueIn (fun f => hfn f) rfl (by intro c h; cases h) rfl rfl (v := .pointer (some ⟨pb, 5, none⟩)) (W' := W) ?_ (Below.refl _ _) rfl
          simp only [execOp]
          go_simp
        · obtain rfl : 16 = d := by simpa using hd
          have q15 : ac.tmps[15]?.getD undef = .pointer (some ⟨pb, 5, none⟩) := (eval_tmp _ _).symm.trans (hdep 7 15 rfl rfl)
          refine fact_valueIn (fun f => hfn f) rfl (by intro c h; cases h) rfl rfl (v := .int .i64 M.wrong) (W' := W) ?_ (Below.refl _ _) rfl
          simp only [execOp]
          go_simp
        · obtain rfl : 17 = d := by simpa using hd
          have q11 : (ac.tmps[11]?.getD undef) = .int .i64 (WN : Nat) := eval_tmp ac _ ▸ hdep 3 11 rfl rfl
          have q16 : ac.tmps[16]?.getD undef = .int .i64 M.wrong := (eval_tmp _ _).symm.trans (hdep 8 16 rfl rfl)
          refine fact_valueIn (fun f => hfn f) rfl (by intro c h; cases h) rfl rfl (v := .bool true) (W' := W) ?_ (Below.refl _ _) rfl
          simp only [execOp]
          go_simp
        · obtain rfl : 18 = d := by simpa using hd
          have q17 : ac.tmps[17]?.getD undef = .bool true := (eval_tmp _ _).symm.trans (hdep 9 17 rfl rfl)
          refine fact_valueIn (fun f => hfn f) rfl (by intro c h; cases h) rfl rfl (v := .bool true) (W' := W) ?_ (Below.refl _ _) rfl
          simp only [execOp]
          go_simp
        · obtain rfl : 19 = d := by simpa using hd
          have q3 : ac.tmps[3]?.getD undef = .pointer (some ⟨U.heap.size + 1, 0, none⟩) := (eval_tmp _ _).symm.trans <| (hoff 3 (by decide)).trans rfl
          have q18 : ac.tmps[18]?.getD undef = .bool true := (eval_tmp _ _).symm.trans (hdep 10 18 rfl rfl)
          refine fact_value_onIn (fun f => hfn f) rfl (by intro c h; cases h) (wants_on (t := 18) rfl rfl q18) rfl (v := .func (.yield l) #[] #[]) (W' := W) ?_ (Below.refl _ _) rfl
          simp only [execOp]
          go_simp
        · obtain rfl : 20 = d := by simpa using hd
          have q4 : ac.tmps[4]?.getD undef = .pointer (some ⟨GB, 0, none⟩) := (eval_tmp _ _).symm.trans <| (hoff 4 (by decide)).trans rfl
          have q18 : ac.tmps[18]?.getD undef = .bool true := (eval_tmp _ _).symm.trans (hdep 10 18 rfl rfl)
          refine fact_value_onIn (fun f => hfn f) rfl (by intro c h; cases h) (wants_on (t := 18) rfl rfl q18) rfl (v := .agg #[.int .i64 x0, .int .i64 x1, .int .i64 x2, .int .i64 lk, .int .i64 y0, .int .i64 y1, .int .i64 y2, .int .i64 lk, .int .i64 (gm : Nat)]) (W' := W) ?_ (Below.refl _ _) rfl
          simp only [execOp]
          go_simp
      case rest =>
        intro vs W hvl hb hval
        obtain ⟨v0, v1, v2, v3, v4, v5, v6, v7, v8, v9, v10, v11, v12, rfl⟩ : ∃ v0 v1 v2 v3 v4 v5 v6 v7 v8 v9 v10 v11 v12, vs = [v0, v1, v2, v3, v4, v5, v6, v7, v8, v9, v10, v11, v12] := by
          match vs, hvl with
          | [v0, v1, v2, v3, v4, v5, v6, v7, v8, v9, v10, v11, v12], _ => exact ⟨v0, v1, v2, v3, v4, v5, v6, v7, v8, v9, v10, v11, v12, rfl⟩
        obtain rfl : v0 = .pointer (some ⟨pb, 0, none⟩) := by obtain ⟨u, e, h⟩ := hval 0 (by omega); have e2 : some v0 = some u := e; injection e2 with e2; subst e2; exact h
        obtain rfl : v1 = .pointer (some ⟨GB, 0, none⟩) := by obtain ⟨u, e, h⟩ := hval 1 (by omega); have e2 : some v1 = some u := e; injection e2 with e2; subst e2; exact h
        obtain rfl : v2 = .agg #[.int .i64 x0, .int .i64 x1, .int .i64 x2, .int .i64 lk] := by obtain ⟨u, e, h⟩ := hval 2 (by omega); have e2 : some v2 = some u := e; injection e2 with e2; subst e2; exact h
        have k3 : v3 = .int .i64 (WN : Nat) := by obtain ⟨u, e, h⟩ := hval 3 (by omega); have e2 : some v3 = some u := e; injection e2 with e2; subst e2; exact h
        obtain rfl : v4 = .pointer (some ⟨pb, 0, none⟩) := by obtain ⟨u, e, h⟩ := hval 4 (by omega); have e2 : some v4 = some u := e; injection e2 with e2; subst e2; exact h
        obtain rfl : v5 = .pointer (some ⟨pb, 0, none⟩) := by obtain ⟨u, e, h⟩ := hval 5 (by omega); have e2 : some v5 = some u := e; injection e2 with e2; subst e2; exact h
        obtain rfl : v6 = .pointer (some ⟨pb, 0, none⟩) := by obtain ⟨u, e, h⟩ := hval 6 (by omega); have e2 : some v6 = some u := e; injection e2 with e2; subst e2; exact h
        obtain rfl : v7 = .pointer (some ⟨pb, 5, none⟩) := by obtain ⟨u, e, h⟩ := hval 7 (by omega); have e2 : some v7 = some u := e; injection e2 with e2; subst e2; exact h
        obtain rfl : v8 = .int .i64 M.wrong := by obtain ⟨u, e, h⟩ := hval 8 (by omega); have e2 : some v8 = some u := e; injection e2 with e2; subst e2; exact h
        obtain rfl : v9 = .bool true := by obtain ⟨u, e, h⟩ := hval 9 (by omega); have e2 : some v9 = some u := e; injection e2 with e2; subst e2; exact h
        obtain rfl : v10 = .bool true := by obtain ⟨u, e, h⟩ := hval 10 (by omega); have e2 : some v10 = some u := e; injection e2 with e2; subst e2; exact h
        obtain rfl : v11 = .func (.yield l) #[] #[] := by obtain ⟨u, e, h⟩ := hval 11 (by omega); have e2 : some v11 = some u := e; injection e2 with e2; subst e2; exact h
        obtain rfl : v12 = .agg #[.int .i64 x0, .int .i64 x1, .int .i64 x2, .int .i64 lk, .int .i64 y0, .int .i64 y1, .int .i64 y2, .int .i64 lk, .int .i64 (gm : Nat)] := by obtain ⟨u, e, h⟩ := hval 12 (by omega); have e2 : some v12 = some u := e; injection e2 with e2; subst e2; exact h
        clear hval hvl
        simp only [putL, Act.put, List.setIfInBounds_toArray, List.set_cons_zero, List.set_cons_succ]
        have hbq := hb
        have hjq := HJ.out _ _ _ HI.out (KeptBut.of_below hbq)
        have hpq := HPRE.out
        rw [filter_snoc_yes (p := tP M lev) (show tP M lev x = true by rw [HTP.out]; exact hpt)] at hpq
        have hy : YieldAt F (n - 1) Try.prog l #[grpV M lev x] W _ := HY.out (n - 1) _ x W hpq hjq (by have := hbq.size; omega)
        rw [HGV.out] at hy
        obtain ⟨fn, tmps, assign, body, hyy, hR⟩ := hy
        have HR := Lib.hid hR
        have HBQ := Lib.hid hbq
        clear hR hjq hpq hbq k3
        refine wpAnyIn_ready (rs := [13]) (by kernel_rfl) (by simp) ?_
        refine AllReadyIn.cons rfl (fun K hK => ?_) AllReadyIn.nil
        go_simp
        gi_wp2_with fail
        refine RoundIn.mono (show RoundIn F (n - 1 - 1 - 1) Try.prog l fn tmps assign body W _ from round_free hd HR.out) ?_
        rintro e w3 (⟨rfl, h1, h2⟩ | ⟨rfl, h1, h2⟩)
        all_goals
          have H1 := Lib.hid h1
          have H2 := Lib.hid h2
          clear h1 h2
          go_simp
          refine hK _ _ ?_
          clear hK K
          refine wpAnyIn_ready (rs := [14]) (by kernel_rfl) (by simp) ?_
          refine AllReadyIn.cons rfl (fun K hK => ?_) AllReadyIn.nil
          go_simp
          refine hK _ _ ?_
          clear hK K
          refine wpAnyIn_ready (rs := [15]) (by kernel_rfl) (by simp) ?_
          refine AllReadyIn.cons rfl (fun K hK => ?_) AllReadyIn.nil
          go_simp
          refine hK _ _ ?_
          clear hK K
          refine wpAnyIn_done (by kernel_rfl) ?_ _
          gi_wp2_with fail
        · exact ⟨(KeptBut.of_below HBQ.out).trans H2.out, by (show J ((pre ++ [x]).filter (tP M lev)) w3); rw [filter_snoc_yes (p := tP M lev) (show tP M lev x = true by rw [HTP.out]; exact hpt)]; exact H1.out⟩
        · exact ⟨(KeptBut.of_below HBQ.out).trans H2.out, rfl, by (show Jx ((pre ++ [x]).filter (tP M lev)) w3); rw [filter_snoc_yes (p := tP M lev) (show tP M lev x = true by rw [HTP.out]; exact hpt)]; exact H1.out⟩
    · have hpt : decide ((WN : Int) ≤ M.wrong) = false := by simpa using hp
      gi_wp2_with fail
      refine wpIn_region_factsA _ 16 [8, 9, 10, 11, 12, 13, 14, 15, 16, 17, 18, 19, 20, 21, 22, 23] [isV (.pointer (some ⟨pb, 0, none⟩)), isV (.pointer (some ⟨GB, 0, none⟩)), isV (.agg #[.int .i64 x0, .int .i64 x1, .int .i64 x2, .int .i64 lk]), ⟨fun v W => v = .int .i64 (WN : Nat), fun _ _ _ h _ => h⟩, isV (.pointer (some ⟨pb, 0, none⟩)), isV (.pointer (some ⟨pb, 0, none⟩)), isV (.pointer (some ⟨pb, 0, none⟩)), isV (.pointer (some ⟨pb, 5, none⟩)), isV (.int .i64 M.wrong), isV (.bool false), isV (.bool false), isV (undef), isV (undef), isV (undef), isV (undef), isV (.bool false)] (by kernel_rfl) (by kernel_rfl) rfl (by decide) (by decide) (by simp) ?step ?rest
      case step =>
        intro i ac W d hi hd hb hoff hdep
        have z0 := (hb.cell hcu0).trans HC0.out
        have z1 := (hb.cell hcu1).trans HC1.out
        obtain ⟨g0, g1, g2, g3, g4, g5, g6, g7, g8⟩ := cells9 ((hb.block GB hgl).trans HGB.out)
        have z2 := (hb.cell hcw).trans HCW.out
        have hi2 : i = 0 ∨ i = 1 ∨ i = 2 ∨ i = 3 ∨ i = 4 ∨ i = 5 ∨ i = 6 ∨ i = 7 ∨ i = 8 ∨ i = 9 ∨ i = 10 ∨ i = 11 ∨ i = 12 ∨ i = 13 ∨ i = 14 ∨ i = 15 := by omega
        rcases hi2 with rfl | rfl | rfl | rfl | rfl | rfl | rfl | rfl | rfl | rfl | rfl | rfl | rfl | rfl | rfl | rfl
        · obtain rfl : 8 = d := by simpa using hd
          have q2 : ac.tmps[2]?.getD undef = .pointer (some ⟨U.heap.size, 0, none⟩) := (eval_tmp _ _).symm.trans <| (hoff 2 (by decide)).trans rfl
          refine fact_valueIn (fun f => hfn f) rfl (by intro c h; cases h) rfl rfl (v := .pointer (some ⟨pb, 0, none⟩)) (W' := W) ?_ (Below.refl _ _) rfl
          simp only [execOp]
          go_simp
        · obtain rfl : 9 = d := by simpa using hd
          have q4 : ac.tmps[4]?.getD undef = .pointer (some ⟨GB, 0, none⟩) := (eval_tmp _ _).symm.trans <| (hoff 4 (by decide)).trans rfl
          refine fact_valueIn (fun f => hfn f) rfl (by intro c h; cases h) rfl rfl (v := .pointer (some ⟨GB, 0, none⟩)) (W' := W) ?_ (Below.refl _ _) rfl
          simp only [execOp]
          go_simp
        · obtain rfl : 10 = d := by simpa using hd
          have q9 : ac.tmps[9]?.getD undef = .pointer (some ⟨GB, 0, none⟩) := (eval_tmp _ _).symm.trans (hdep 1 9 rfl rfl)
          refine fact_valueIn (fun f => hfn f) rfl (by intro c h; cases h) rfl rfl (v := .agg #[.int .i64 x0, .int .i64 x1, .int .i64 x2, .int .i64 lk]) (W' := W) ?_ (Below.refl _ _) rfl
          simp only [execOp]
          go_simp
        · obtain rfl : 11 = d := by simpa using hd
          have q8 : ac.tmps[8]?.getD undef = .pointer (some ⟨pb, 0, none⟩) := (eval_tmp _ _).symm.trans (hdep 0 8 rfl rfl)
          have q10 : ac.tmps[10]?.getD undef = .agg #[.int .i64 x0, .int .i64 x1, .int .i64 x2, .int .i64 lk] := (eval_tmp _ _).symm.trans (hdep 2 10 rfl rfl)
          refine fact_callIn (fun f => hfn f) hd0 rfl (by intro c h; cases h) rfl rfl (f := 69) (args := #[.pointer (some ⟨pb, 0, none⟩), .agg #[.int .i64 x0, .int .i64 x1, .int .i64 x2, .int .i64 lk]]) ?_ ?_
          · simp only [execOp]
            go_simp
          · refine (HQ.out _ W hb).mono ?_
            rintro e w' ⟨rfl, hb'⟩
            exact ⟨_, rfl, hb', rfl⟩
        · obtain rfl : 12 = d := by simpa using hd
          have q2 : ac.tmps[2]?.getD undef = .pointer (some ⟨U.heap.size, 0, none⟩) := (eval_tmp _ _).symm.trans <| (hoff 2 (by decide)).trans rfl
          refine fact_valueIn (fun f => hfn f) rfl (by intro c h; cases h) rfl rfl (v := .pointer (some ⟨pb, 0, none⟩)) (W' := W) ?_ (Below.refl _ _) rfl
          simp only [execOp]
          go_simp
        · obtain rfl : 13 = d := by simpa using hd
          have q12 : ac.tmps[12]?.getD undef = .pointer (some ⟨pb, 0, none⟩) := (eval_tmp _ _).symm.trans (hdep 4 12 rfl rfl)
          refine fact_valueIn (fun f => hfn f) rfl (by intro c h; cases h) rfl rfl (v := .pointer (some ⟨pb, 0, none⟩)) (W' := W) ?_ (Below.refl _ _) rfl
          simp only [execOp]
          go_simp
        · obtain rfl : 14 = d := by simpa using hd
          have q13 : ac.tmps[13]?.getD undef = .pointer (some ⟨pb, 0, none⟩) := (eval_tmp _ _).symm.trans (hdep 5 13 rfl rfl)
          refine fact_valueIn (fun f => hfn f) rfl (by intro c h; cases h) rfl rfl (v := .pointer (some ⟨pb, 0, none⟩)) (W' := W) ?_ (Below.refl _ _) rfl
          simp only [execOp]
          go_simp
        · obtain rfl : 15 = d := by simpa using hd
          have q14 : ac.tmps[14]?.getD undef = .pointer (some ⟨pb, 0, none⟩) := (eval_tmp _ _).symm.trans (hdep 6 14 rfl rfl)
          refine fact_valueIn (fun f => hfn f) rfl (by intro c h; cases h) rfl rfl (v := .pointer (some ⟨pb, 5, none⟩)) (W' := W) ?_ (Below.refl _ _) rfl
          simp only [execOp]
          go_simp
        · obtain rfl : 16 = d := by simpa using hd
          have q15 : ac.tmps[15]?.getD undef = .pointer (some ⟨pb, 5, none⟩) := (eval_tmp _ _).symm.trans (hdep 7 15 rfl rfl)
          refine fact_valueIn (fun f => hfn f) rfl (by intro c h; cases h) rfl rfl (v := .int .i64 M.wrong) (W' := W) ?_ (Below.refl _ _) rfl
          simp only [execOp]
          go_simp
        · obtain rfl : 17 = d := by simpa using hd
          have q11 : (ac.tmps[11]?.getD undef) = .int .i64 (WN : Nat) := eval_tmp ac _ ▸ hdep 3 11 rfl rfl
          have q16 : ac.tmps[16]?.getD undef = .int .i64 M.wrong := (eval_tmp _ _).symm.trans (hdep 8 16 rfl rfl)
          refine fact_valueIn (fun f => hfn f) rfl (by intro c h; cases h) rfl rfl (v := .bool false) (W' := W) ?_ (Below.refl _ _) rfl
          simp only [execOp]
          go_simp
        · obtain rfl : 18 = d := by simpa using hd
          have q17 : ac.tmps[17]?.getD undef = .bool false := (eval_tmp _ _).symm.trans (hdep 9 17 rfl rfl)
          refine fact_valueIn (fun f => hfn f) rfl (by intro c h; cases h) rfl rfl (v := .bool false) (W' := W) ?_ (Below.refl _ _) rfl
          simp only [execOp]
          go_simp
        · obtain rfl : 19 = d := by simpa using hd
          have q18 : ac.tmps[18]?.getD undef = .bool false := (eval_tmp _ _).symm.trans (hdep 10 18 rfl rfl)
          exact fact_offIn (fun f => hfn f) rfl (wants_off (t := 18) rfl rfl q18) rfl rfl
        · obtain rfl : 20 = d := by simpa using hd
          have q18 : ac.tmps[18]?.getD undef = .bool false := (eval_tmp _ _).symm.trans (hdep 10 18 rfl rfl)
          exact fact_offIn (fun f => hfn f) rfl (wants_off (t := 18) rfl rfl q18) rfl rfl
        · obtain rfl : 21 = d := by simpa using hd
          have q18 : ac.tmps[18]?.getD undef = .bool false := (eval_tmp _ _).symm.trans (hdep 10 18 rfl rfl)
          exact fact_offIn (fun f => hfn f) rfl (wants_off (t := 18) rfl rfl q18) rfl rfl
        · obtain rfl : 22 = d := by simpa using hd
          have q18 : ac.tmps[18]?.getD undef = .bool false := (eval_tmp _ _).symm.trans (hdep 10 18 rfl rfl)
          exact fact_offIn (fun f => hfn f) rfl (wants_off (t := 18) rfl rfl q18) rfl rfl
        · obtain rfl : 23 = d := by simpa using hd
          have q18 : ac.tmps[18]?.getD undef = .bool false := (eval_tmp _ _).symm.trans (hdep 10 18 rfl rfl)
          have q22 : ac.tmps[22]?.getD undef = undef := (eval_tmp _ _).symm.trans (hdep 14 22 rfl rfl)
          refine fact_valueIn (fun f => hfn f) rfl (by intro c h; cases h) rfl rfl (v := .bool false) (W' := W) ?_ (Below.refl _ _) rfl
          simp only [execOp]
          go_simp
      case rest =>
        intro vs W hvl hb hval
        obtain ⟨v0, v1, v2, v3, v4, v5, v6, v7, v8, v9, v10, v11, v12, v13, v14, v15, rfl⟩ : ∃ v0 v1 v2 v3 v4 v5 v6 v7 v8 v9 v10 v11 v12 v13 v14 v15, vs = [v0, v1, v2, v3, v4, v5, v6, v7, v8, v9, v10, v11, v12, v13, v14, v15] := by
          match vs, hvl with
          | [v0, v1, v2, v3, v4, v5, v6, v7, v8, v9, v10, v11, v12, v13, v14, v15], _ => exact ⟨v0, v1, v2, v3, v4, v5, v6, v7, v8, v9, v10, v11, v12, v13, v14, v15, rfl⟩
        obtain rfl : v0 = .pointer (some ⟨pb, 0, none⟩) := by obtain ⟨u, e, h⟩ := hval 0 (by omega); have e2 : some v0 = some u := e; injection e2 with e2; subst e2; exact h
        obtain rfl : v1 = .pointer (some ⟨GB, 0, none⟩) := by obtain ⟨u, e, h⟩ := hval 1 (by omega); have e2 : some v1 = some u := e; injection e2 with e2; subst e2; exact h
        obtain rfl : v2 = .agg #[.int .i64 x0, .int .i64 x1, .int .i64 x2, .int .i64 lk] := by obtain ⟨u, e, h⟩ := hval 2 (by omega); have e2 : some v2 = some u := e; injection e2 with e2; subst e2; exact h
        have k3 : v3 = .int .i64 (WN : Nat) := by obtain ⟨u, e, h⟩ := hval 3 (by omega); have e2 : some v3 = some u := e; injection e2 with e2; subst e2; exact h
        obtain rfl : v4 = .pointer (some ⟨pb, 0, none⟩) := by obtain ⟨u, e, h⟩ := hval 4 (by omega); have e2 : some v4 = some u := e; injection e2 with e2; subst e2; exact h
        obtain rfl : v5 = .pointer (some ⟨pb, 0, none⟩) := by obtain ⟨u, e, h⟩ := hval 5 (by omega); have e2 : some v5 = some u := e; injection e2 with e2; subst e2; exact h
        obtain rfl : v6 = .pointer (some ⟨pb, 0, none⟩) := by obtain ⟨u, e, h⟩ := hval 6 (by omega); have e2 : some v6 = some u := e; injection e2 with e2; subst e2; exact h
        obtain rfl : v7 = .pointer (some ⟨pb, 5, none⟩) := by obtain ⟨u, e, h⟩ := hval 7 (by omega); have e2 : some v7 = some u := e; injection e2 with e2; subst e2; exact h
        obtain rfl : v8 = .int .i64 M.wrong := by obtain ⟨u, e, h⟩ := hval 8 (by omega); have e2 : some v8 = some u := e; injection e2 with e2; subst e2; exact h
        obtain rfl : v9 = .bool false := by obtain ⟨u, e, h⟩ := hval 9 (by omega); have e2 : some v9 = some u := e; injection e2 with e2; subst e2; exact h
        obtain rfl : v10 = .bool false := by obtain ⟨u, e, h⟩ := hval 10 (by omega); have e2 : some v10 = some u := e; injection e2 with e2; subst e2; exact h
        obtain rfl : v11 = undef := by obtain ⟨u, e, h⟩ := hval 11 (by omega); have e2 : some v11 = some u := e; injection e2 with e2; subst e2; exact h
        obtain rfl : v12 = undef := by obtain ⟨u, e, h⟩ := hval 12 (by omega); have e2 : some v12 = some u := e; injection e2 with e2; subst e2; exact h
        obtain rfl : v13 = undef := by obtain ⟨u, e, h⟩ := hval 13 (by omega); have e2 : some v13 = some u := e; injection e2 with e2; subst e2; exact h
        obtain rfl : v14 = undef := by obtain ⟨u, e, h⟩ := hval 14 (by omega); have e2 : some v14 = some u := e; injection e2 with e2; subst e2; exact h
        obtain rfl : v15 = .bool false := by obtain ⟨u, e, h⟩ := hval 15 (by omega); have e2 : some v15 = some u := e; injection e2 with e2; subst e2; exact h
        clear hval hvl
        simp only [putL, Act.put, List.setIfInBounds_toArray, List.set_cons_zero, List.set_cons_succ]
        have HBQ := Lib.hid hb
        clear hb k3
        refine wpAnyIn_done (by kernel_rfl) ?_ _
        gi_wp2_with fail
        exact ⟨KeptBut.of_below HBQ.out, by (show J ((pre ++ [x]).filter (tP M lev)) W); rw [filter_snoc_no (p := tP M lev) (show tP M lev x = false by rw [HTP.out]; exact hpt)]; exact HJ.out _ _ _ HI.out (KeptBut.of_below HBQ.out)⟩
  case done =>
    rintro D W hD hkb hI hK
    have hko := HLAST.out (W.putObj D (.deferred none)) (kept_put hkb (.deferred none) (by rw [hD]; exact Nat.le_refl _))
    gi_wp2
    refine ⟨by simp, .inl ⟨_, _, rfl, run_takeDeferred hK, ?_⟩⟩
    have hjU := HJ.out _ W (W.putObj D (.deferred none)) hI (KeptBut.putObj _ _ _ (.inl (by rw [hD, HS0.out])))
    exact ⟨_, results_none rfl _ _ _, ⟨_, rfl⟩, hko, .inl hjU⟩
  case stop =>
    rintro D d pre W hD hkb hpre ⟨rfl, hI⟩ hK
    have hko := HLAST.out (W.putObj D (.deferred none)) (kept_put hkb (.deferred none) (by rw [hD]; exact Nat.le_refl _))
    gi_wp2
    refine ⟨by simp, .inl ⟨_, _, rfl, run_takeDeferred hK, ?_⟩⟩
    have hjU := HJX.out _ W (W.putObj D (.deferred none)) hI (KeptBut.putObj _ _ _ (.inl (by rw [hD, HS0.out])))
    exact ⟨_, results_none rfl _ _ _, ⟨_, rfl⟩, hko, .inr ⟨_, filter_prefix _ hpre, hjU⟩⟩
end Go.Proofs.Ytomcjopcfdllgaa
