/-
  Links: the iterator 'pasts': a past for each choice of the ends that are not known, all of them in the same memory.
-/
import Derived.Test.YtgjikoebneiamaaLFollow
namespace Go.Proofs.Ytgjikoebneiamaa
open Go.RowKit Go.Shelf

attribute [local go_sem] Oper.semAt_some

theorem inF {F : Fence} (hF : Hid (F = Fence.wide)) {n : Nat} {P : Program} {f : FuncId} {args : Array Value} {w : World} {R : Ending → World → Prop} (h : Calls P f args w R) : CallsIn F n P f args w R := by
  have := hF.out
  subst this
  exact callsIn_wide.2 h
theorem room_free {F : Fence} (hd : F.depth = none) (k : Nat) : F.room k := fun d h => by rw [hd] at h; cases h
theorem round_free {F : Fence} (hd : F.depth = none) {m m' : Nat} {P : Program} {l : Nat} {f : FuncId} {tmps : Array Value} {assign body : Code} {w : World} {R : Ending → World → Prop}
    (h : RoundIn F m P l f tmps assign body w R) : RoundIn F m' P l f tmps assign body w R := ⟨h.1, fun c cs _ => h.2 c cs (room_free hd _)⟩
theorem yield_free {F : Fence} (hd : F.depth = none) {m : Nat} (m' : Nat) {P : Program} {l : Nat} {args : Array Value} {W : World} {R : Ending → World → Prop} (h : YieldAt F m P l args W R) : YieldAt F m' P l args W R := by
  obtain ⟨fn, tmps, assign, body, hy, hR⟩ := h
  exact ⟨fn, tmps, assign, body, hy, round_free hd hR⟩

/-- How many of the first k ends are not known. -/
def unkTo (ds : List Deed) : Nat → Nat
  | 0 => 0
  | k + 1 => unkTo ds k + (if (dnth ds k).from_ = 2 then 1 else 0)
theorem unkTo_le (ds : List Deed) : ∀ k, unkTo ds k ≤ k
  | 0 => Nat.le_refl _
  | k + 1 => by have := unkTo_le ds k; simp only [unkTo]; split <;> omega
theorem unkTo_cons (d : Deed) (ds : List Deed) : ∀ k, unkTo (d :: ds) (k + 1) = unkTo ds k + (if d.from_ = 2 then 1 else 0)
  | 0 => rfl
  | k + 1 => by
    show unkTo (d :: ds) (k + 1) + (if (dnth (d :: ds) (k + 1)).from_ = 2 then 1 else 0) = _
    rw [unkTo_cons d ds k, dnth_cons]; simp only [unkTo]; omega
theorem unkTo_len : ∀ ds : List Deed, unkTo ds ds.length = unk ds
  | [] => rfl
  | d :: ds => by rw [List.length_cons, unkTo_cons, unkTo_len ds]; rfl
/-- How many choices of the first k ends there are. -/
def choN (ds : List Deed) : Nat → Nat
  | 0 => 1
  | k + 1 => if (dnth ds k).from_ = 2 then choN ds k * 2 else choN ds k
theorem choN_eq (ds : List Deed) : ∀ k, choN ds k = 2 ^ unkTo ds k
  | 0 => rfl
  | k + 1 => by simp only [choN, unkTo, choN_eq ds k]; split <;> simp [Nat.pow_succ]
theorem choN_le (ds : List Deed) {k : Nat} (hk : k ≤ 12) : choN ds k ≤ 4096 := by
  rw [choN_eq]
  exact Nat.le_trans (Nat.pow_le_pow_right (by omega) (show unkTo ds k ≤ 12 by have := unkTo_le ds k; omega)) (by decide)
theorem pastsL_eq (ds : List Deed) : pastsL ds = (List.range (choN ds ds.length)).map (endsOf ds) := by rw [pastsL, choN_eq, unkTo_len]
def pastsTo (ds : List Deed) (k : Nat) : List (List Int) := (List.range k).map (endsOf ds)
theorem pastsTo_succ (ds : List Deed) (k : Nat) : pastsTo ds (k + 1) = pastsTo ds k ++ [endsOf ds k] := by simp [pastsTo, List.range_succ]
theorem pastsTo_prefix (ds : List Deed) {k m : Nat} (h : k ≤ m) : pastsTo ds k <+: pastsTo ds m := by
  obtain ⟨d, rfl⟩ := Nat.exists_eq_add_of_le h
  rw [pastsTo, pastsTo, List.range_add, List.map_append]
  exact List.prefix_append _ _

set_option maxRecDepth 100000 in
set_option maxHeartbeats 4000000 in
theorem pasts_seq (F : Fence) (hF : Hid (F = Fence.wide)) (hd : F.depth = none) (hro : F.round = none) (hfn : ∀ f, F.fn f) (n : Nat) (bv : Value) (C : Chain) (hV : Valid C) (B : Nat) (w0 : World) (hx : BookAt B w0 bv C) (hB : B ≤ w0.heap.size)
    (ok : Nat → Prop) (hok : ∀ k, ok k → k < B) (hst : ∀ A A' : World, B ≤ A.heap.size → BookAt B A bv C → KeptBut (fun k => ¬ ok k) A A' → BookAt B A' bv C) :
    SeqY F n Try.prog 72 #[bv] #[] [C.deeds.length + 1, C.deeds.length + 2] (C.deeds.length + 3) (fun b _ => pastV C.deeds.length (b + C.deeds.length + 1)) (fun b x W => PastTo C.deeds.length (b + C.deeds.length + 1) (b + C.deeds.length + 2) (story C.deeds x) C.deeds.length W)
      (pastsL C.deeds) ok w0 := by
  intro l own J Jx W hb hown hJ hJx hY h0
  have hBW : B ≤ W.heap.size := Nat.le_trans hB hb.size
  have hx1 : BookAt B W bv C := hx.below (hb.mono hB)
  have hY1 : ∀ m pre x W1, pre ++ [x] <+: pastsL C.deeds → J pre W1 → PastTo C.deeds.length (W.heap.size + C.deeds.length + 1) (W.heap.size + C.deeds.length + 2) (story C.deeds x) C.deeds.length W1 →
      YieldAt F m Try.prog l #[pastV C.deeds.length (W.heap.size + C.deeds.length + 1)] W1 fun e W' =>
        (e = .returned (.bool true) ∧ J (pre ++ [x]) W' ∧ KeptBut own W1 W') ∨ (e = .returned (.bool false) ∧ Jx (pre ++ [x]) W' ∧ KeptBut own W1 W') := fun m pre x W1 h1 h2 h3 =>
    yield_free hd m (hY pre x W1 h1 h2 (fun c hc => by
      have := h3.ltp; have := h3.ltm
      rcases List.mem_cons.1 hc with rfl | hc
      · omega
      · rcases List.mem_cons.1 hc with rfl | hc
        · omega
        · cases hc) h3)
  have HY := Lib.hid hY1
  have HJ := Lib.hid (fun s A A' (h : J s A) (hk : KeptBut (fun j => j = W.heap.size + C.deeds.length + 1 ∨ j = W.heap.size + C.deeds.length + 2) A A') => hJ s A A' h (hk.mono (fun j _ h => by
    rcases h with rfl | rfl
    · exact ⟨_, List.mem_cons_self, by omega⟩
    · exact ⟨_, List.mem_cons_of_mem _ List.mem_cons_self, by omega⟩)))
  have HJX := Lib.hid (fun s A A' (h : Jx s A) (hk : KeptBut (fun j => j = W.heap.size + C.deeds.length + 1 ∨ j = W.heap.size + C.deeds.length + 2) A A') => hJx s A A' h (hk.mono (fun j _ h => by
    rcases h with rfl | rfl
    · exact ⟨_, List.mem_cons_self, by omega⟩
    · exact ⟨_, List.mem_cons_of_mem _ List.mem_cons_self, by omega⟩)))
  have HX := Lib.hid hx1
  have HST := Lib.hid hst
  have HOK := Lib.hid hok
  have H0 := Lib.hid h0
  have HOWN := Lib.hid hown
  have hnd := hV.nd
  have HV := Lib.hid hV
  obtain ⟨dv, sv, mv, rfl, hC, hM⟩ := hx1
  obtain ⟨a, cap, b, off, a2, cap2, b2, off2, hv, hm, hm2, hcap, hcapm, HA, HC, HA2, HC2, HI, HI2⟩ := hC.opened
  cases hv
  clear hx hb hY hY1 hJ hJx h0 hC hM HA2 HC2 HI2 hown hV HI hst hok
  show CallsIn F n Try.prog 72 #[.agg #[.slice a C.deeds.length cap, .slice a2 C.sights.length cap2, .int .i64 C.wrong, mv], .func (.yield l) #[] #[]] W _
  refine callsIn_of_wp Try.func72 rfl (hfn _) ?_ hro
  simp only [Try.ntmps72, List.size_toArray, List.length_cons, List.length_nil, Nat.reduceAdd, Nat.reduceSub, Array.replicate_succ, Array.replicate_zero, List.push_toArray, List.append_toArray, List.nil_append, List.cons_append]
  gi_wp2
  gi_loopw [4, 13] (fun c i wr => ∃ k : Nat, k ≤ C.deeds.length ∧ i = .int .i64 k ∧ c = .int .i64 (choN C.deeds k) ∧ Below (W.heap.size + 1) (W.alloc (.cells #[.slice a C.deeds.length cap, .slice a2 C.sights.length cap2, .int .i64 C.wrong, mv] 84)) wr ∧ wr.heap.size = W.heap.size + 1 + k) (fun _ i _ => C.deeds.length - (intOf i).toNat)
  case atStart => exact ⟨0, Nat.zero_le _, rfl, rfl, Below.refl _ _, by simp⟩
  case round =>
    obtain ⟨k, hk, rfl, rfl, hbl, hsz⟩ := hrel
    have hbox := (hbl.block W.heap.size (by omega)).trans (heap_new W _)
    obtain ⟨c0, c1, c2, c3⟩ := box4' hbox
    have hpw : choN C.deeds k ≤ 4096 := choN_le _ (by omega)
    have hw := boxed hbl
    by_cases hlt : k < C.deeds.length
    · obtain ⟨rfl, hbB⟩ := HA.out (by omega)
      obtain ⟨d0, d1, d2, d3, d4⟩ := (HC.out k hlt).below (hw.mono hBW) hbB
      have HBL := Lib.hid hbl
      clear hbl hbox
      by_cases hf : (dnth C.deeds k).from_ = 2
      · gi_wp2
        exact ⟨⟨k + 1, by omega, by go_num, by simp only [choN, if_pos hf]; go_num, HBL.out.trans (by go_grown), by simp; omega⟩, by simp [intOf]; omega⟩
      · gi_wp2
        exact ⟨⟨k + 1, by omega, by go_num, by simp only [choN, if_neg hf], HBL.out.trans (by go_grown), by simp; omega⟩, by simp [intOf]; omega⟩
    · obtain rfl : C.deeds.length = k := by omega
      have hnp := fun n => inF hF (n := n) (newPast_any C.deeds.length wr hnd)
      have HNP := Lib.hid hnp
      have HW := Lib.hid hw
      clear hnp hw hbl
      gi_wp2_with fail
      refine (HNP.out _).mono ?_
      rintro e w1 ⟨rfl, hb1, hs1, hp1⟩
      rw [hsz] at hp1 hb1 hs1
      have hBp : W.heap.size + 1 + C.deeds.length = W.heap.size + C.deeds.length + 1 := by omega
      rw [hsz]
      have hB1 : Below W.heap.size W w1 := HW.out.trans (hb1.mono (by omega))
      have hbox1 := (hb1.block W.heap.size (by omega)).trans hbox
      rw [hBp] at hp1 ⊢
      have HP1 := Lib.hid hp1
      have HB1 := Lib.hid hB1
      have HBX1 := Lib.hid hbox1
      clear HNP HW hb1 hp1 hB1 hbox1 hBp hbox
      gi_wp2_with fail
      have hN := choN_le C.deeds hnd
      have hj1 := HJ.out _ _ _ H0.out (KeptBut.of_below HB1.out)
      have HJ1 := Lib.hid hj1
      have hltW := heap_lt HBX1.out
      clear hj1 H0 c0 c1 c2 c3 hsz hk hs1
      gi_loopw [29] (fun i wr => ∃ k : Nat, k ≤ choN C.deeds C.deeds.length ∧ i = .int .i64 k ∧ Hid (J (pastsTo C.deeds k) wr) ∧
        Hid (∃ cab0, PastTo C.deeds.length (W.heap.size + C.deeds.length + 1) (W.heap.size + C.deeds.length + 2) cab0 C.deeds.length wr ∧ cab0 0 = []) ∧
        Hid (KeptBut (fun j => own j ∨ j = W.heap.size + C.deeds.length + 1 ∨ j = W.heap.size + C.deeds.length + 2) w1 wr)) (fun i _ => choN C.deeds C.deeds.length - (intOf i).toNat)
      case atStart => exact ⟨0, Nat.zero_le _, rfl, HJ1.out, ⟨_, by have := HP1.out; rwa [show W.heap.size + C.deeds.length + 1 + 1 = W.heap.size + C.deeds.length + 2 by omega] at this, rfl⟩, KeptBut.refl _ _⟩
      case round =>
        clear HJ1 HP1
        obtain ⟨k, hk, rfl, hj, hp, hkb⟩ := hrel
        have hbx := (hkb.out.block W.heap.size hltW (by
          rintro (h | h | h)
          · have := (HOWN.out _ h).1; omega
          · omega
          · omega)).trans HBX1.out
        obtain ⟨c0, c1, c2, c3⟩ := box4' hbx
        have hkW : KeptBut (fun j => own j ∨ j = W.heap.size + C.deeds.length + 1 ∨ j = W.heap.size + C.deeds.length + 2) W wr := (KeptBut.of_below HB1.out).trans hkb.out
        have hbB := HST.out _ _ hBW HX.out (hkW.mono (fun j _ h => by
          rcases h with h | h | h
          · exact (HOWN.out _ h).2
          · exact fun h' => by have := HOK.out _ h'; omega
          · exact fun h' => by have := HOK.out _ h'; omega))
        have hszr := hkW.size
        have HBX := Lib.hid hbx
        have HKW := Lib.hid hkW
        have HXR := Lib.hid hbB
        clear hbx hkW hbB
        by_cases hlt : k < choN C.deeds C.deeds.length
        · obtain ⟨cab0, hp0, h00⟩ := hp.out
          have hfol := fun m => inF hF (n := m) (follow_any _ C HV.out (W.heap.size + C.deeds.length + 1) (W.heap.size + C.deeds.length + 2) k cab0 wr HXR.out (by omega) (by omega) (by omega) (by omega) hp0 h00)
          have HFOL := Lib.hid hfol
          clear hfol hp0 h00
          gi_wp2_with fail
          refine (HFOL.out _).mono ?_
          rintro e w2 ⟨rfl, hk2, hp2⟩
          have hj2 := HJ.out _ _ _ hj.out hk2
          obtain ⟨fn, tmps, assign, body, hyy, hR⟩ := HY.out (n - 1) (pastsTo C.deeds k) (endsOf C.deeds k) w2 (by rw [← pastsTo_succ, pastsL_eq]; exact pastsTo_prefix C.deeds hlt) hj2 hp2
          have HP2 := Lib.hid hp2
          have HK2 := Lib.hid hk2
          have HR := Lib.hid hR
          clear HFOL hj2 hp2 hk2 hR
          gi_wp2_with fail
          refine HR.out.mono ?_
          rintro e w3 (⟨rfl, h1, h2⟩ | ⟨rfl, h1, h2⟩)
          · have hp3 := HP2.out.kept h2 (fun h => by have := (HOWN.out _ h).1; omega) (fun h => by have := (HOWN.out _ h).1; omega)
            have hk3 := (hkb.out.trans (HK2.out.mono (own' := fun j => own j ∨ j = W.heap.size + C.deeds.length + 1 ∨ j = W.heap.size + C.deeds.length + 2) (fun _ _ h => .inr h))).trans (h2.mono (fun _ _ h => .inl h))
            rw [← pastsTo_succ] at h1
            have H1 := Lib.hid h1
            have H3 := Lib.hid hp3
            have HK3 := Lib.hid hk3
            clear h1 h2 hp3 hk3
            gi_wp2_with fail
            exact ⟨⟨k + 1, by omega, by go_num, H1, ⟨_, H3.out, rfl⟩, HK3⟩, by simp [intOf]; omega⟩
          · have hk3 := ((HKW.out.trans (HK2.out.mono (own' := fun j => own j ∨ j = W.heap.size + C.deeds.length + 1 ∨ j = W.heap.size + C.deeds.length + 2) (fun _ _ h => .inr h))).trans (h2.mono (fun _ _ h => .inl h)))
            have hko : KeptBut own W w3 := ⟨hk3.os, hk3.tape, hk3.output, hk3.size, fun j hj ho => hk3.block j hj (by
              rintro (h | h | h)
              · exact ho h
              · omega
              · omega)⟩
            rw [← pastsTo_succ] at h1
            have H1 := Lib.hid h1
            have HKO := Lib.hid hko
            clear h1 h2 hk3 hko
            gi_wp2_with fail
            refine bodyPost_ret (results_none rfl _ _ _) rfl ?_
            exact ⟨⟨_, rfl⟩, HKO.out, .inr ⟨_, by rw [pastsL_eq]; exact pastsTo_prefix C.deeds (k := k + 1) hlt, H1.out⟩⟩
        · obtain rfl : choN C.deeds C.deeds.length = k := by omega
          gi_wp2_with fail
          go_end0
          refine ⟨⟨_, rfl⟩, ⟨HKW.out.os, HKW.out.tape, HKW.out.output, HKW.out.size, fun j hj ho => HKW.out.block j hj (by
              rintro (h | h | h)
              · exact ho h
              · omega
              · omega)⟩, .inl (by rw [pastsL_eq]; exact hj.out)⟩

end Go.Proofs.Ytgjikoebneiamaa
