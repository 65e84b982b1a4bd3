/-
  Walks: the reference's list of all sawings that fit.
-/
import Derived.Test.YtjflpmhlodgadaaAll
import Derived.Test.YtjflpmhlodgadaaBase
import Derived.Test.YtjflpmhlodgadaaEdit
namespace Go.Proofs.Ytjflpmhlodgadaa
open Go.RowKit

attribute [local go_sem ↓] Go.wp_at_zero Go.wp_at_succ

theorem Try_infoInts : (Try.prog.info? 26).map (fun i => (i.zero, i.size, i.bytes)) = some (some (.slice none 0 0), 1, 24) := by kernel_rfl

/-- A list of rows in memory of the call's own. -/
def GaveLists (xs : List (List Int)) (w : World) (e : Ending) (w' : World) : Prop := ∃ u, e = .returned u ∧ ListsAt w' w.heap.size u xs ∧ Below w.heap.size w w'

theorem allL_no {S : Store} {m : Nat} {first : List Int} (h : fitsB S first = false) : allL S m first = [] := by
  cases m <;> simp [allL, h]
theorem okBars_i64 {S : Store} (hV : Valid S) {x : List Int} (h : OkBars S x) : ∀ y ∈ x, I64 y := h.i64 hV
theorem own_ints {w : World} {base : Nat} {v : Value} {xs : List Int} (h : w.ownsRow base 3 1 v xs.length (xs.map (Value.int .i64))) (hw : ∀ x ∈ xs, I64 x) : IntsAt w.heap.size w v xs := ints_of_own h hw

theorem allL_len {S : Store} (hV : Valid S) : ∀ (m : Nat) (first : List Int), (allL S m first).length ≤ 6 ^ m
  | 0, first => by simp only [allL]; split <;> simp
  | m + 1, first => by
    simp only [allL]
    split
    · refine Nat.le_trans (flatTo_length _ (6 ^ m) (fun k => allL_len hV m _) _) ?_
      rw [Nat.pow_succ, Nat.mul_comm]
      exact Nat.mul_le_mul_left _ hV.nb
    · simp
theorem from_own {w : World} {base : Nat} {e : TypeId} {size n c : Nat} {A : Option Addr} {xs : List Value} (h : w.ownsRow base e size (.slice A n c) n xs) : CellsFrom w A n size xs := by
  refine ⟨h.1, fun hn => ?_⟩
  rcases h.2 with ⟨_, h0⟩ | ⟨g, cap, cur, hv, _, _, _, _, _, _⟩
  · omega
  · injection hv with h1 _ _
    subst h1
    exact ⟨_, rfl, h.cells (g := g) rfl⟩
theorem below_grown {w W w' : World} {row : Option Nat} (hb : Below w.heap.size w W) (hg : W.grownBy w' row) (hr : ∀ b, row = some b → w.heap.size ≤ b) : Below w.heap.size w w' :=
  hb.grown hg hb.size hr
theorem lists_one {xs : List (List Int)} {ws : List Value} {w : World} (h1 : ws.length = xs.length) (h3 : ∀ i, i < xs.length → ∃ v, ws[i]? = some v ∧ w.ownsRow 0 3 1 v (xnth xs i).length ((xnth xs i).map (Value.int .i64))) : ∀ u ∈ ws, u.oneCell' = true := fun u hu => by
  obtain ⟨i, hi, rfl⟩ := List.getElem_of_mem hu
  obtain ⟨v, h4, h5⟩ := h3 i (by omega)
  rw [List.getElem?_eq_getElem hi] at h4
  injection h4 with h4
  rw [h4]
  exact own_one h5
theorem stat_grown {w W W' : World} {b : Nat} {v0 v1 v2 v3 : Value} {S : Store} {row : Option Nat} (h : Stat w W b v0 v1 v2 v3 S) (hx : StoreAt w.heap.size w (.agg #[v0, v1, v2, v3]) S) (hg : W.grownBy W' row) (hr : ∀ j, row = some j → w.heap.size ≤ j) (hn : row ≠ some b) : Stat w W' b v0 v1 v2 v3 S :=
  have hb : Below w.heap.size w W' := h.b.grown hg h.b.size hr
  ⟨(hg.block b h.lt (Ne.symm hn)).trans h.blk, (hx.below hb).mono hb.size, hb⟩
theorem one_at {w : World} {b : Nat} {x : Value} (h : w.cell? ⟨b, 0, none⟩ = some x) : ∀ j u, [x][j]? = some u → w.cell? ((⟨b, 0, none⟩ : Addr).add j) = some u := by
  intro j u hj
  match j, hj with
  | 0, hj =>
    simp only [List.getElem?_cons_zero, Option.some.injEq] at hj
    subst hj
    simpa [Addr.add] using h
/-- The row of one bar more. -/
theorem snoc_own {w : World} {base c : Nat} {A : Option Addr} {first : List Int} {k : Nat} (h : w.ownsRow base 3 1 (.slice A (first.length + 1) c) (first.length + 1) (first.map (Value.int .i64) ++ [.int .i64 (k : Int)])) :
    w.ownsRow 0 3 1 (.slice A (first.length + 1) c) (first ++ [(k : Int)]).length ((first ++ [(k : Int)]).map (Value.int .i64)) := by
  simp only [List.length_append, List.length_cons, List.length_nil, List.map_append, List.map_cons, List.map_nil]
  exact own_base h (Nat.zero_le _)

set_option maxRecDepth 100000 in
set_option maxHeartbeats 16000000 in
theorem all_any {S : Store} (hV : Valid S) : ∀ (m : Nat) (first : List Int), first.length + m = S.pieces.length → OkBars S first → ∀ (v lv : Value) (w : World), StoreAt w.heap.size w v S →
    w.ownsRow 0 3 1 lv first.length (first.map (Value.int .i64)) → Calls Try.prog 74 #[v, lv] w (GaveLists (allL S m first) w) := by
  intro m
  induction m with
  | zero =>
    intro first hl hO v lv w hx hown
    obtain ⟨a, cap1, b1, off, a2, cap2, b2, off2, rfl, hm, hm2, HA, HC, HA2, HC2⟩ := hx.opened
    obtain ⟨fA, fcap, rfl, _⟩ := own_form hown
    have hs := Stat.first hx
    obtain ⟨c0, c1, c2, c3⟩ := box4_of hs.blk
    have HS0 := Lib.hid hs
    have HFI := Lib.hid (own_ints hown (okBars_i64 hV hO))
    have HOWN := Lib.hid hown
    have HV := Lib.hid hV
    have HO := Lib.hid hO
    have e1 : ((first.length : Int) == (S.pieces.length : Int)) = true := by simp; omega
    have e2 : first.length = S.pieces.length := by omega
    have E2 := Lib.hid e2
    clear hs hx hown hO hl HA HC HA2 HC2 e2
    cases hf : fitsB S first
    case false =>
      have HF := Lib.hid hf
      clear hf
      go_enter Try.func74, Try.ntmps74
      go_wp2_with fail
      refine (rfits_to HF.out HV.out HS0.out.st (Nat.le_refl _) ((HFI.out.below HS0.out.b).mono HS0.out.b.size) HO.out.1).mono ?_
      rintro e w1 ⟨rfl, hb⟩
      have HB := Lib.hid (HS0.out.next hb).b
      clear hb
      go_wp2
      go_ret
      exact ⟨_, rfl, by rw [allL_no HF.out]; exact ListsAt.nil _ _, HB.out⟩
    case true =>
      have HF := Lib.hid hf
      clear hf
      go_enter Try.func74, Try.ntmps74
      go_wp2_with fail
      refine (rfits_to HF.out HV.out HS0.out.st (Nat.le_refl _) ((HFI.out.below HS0.out.b).mono HS0.out.b.size) HO.out.1).mono ?_
      rintro e w1 ⟨rfl, hb⟩
      have hs := HS0.out.next hb
      clear hb c0 c1 c2 c3
      obtain ⟨c0, c1, c2, c3⟩ := box4_of hs.blk
      have HS1 := Lib.hid hs
      clear hs
      go_wp2
      go_ret
      have hal : allL S 0 first = [first] := by simp only [allL]; rw [if_pos HF.out]
      refine ⟨_, rfl, ?_, HS1.out.b.alloc HS1.out.b.size _⟩
      rw [hal]
      refine ⟨[_], rfl, World.ownsRow_lit w1 #[_] 1 HS1.out.b.size (by unfold maxLen; omega) rfl, fun i hi => ?_⟩
      obtain rfl : i = 0 := by simpa using hi
      exact ⟨_, rfl, (own_below HOWN.out HS1.out.b).alloc _⟩
  | succ m ih =>
    intro first hl hO v lv w hx hown
    obtain ⟨a, cap1, b1, off, a2, cap2, b2, off2, rfl, hm, hm2, HA, HC, HA2, HC2⟩ := hx.opened
    obtain ⟨fA, fcap, rfl, _⟩ := own_form hown
    have hs := Stat.first hx
    obtain ⟨c0, c1, c2, c3⟩ := box4_of hs.blk
    have HS0 := Lib.hid hs
    have HX := Lib.hid hx
    have HFI := Lib.hid (own_ints hown (okBars_i64 hV hO))
    have HOWN := Lib.hid hown
    have HIH := Lib.hid ih
    have HV := Lib.hid hV
    have HO := Lib.hid hO
    have HL := Lib.hid hl
    have hnp := hV.np
    have hnb := hV.nb
    obtain ⟨i0, hi, hz0, hz1, hz2⟩ := info_parts Try_infoInt
    obtain ⟨iI, hiI, hzI0, hzI1, hzI2⟩ := info_parts Try_infoInts
    have hfl : first.length < S.pieces.length := by omega
    have e1 : ((first.length : Int) == (S.pieces.length : Int)) = false := by simp; omega
    clear hs hx hown ih hO hl HA HC HA2 HC2
    cases hf : fitsB S first
    case false =>
      have HF := Lib.hid hf
      clear hf
      go_enter Try.func74, Try.ntmps74
      go_wp2_with fail
      refine (rfits_to HF.out HV.out HS0.out.st (Nat.le_refl _) ((HFI.out.below HS0.out.b).mono HS0.out.b.size) HO.out.1).mono ?_
      rintro e w1 ⟨rfl, hb⟩
      have HB := Lib.hid (HS0.out.next hb).b
      clear hb
      go_wp2
      go_ret
      exact ⟨_, rfl, by rw [allL_no HF.out]; exact ListsAt.nil _ _, HB.out⟩
    case true =>
      have HF := Lib.hid hf
      clear hf
      go_enter Try.func74, Try.ntmps74
      go_wp2_with fail
      refine (rfits_to HF.out HV.out HS0.out.st (Nat.le_refl _) ((HFI.out.below HS0.out.b).mono HS0.out.b.size) HO.out.1).mono ?_
      rintro e w1 ⟨rfl, hb⟩
      have hs := HS0.out.next hb
      clear hb c0 c1 c2 c3
      obtain ⟨c0, c1, c2, c3⟩ := box4_of hs.blk
      have HS1 := Lib.hid hs
      clear hs
      go_wp2
      go_loopw [5, 6] (fun out i wr => ∃ k : Nat, k ≤ S.bars.length ∧ i = .int .i64 k ∧ Hid (ListsAt wr w.heap.size out (flatTo (fun b => allL S m (first ++ [(b : Int)])) k)) ∧ Hid (Stat w wr w.heap.size (.slice a S.bars.length cap1) (.int .i64 S.kerf) (.slice a2 S.pieces.length cap2) (.int .i64 S.wrong) S)) (fun _ i _ => S.bars.length - (intOf i).toNat)
      case atStart => exact ⟨0, Nat.zero_le _, rfl, ListsAt.nil _ _, HS1.out⟩
      case round =>
        obtain ⟨k, hk, rfl, hlists, hst⟩ := hrel
        clear c0 c1 c2 c3
        obtain ⟨c0, c1, c2, c3⟩ := box4_of hst.out.blk
        obtain ⟨vs, l1, l2, l3⟩ := hlists.out
        obtain ⟨oA, ocap, rfl, _⟩ := own_form l2
        have L1 := Lib.hid l1
        have L2 := Lib.hid l2
        have L3 := Lib.hid l3
        have hwr := hst.out.lt
        clear l1 l2 l3
        by_cases hlt : k < S.bars.length
        · have hfk := flatTo_length (fun b => allL S m (first ++ [(b : Int)])) (6 ^ m) (fun k => allL_len HV.out m _) k
          have hak := allL_len HV.out m (first ++ [(k : Int)])
          have h6 : 6 ^ m ≤ 279936 := Nat.pow_le_pow_right (n := 6) (by omega) (show m ≤ 7 by have := HL.out; omega)
          have h6k : k * 6 ^ m ≤ 6 * 279936 := Nat.mul_le_mul (by omega) h6
          have HFW := Lib.hid (((HFI.out.below hst.out.b).mono hst.out.b.size))
          have HMADE := Lib.hid (show ((wr.alloc (.cells #[.int .i64 (k : Int)] 3)).alloc (.cells #[] 3)).drew.ownsRow wr.heap.size 3 1 (.slice (some ⟨wr.heap.size + 1, 0, none⟩) 0 0) 0 [] from by
            have h := World.ownsRow_made (base := wr.heap.size) (e := 3) (size := 1) (wr.alloc (.cells #[.int .i64 (k : Int)] 3)) #[] 0 (by simp) (by unfold maxLen; omega) rfl
            rw [World.size_alloc] at h
            exact h)
          have CB := Lib.hid (show ((wr.alloc (.cells #[] 3)).alloc (.cells #[.int .i64 (k : Int)] 3)).drew.cell? ⟨wr.heap.size + 1, 0, none⟩ = some (.int .i64 (k : Int)) from by
            have h := cells_of (i := 0) (heap_new (wr.alloc (.cells #[] 3)) (.cells #[.int .i64 (k : Int)] 3)) rfl
            rw [World.size_alloc] at h
            exact h)
          have CC := Lib.hid (show ((wr.alloc (.cells #[.int .i64 (k : Int)] 3)).alloc (.cells #[] 3)).drew.cell? ⟨wr.heap.size, 0, none⟩ = some (.int .i64 (k : Int)) from
            cell_alloc (cells_of (i := 0) (heap_new wr (.cells #[.int .i64 (k : Int)] 3)) rfl) (by simp))
          go_wp2_with fail
          go_region_held3 (fun w' => w'.cell? ⟨w.heap.size, 0, none⟩ = some (.slice a S.bars.length cap1) ∧ w'.cell? ⟨w.heap.size, 1, none⟩ = some (.int .i64 S.kerf) ∧ w'.cell? ⟨w.heap.size, 2, none⟩ = some (.slice a2 S.pieces.length cap2) ∧ w'.cell? ⟨w.heap.size, 3, none⟩ = some (.int .i64 S.wrong))
            (first
              | exact box4_of hst.out.blk
              | exact box4_of (hst.out.alloc _).blk
              | exact box4_of ((hst.out.alloc _).alloc _).blk
              | exact box4_of st2.blk
              | exact box4_of (st2.alloc _).blk
              | exact box4_of st3.blk
              | exact box4_of st4.blk
              | exact box4_of st5.blk)
            (first
              | ((refine step_onto (base := wr.heap.size) (v := .slice (some ⟨wr.heap.size, 0, none⟩) 0 0) (n := 0) (xs := []) (A := fA) (m := first.length) (c := fcap) (news := first.map (Value.int .i64)) (by rfl) (.tmp 28) (.tmp 29) (by rfl) Try.underlying26 hi hz0 hz1 hz2 rfl (by decide) (by rfl) (World.ownsRow_made wr #[] 0 (Nat.le_refl _) (by unfold maxLen; omega) rfl) (by rfl) (from_ints (HFW.out.below (((Below.refl _ wr).alloc (Nat.le_refl _) _).drew))) (map_one _) (by unfold maxLen; omega) (by omega) (by simp <;> omega) ?_; intro hA hcap w2 hown2 hgrow2 hat2; rw [Nat.zero_add, List.nil_append] at hown2; have hb2 := below_grown (w := wr) (((Below.refl _ wr).alloc (Nat.le_refl _) _).drew) hgrow2 (by intro b e; simp [Value.ownBlock] at e; omega); have st2 := hst.out.next hb2; have hz2w := hb2.size; simp only [Nat.zero_add]))
              | ((refine step_onto (base := wr.heap.size) (v := .slice (some ⟨wr.heap.size, 0, none⟩) 0 0) (n := 0) (xs := []) (A := fA) (m := first.length) (c := fcap) (news := first.map (Value.int .i64)) (by rfl) (.tmp 28) (.tmp 29) (by rfl) Try.underlying26 hi hz0 hz1 hz2 rfl (by decide) (by rfl) ((World.ownsRow_made wr #[] 0 (Nat.le_refl _) (by unfold maxLen; omega) rfl).alloc _) (by rfl) (from_ints (HFW.out.below ((((Below.refl _ wr).alloc (Nat.le_refl _) _).alloc (by simp) _).drew))) (map_one _) (by unfold maxLen; omega) (by omega) (by simp <;> omega) ?_; intro hA hcap w2 hown2 hgrow2 hat2; rw [Nat.zero_add, List.nil_append] at hown2; have hb2 := below_grown (w := wr) ((((Below.refl _ wr).alloc (Nat.le_refl _) _).alloc (by simp) _).drew) hgrow2 (by intro b e; simp [Value.ownBlock] at e; omega); have st2 := hst.out.next hb2; have hz2w := hb2.size; simp only [Nat.zero_add]))
              | ((refine step_onto (base := wr.heap.size) (v := .slice (some ⟨wr.heap.size + 1, 0, none⟩) 0 0) (n := 0) (xs := []) (A := fA) (m := first.length) (c := fcap) (news := first.map (Value.int .i64)) (by rfl) (.tmp 28) (.tmp 29) (by rfl) Try.underlying26 hi hz0 hz1 hz2 rfl (by decide) (by rfl) HMADE.out (by rfl) (from_ints (HFW.out.below ((((Below.refl _ wr).alloc (Nat.le_refl _) _).alloc (by simp) _).drew))) (map_one _) (by unfold maxLen; omega) (by omega) (by simp <;> omega) ?_; intro hA hcap w2 hown2 hgrow2 hat2; rw [Nat.zero_add, List.nil_append] at hown2; have hb2 := below_grown (w := wr) ((((Below.refl _ wr).alloc (Nat.le_refl _) _).alloc (by simp) _).drew) hgrow2 (by intro b e; simp [Value.ownBlock] at e; omega); have st2 := hst.out.next hb2; have hz2w := hb2.size; simp only [Nat.zero_add]))
              | ((refine step_onto (base := wr.heap.size) (v := .slice hA first.length hcap) (n := first.length) (xs := first.map (Value.int .i64)) (A := some ⟨w2.heap.size, 0, none⟩) (m := 1) (c := 1) (news := [.int .i64 (k : Int)]) (by rfl) (.tmp 30) (.tmp 32) (by rfl) Try.underlying26 hi hz0 hz1 hz2 rfl (by decide) (by rfl) (hown2.alloc _) (by rfl) ⟨rfl, fun _ => ⟨_, rfl, cell_one_new w2 _ _⟩⟩ (by simp [Value.oneCell']) (by unfold maxLen; omega) (by omega) (by first | omega | (simp; omega)) ?_; intro nA ncap w3 hown3 hgrow3 hat3; have hb3 := below_grown (w := wr) (hb2.alloc hb2.size _) hgrow3 (fun b e => (hown2.lt b e).1); have st3 := hst.out.next hb3; have HN := Lib.hid (snoc_own hown3); have HB3 := Lib.hid hb3; clear hown2 hgrow2 hat2 hown3 hgrow3 hat3))
              | ((refine step_onto (base := wr.heap.size) (v := .slice hA first.length hcap) (n := first.length) (xs := first.map (Value.int .i64)) (A := some ⟨wr.heap.size + 1, 0, none⟩) (m := 1) (c := 1) (news := [.int .i64 (k : Int)]) (by rfl) (.tmp 30) (.tmp 32) (by rfl) Try.underlying26 hi hz0 hz1 hz2 rfl (by decide) (by rfl) hown2 (by rfl) ⟨rfl, fun _ => ⟨_, rfl, one_at (cell_grown CB.out (by simp) hgrow2 (by simp [Value.ownBlock]))⟩⟩ (by simp [Value.oneCell']) (by unfold maxLen; omega) (by omega) (by first | omega | (simp; omega)) ?_; intro nA ncap w3 hown3 hgrow3 hat3; have hb3 := below_grown (w := wr) hb2 hgrow3 (fun b e => (hown2.lt b e).1); have st3 := hst.out.next hb3; have HN := Lib.hid (snoc_own hown3); have HB3 := Lib.hid hb3; clear hown2 hgrow2 hat2 hown3 hgrow3 hat3))
              | ((refine step_onto (base := wr.heap.size) (v := .slice hA first.length hcap) (n := first.length) (xs := first.map (Value.int .i64)) (A := some ⟨wr.heap.size, 0, none⟩) (m := 1) (c := 1) (news := [.int .i64 (k : Int)]) (by rfl) (.tmp 30) (.tmp 32) (by rfl) Try.underlying26 hi hz0 hz1 hz2 rfl (by decide) (by rfl) hown2 (by rfl) ⟨rfl, fun _ => ⟨_, rfl, one_at (cell_grown CC.out (by simp <;> omega) hgrow2 (by simp [Value.ownBlock]))⟩⟩ (by simp [Value.oneCell']) (by unfold maxLen; omega) (by omega) (by first | omega | (simp; omega)) ?_; intro nA ncap w3 hown3 hgrow3 hat3; have hb3 := below_grown (w := wr) hb2 hgrow3 (fun b e => (hown2.lt b e).1); have st3 := hst.out.next hb3; have HN := Lib.hid (snoc_own hown3); have HB3 := Lib.hid hb3; clear hown2 hgrow2 hat2 hown3 hgrow3 hat3))
              | (go_at_call 74; refine (HIH.out (first ++ [(k : Int)]) (by simp; have := HL.out; omega) (okBars_snoc HO.out hfl hlt) _ _ _ (st3.st) HN.out).mono ?_; rintro e w4 ⟨u, rfl, ⟨ws, m1, m2, m3⟩, hb4⟩; obtain ⟨uA, ucap, rfl, _⟩ := own_form m2; have st4 := st3.next hb4; have HB4 := Lib.hid (HB3.out.trans (hb4.mono HB3.out.size)); have M1 := Lib.hid m1; have M2 := Lib.hid m2; have M3 := Lib.hid m3; clear m1 m2 m3 hb4)
              | ((refine step_onto (base := w.heap.size) (v := .slice oA (flatTo (fun b => allL S m (first ++ [(b : Int)])) k).length ocap) (n := (flatTo (fun b => allL S m (first ++ [(b : Int)])) k).length) (xs := vs) (A := uA) (m := (allL S m (first ++ [(k : Int)])).length) (c := ucap) (news := ws) (by rfl) (.tmp 26) (.tmp 34) (by rfl) Try.underlying89 hiI hzI0 hzI1 hzI2 rfl (by decide) (by rfl) (own_below L2.out HB4.out) (by rfl) (from_own M2.out) (lists_one M1.out M3.out) (by unfold maxLen; omega) (by omega) (by have := hst.out.b.size; have := HB4.out.size; omega) ?_; intro qA qcap w5 hown5 hgrow5 hat5; have HL5 := Lib.hid (ListsAt.append L1.out (own_below L2.out HB4.out) (fun i hi => by obtain ⟨v, h4, h5⟩ := L3.out i hi; exact ⟨v, h4, own_below h5 HB4.out⟩) M1.out M3.out hgrow5 hown5); have st5 := stat_grown st4 HX.out hgrow5 (fun j e => (L2.out.lt j e).1) (own_ne_type (own_below L2.out HB4.out) st4.blk (by decide)); clear hown5 hgrow5 hat5)))
          all_goals
            have HST5 := Lib.hid st5
            clear st5 st4 st3 st2
            go_wp2
            exact ⟨⟨k + 1, by omega, by go_num, HL5, HST5⟩, by simp [intOf]; omega⟩
        · obtain rfl : S.bars.length = k := by omega
          go_wp2
          go_ret
          refine ⟨_, rfl, ?_, hst.out.b⟩
          have hal : allL S (m + 1) first = flatTo (fun b => allL S m (first ++ [(b : Int)])) S.bars.length := by simp only [allL]; rw [if_pos HF.out]
          rw [hal]
          exact hlists.out
end Go.Proofs.Ytjflpmhlodgadaa
