/-
  Heats: the heats of the bars of which a piece can be.
-/
import Derived.Test.YtjflpmhlodgadaaWorks
namespace Go.Proofs.Ytjflpmhlodgadaa
open Go.RowKit Go.Shelf

def heatsF (S : Store) (X : List Int) (h : Nat) : Bool := X.any fun b => decide ((bnth S.bars b.toNat).heat = (h : Int))
def heatsS (S : Store) (p : Nat) : List Int := numsTo (heatsF S (ofS S p)) 10
theorem heatsF_step {S : Store} {X : List Int} {k : Nat} (hk : k < X.length) (h : Nat) : heatsF S (X.take (k + 1)) h = (heatsF S (X.take k) h || decide ((bnth S.bars (nth X k).toNat).heat = (h : Int))) := by
  rw [take_nth hk]; simp [heatsF]
theorem ofS_lt {S : Store} {p : Nat} {x : Int} (hp : p < S.pieces.length) (h : x ∈ ofS S p) : ∃ j : Nat, x = j ∧ j < S.bars.length := by
  obtain ⟨j, _, rfl, hf⟩ := mem_numsTo.1 h
  simp only [ofF, List.any_eq_true, decide_eq_true_eq] at hf
  obtain ⟨y, hy, e⟩ := hf
  obtain ⟨h1, h2⟩ := truths_ok hy
  have := h1.2 p (by omega)
  exact ⟨j, rfl, by omega⟩
theorem numsTo_none (f : Nat → Bool) (h : ∀ j, f j = false) : ∀ k, numsTo f k = []
  | 0 => rfl
  | k + 1 => by rw [numsTo_no (h k), numsTo_none f h k]

set_option maxHeartbeats 2000000 in
theorem Heats_any (v : Value) (S : Store) (p : Nat) (w : World) (hx : StoreAt w.heap.size w v S) (hV : Valid S) (hp : p < S.pieces.length) :
    Calls Try.prog 30 #[v, .int .i64 p] w (GaveIntsE (heatsS S p) (errN (ofS S p).length) w) := by
  have hx' := hx
  obtain ⟨a, cap1, b1, off, a2, cap2, b2, off2, rfl, hm, hm2, HA, HC, HA2, HC2⟩ := hx.opened
  have HX := fun o => Lib.hid ((hx'.below ((Below.refl _ w).alloc (Nat.le_refl _) o)).mono (show w.heap.size ≤ (w.alloc o).heap.size by simp))
  have HV := Lib.hid hV
  have HP := Lib.hid hp
  have hnb := hV.nb
  clear hx hx' hV HA2 HC2
  have hlt : Hid (∀ x ∈ ofS S p, ∃ j : Nat, x = j ∧ j < S.bars.length) := fun x h => ofS_lt HP.out h
  have hof := fun o => Lib.hid (Of_any _ S p _ (HX o).out HV.out HP.out)
  have HHS := Lib.hid (show heatsS S p = numsTo (heatsF S (ofS S p)) 10 from rfl)
  have HXS : ∃ X, X = ofS S p := ⟨_, rfl⟩
  obtain ⟨X, hX⟩ := HXS
  rw [← hX] at hlt HHS
  simp only [← hX] at hof ⊢
  clear hX
  by_cases hz : X.length = 0
  · have hX0 : X = [] := List.length_eq_zero_iff.1 hz
    subst hX0
    have HN := Lib.hid (show heatsS S p = [] from HHS.out.trans (numsTo_none _ (fun j => rfl) 10))
    clear hz HA HC
    go_enter Try.func30, Try.ntmps30
    go_wp2_with fail
    refine (hof _).out.mono ?_
    rintro e w1 ⟨pv, rfl, hpv, hb⟩
    have HB := Lib.hid hb
    clear hb hof
    obtain ⟨pa, pcap, pb, poff, rfl, pl, _⟩ := hpv.opened
    clear hpv
    rw [show errN ([] : List Int).length = 3 from rfl]
    go_wp2
    go_ret2
    exact ⟨_, rfl, by rw [HN.out]; exact ints_nil _ _, ((Below.refl _ _).alloc (Nat.le_refl _) _).trans (HB.out.mono (by simp))⟩
  have HE := Lib.hid (show errN X.length = 0 from errN_pos hz)
  clear hz
  go_enter Try.func30, Try.ntmps30
  go_wp2_with fail
  refine (hof _).out.mono ?_
  rintro e w1 ⟨pv, rfl, hpv, hb⟩
  rw [HE.out]
  obtain ⟨a4, cap4, b4, off4, rfl, hl4, HA4, HC4, _⟩ := hpv.opened
  have hbl : Below (w.heap.size + 1) (w.alloc (.cells #[.slice a S.bars.length cap1, .int .i64 S.kerf, .slice a2 S.pieces.length cap2, .int .i64 S.wrong] 25)) w1 := hb.mono (by simp)
  have hw1 := boxed hbl
  have hsz1 := boxed_size hbl
  clear hb hof hpv
  go_wp2
  go_loopw [22] (fun i wr => ∃ k : Nat, k ≤ X.length ∧ i = .int .i64 k ∧ Hid (BoolsAt w1.heap.size (heatsF S (X.take k)) 10 88 wr) ∧ Below w1.heap.size w1 wr) (fun i _ => X.length - (intOf i).toNat)
  case atStart =>
    exact ⟨0, Nat.zero_le _, rfl, ⟨_, heap_new w1 _, rfl, fun j hj => by
      have : j = 0 ∨ j = 1 ∨ j = 2 ∨ j = 3 ∨ j = 4 ∨ j = 5 ∨ j = 6 ∨ j = 7 ∨ j = 8 ∨ j = 9 := by omega
      rcases this with rfl | rfl | rfl | rfl | rfl | rfl | rfl | rfl | rfl | rfl <;> rfl⟩, (Below.refl _ w1).alloc (Nat.le_refl _) _⟩
  case round =>
    obtain ⟨k, hk, rfl, hbs, hb2⟩ := hrel
    have hbl2 := hbl.trans (hb2.mono (by omega))
    have hw := boxed hbl2
    have hsz := boxed_size hbl2
    obtain ⟨c0, c1, c2, c3⟩ := box4 hbl2
    have hlb := hbs.out.lt
    by_cases hlk : k < X.length
    · obtain ⟨rfl, hb4⟩ := HA4.out (by omega)
      obtain ⟨j, hj, hjb⟩ := hlt.out _ (nth_mem hlk)
      have d := (hb2.cell (p := ⟨b4, off4 + k, none⟩) hb4).trans (HC4.out k hlk)
      rw [hj] at d
      obtain ⟨rfl, hb1⟩ := HA.out (by omega)
      have d1 := (hw.cell (p := ⟨b1, off + j * 2, none⟩) hb1).trans (HC.out j hjb).1
      obtain ⟨q1, q2⟩ := HV.out.heat j hjb
      obtain ⟨m, hm⟩ := Int.eq_ofNat_of_zero_le q1
      rw [hm] at d1
      have hm10 : m < 10 := by omega
      have c := hbs.out.cell hm10
      have f := hbs.out.frozen m
      have HM := Lib.hid hm
      have HJ := Lib.hid hj
      clear hm q1 q2 hj
      go_wp2
      exact ⟨⟨k + 1, by omega, by go_num, (hbs.out.put hm10 true).congr (fun i _ => by
          rw [heatsF_step hlk, HJ.out, Int.toNat_natCast, HM.out]
          by_cases e : i = m
          · subst e; simp
          · rw [if_neg e]; simp; intro h; omega), hb2.setCell (p := ⟨w1.heap.size, m, none⟩) (Nat.le_refl _) _⟩, by simp [intOf]; omega⟩
    · obtain rfl : X.length = k := by omega
      have hb10 : BoolsAt w1.heap.size (heatsF S X) 10 88 wr := by have := hbs.out; rwa [List.take_length] at this
      have HB10 := Lib.hid hb10
      clear hbs hb10 c0 c1 c2 c3
      go_wp2_with fail
      refine (numbers_any w1.heap.size 10 10 (heatsF S X) _ wr HB10.out (by omega)).mono ?_
      rintro e w3 ⟨rv, rfl, hrv, hb3⟩
      obtain ⟨a5, cap5, b5, off5, rfl, hl5, _⟩ := hrv.opened
      have HRV := Lib.hid hrv
      have HB3 := Lib.hid (hw.trans (hb3.mono (by omega)))
      clear hrv hb3 hbl2 hw
      go_wp2
      go_ret2
      exact ⟨_, by rw [HE.out]; rfl, by rw [HHS.out]; exact HRV.out, HB3.out⟩
end Go.Proofs.Ytjflpmhlodgadaa
