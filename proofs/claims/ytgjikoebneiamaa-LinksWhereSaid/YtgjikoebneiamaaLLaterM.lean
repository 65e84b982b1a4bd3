/-
  Links, math: one more deed whose end is known.
-/
import Derived.Test.YtgjikoebneiamaaLProof
import Derived.Test.YtgjikoebneiamaaLSmall
namespace Go.Proofs.Ytgjikoebneiamaa

def plusD (C : Chain) (d : Deed) : Chain := ⟨C.deeds ++ [d], C.sights, C.wrong⟩
section
variable {ds : List Deed} {d : Deed} {x : List Int} {y : Int}
theorem plus_old {i : Nat} (h : i < ds.length) : dnth (ds ++ [d]) i = dnth ds i := by simp [dnth, List.getD_eq_getElem?_getD, List.getElem?_append_left h]
theorem plus_new : dnth (ds ++ [d]) ds.length = d := by simp [dnth]
theorem plus_len : (ds ++ [d]).length = ds.length + 1 := by simp
theorem plus_lenTo : ∀ {k : Nat}, k ≤ ds.length → lenTo (ds ++ [d]) k = lenTo ds k
  | 0, _ => rfl
  | k + 1, h => by simp only [lenTo]; rw [plus_lenTo (by omega), plus_old (by omega)]
theorem plus_welds : ∀ {k : Nat}, k ≤ ds.length → weldsTo (ds ++ [d]) k = weldsTo ds k
  | 0, _ => rfl
  | k + 1, h => by simp only [weldsTo]; rw [plus_welds (by omega), plus_old (by omega)]
theorem plus_unk (h : d.from_ ≠ 2) : ∀ (ds : List Deed), unk (ds ++ [d]) = unk ds
  | [] => by simp [unk, h]
  | e :: ds => by simp [unk, plus_unk h ds]
theorem plus_ends (h : d.from_ ≠ 2) : ∀ (ds : List Deed) (e : Nat), endsOf (ds ++ [d]) e = endsOf ds e ++ [d.from_]
  | [], e => by simp [endsOf, h]
  | a :: ds, e => by
    simp only [List.cons_append, endsOf]
    split <;> simp [plus_ends h ds]
theorem plus_pasts (h : d.from_ ≠ 2) : pastsL (ds ++ [d]) = (pastsL ds).map (· ++ [d.from_]) := by
  simp only [pastsL, plus_unk h, List.map_map]
  exact List.map_congr_left (fun e _ => plus_ends h ds e)
theorem nth_snoc_old {i : Nat} (h : i < x.length) : nth (x ++ [y]) i = nth x i := by simp [nth, List.getD_eq_getElem?_getD, List.getElem?_append_left h]
theorem nth_snoc_new : nth (x ++ [y]) x.length = y := by simp [nth]
theorem plus_story (hx : x.length = ds.length) : ∀ {k : Nat}, k ≤ ds.length → story (ds ++ [d]) (x ++ [y]) k = story ds x k
  | 0, _ => rfl
  | k + 1, h => by simp only [story]; rw [plus_story hx (by omega), plus_old (by omega), nth_snoc_old (by omega), plus_welds (by omega)]
theorem plus_story_new (hx : x.length = ds.length) : story (ds ++ [d]) (x ++ [y]) (ds.length + 1) = stepC (story ds x ds.length) d y (weldsTo ds ds.length) := by
  simp only [story]
  rw [plus_story hx (Nat.le_refl _), plus_new, ← hx, nth_snoc_new, hx, plus_welds (Nat.le_refl _)]
theorem plus_mark {k : Nat} (h : k < weldsTo ds ds.length) : dnth (weldL (ds ++ [d])) k = dnth (weldL ds) k := by
  have hl : k < (weldL ds).length := by rw [weldL_len]; exact h
  simp only [weldL, List.filter_append] at hl ⊢
  simp [dnth, List.getD_eq_getElem?_getD, List.getElem?_append_left hl]
theorem plus_times (hx : x.length = ds.length) (link : Int) : ∀ {k : Nat}, k ≤ ds.length → timesTo (ds ++ [d]) (x ++ [y]) link k = timesTo ds x link k
  | 0, _ => rfl
  | k + 1, h => by simp only [timesTo]; rw [plus_times hx link (by omega), plus_old (by omega), plus_story hx (by omega)]
end
theorem plus_right {C : Chain} {d : Deed} {x : List Int} {y : Int} {s : Sight} (hV : Valid C) (hx : x.length = C.deeds.length) (hs : sightAll C.deeds s = true) : rightB (C.deeds ++ [d]) (x ++ [y]) s = rightB C.deeds x s := by
  obtain ⟨a0, a1, a2, a3, a4, a5, _⟩ := sightIs hs
  have hk : s.after.toNat ≤ C.deeds.length := by omega
  have hl := story_ok (ends := x) hV.deed s.after.toNat hk
  simp only [rightB]
  rw [plus_story hx hk]
  have hf := fromHead_lt (f := s.from_) a2 (show s.at_ < ((story C.deeds x s.after.toNat).length : Int) by omega)
  have hm := hl.2.2 (nth (story C.deeds x s.after.toNat) (fromHead s.at_ s.from_ (story C.deeds x s.after.toNat).length).toNat) (nth_mem (by omega))
  have hw := weldsTo_mono C.deeds hk
  have e : dnth (weldL (C.deeds ++ [d])) (nth (story C.deeds x s.after.toNat) (fromHead s.at_ s.from_ (story C.deeds x s.after.toNat).length).toNat).toNat = dnth (weldL C.deeds) (nth (story C.deeds x s.after.toNat) (fromHead s.at_ s.from_ (story C.deeds x s.after.toNat).length).toNat).toNat := plus_mark (by omega)
  exact congrArg (fun m : Deed => (decide (s.bar < 0) || decide (s.bar = m.bar)) && (decide (s.smith < 0) || decide (s.smith = m.smith))) e
theorem plus_wrongs {C : Chain} {d : Deed} {x : List Int} {y : Int} (hV : Valid C) (hx : x.length = C.deeds.length) : wrongs (plusD C d) (x ++ [y]) = wrongs C x := by
  have h : ∀ k, k ≤ C.sights.length → wrongsTo (plusD C d) (x ++ [y]) k = wrongsTo C x k := by
    intro k
    induction k with
    | zero => intro _; rfl
    | succ k ih =>
      intro hk
      simp only [wrongsTo]
      rw [ih (by omega)]
      have := plus_right (d := d) (y := y) hV hx (hV.sight k (by omega))
      show wrongsTo C x k + (if rightB (C.deeds ++ [d]) (x ++ [y]) (snth C.sights k) = true then 0 else 1) = _
      rw [this]
  exact h _ (Nat.le_refl _)
theorem past_len {ds : List Deed} {x : List Int} (h : x ∈ pastsL ds) : x.length = ds.length := choice_len (mem_pastsL.1 h)
theorem plus_truths {C : Chain} {d : Deed} (hV : Valid C) (h : d.from_ ≠ 2) : truthsP (plusD C d) = (truthsP C).map (· ++ [d.from_]) := by
  show (pastsL (C.deeds ++ [d])).filter _ = _
  rw [plus_pasts h, List.filter_map]
  congr 1
  apply List.filter_congr
  intro x hx
  simp only [Function.comp_apply]
  rw [plus_wrongs hV (past_len hx)]
  rfl
theorem plus_valid {C : Chain} {d : Deed} (hV : Valid C) (hn : C.deeds.length ≤ 11) (hd : deedOk d (lenTo C.deeds C.deeds.length) = true) : Valid (plusD C d) := by
  refine ⟨by show (C.deeds ++ [d]).length ≤ 12; rw [plus_len]; omega, hV.ns, hV.wrong, fun i hi => ?_, fun j hj => ?_⟩
  · have hi : i < C.deeds.length + 1 := by rw [← plus_len (ds := C.deeds) (d := d)]; exact hi
    show deedOk (dnth (C.deeds ++ [d]) i) (lenTo (C.deeds ++ [d]) i) = true
    rw [plus_lenTo (by omega)]
    by_cases e : i < C.deeds.length
    · rw [plus_old e]; exact hV.deed i e
    · obtain rfl : i = C.deeds.length := by omega
      rw [plus_new]; exact hd
  · have := hV.sight j hj
    have h2 := sightIs this
    show sightAll (C.deeds ++ [d]) (snth C.sights j) = true
    simp only [sightAll] at this ⊢
    rw [plus_lenTo (by omega), plus_len]
    simp only [Bool.and_eq_true, wB_iff] at this ⊢
    refine ⟨by push_cast; omega, this.2⟩

def weldD (b s : Int) : Deed := ⟨1, 0, 0, b, s⟩
def cutD : Deed := ⟨2, 0, 0, 0, 0⟩
def proveD : Deed := ⟨4, 0, 0, 0, 0⟩
theorem truth_len {C : Chain} {x : List Int} (h : x ∈ truthsP C) : x.length = C.deeds.length := choice_len (mem_truthsP.1 h).1
theorem weld_story {C : Chain} {b s : Int} {x : List Int} (hx : x.length = C.deeds.length) : story (plusD C (weldD b s)).deeds (x ++ [0]) (plusD C (weldD b s)).deeds.length = (weldsTo C.deeds C.deeds.length : Int) :: story C.deeds x C.deeds.length := by
  show story (C.deeds ++ [weldD b s]) (x ++ [0]) (C.deeds ++ [weldD b s]).length = _
  rw [plus_len, plus_story_new hx]
  simp [stepC, weldD, fromHead]
theorem cut_story {C : Chain} {b s : Int} {x : List Int} (hx : x.length = C.deeds.length) : story (plusD (plusD C (weldD b s)) cutD).deeds (x ++ [0] ++ [0]) (plusD (plusD C (weldD b s)) cutD).deeds.length = story C.deeds x C.deeds.length := by
  show story ((plusD C (weldD b s)).deeds ++ [cutD]) (x ++ [0] ++ [0]) ((plusD C (weldD b s)).deeds ++ [cutD]).length = _
  have hx2 : (x ++ [0]).length = (plusD C (weldD b s)).deeds.length := by show _ = (C.deeds ++ [_]).length; simp [hx]
  rw [plus_len, plus_story_new hx2, weld_story hx]
  simp [stepC, cutD, fromHead]
theorem prove_times {C : Chain} {x : List Int} {link : Int} (hx : x.length = C.deeds.length) : timesOf (plusD C proveD) link (x ++ [0]) = timesOf C link x + (if 0 ≤ placeOf C link x then 1 else 0) := by
  show timesTo (C.deeds ++ [proveD]) (x ++ [0]) link (C.deeds ++ [proveD]).length = _
  rw [plus_len]
  simp only [timesTo]
  rw [plus_times hx link (Nat.le_refl _), plus_new, plus_story hx (Nat.le_refl _)]
  have hb := ixV_bound (story C.deeds x C.deeds.length) link
  have hi : (proveD.what = 4 ∧ inB (story C.deeds x C.deeds.length) link = true) ↔ 0 ≤ placeOf C link x := by
    constructor
    · intro h
      refine Int.not_lt.1 fun hlt => ?_
      rw [ixV_neg.1 hlt] at h
      exact absurd h.2 (by simp)
    · intro h
      refine ⟨rfl, ?_⟩
      cases hq : inB (story C.deeds x C.deeds.length) link
      · have := ixV_neg.2 hq
        have hp : placeOf C link x = ixV (story C.deeds x C.deeds.length) link := rfl
        omega
      · rfl
  by_cases h : 0 ≤ placeOf C link x
  · rw [if_pos h, if_pos (hi.2 h)]; rfl
  · rw [if_neg h, if_neg (fun q => h (hi.1 q))]; rfl

/-- The next place. -/
def nextP (a : Int) : Int := if a < 0 then -1 else a + 1
theorem weld_place {C : Chain} {b s : Int} {x : List Int} {link : Int} (hx : x.length = C.deeds.length) (hl : link < weldsTo C.deeds C.deeds.length) : placeOf (plusD C (weldD b s)) link (x ++ [0]) = nextP (placeOf C link x) := by
  show ixV (story (plusD C (weldD b s)).deeds (x ++ [0]) (plusD C (weldD b s)).deeds.length) link = _
  rw [weld_story hx]
  simp only [ixV, nextP, placeOf]
  rw [if_neg (by omega)]
  by_cases h : ixV (story C.deeds x C.deeds.length) link < 0 <;> simp [h]
theorem cut_place {C : Chain} {b s : Int} {x : List Int} {link : Int} (hx : x.length = C.deeds.length) : placeOf (plusD (plusD C (weldD b s)) cutD) link (x ++ [0] ++ [0]) = placeOf C link x := by
  show ixV (story (plusD (plusD C (weldD b s)) cutD).deeds _ _) link = _
  rw [cut_story hx]; rfl
theorem srt_map_mono {l : List Int} {g : Int → Int} (h : ∀ x ∈ l, ∀ y ∈ l, x < y → g x < g y) : srt (l.map g) = (srt l).map g := by
  refine sorted_ext (srt_sorted _) ?_ (fun z => ?_)
  · rw [List.pairwise_map]
    exact (srt_sorted l).imp_of_mem (fun ha hb hab => h _ (mem_srt.1 ha) _ (mem_srt.1 hb) hab)
  · rw [mem_srt, List.mem_map, List.mem_map]
    exact ⟨fun ⟨a, h1, h2⟩ => ⟨a, mem_srt.2 h1, h2⟩, fun ⟨a, h1, h2⟩ => ⟨a, mem_srt.1 h1, h2⟩⟩
theorem sorted_first {L : List Int} (hs : L.Pairwise (· < ·)) (h : 0 < L.length) : nth L 0 ∈ L ∧ ∀ x ∈ L, nth L 0 ≤ x := by
  refine ⟨nth_mem h, fun x hx => ?_⟩
  obtain ⟨i, hi, rfl⟩ := mem_iff_nth.1 hx
  by_cases e : i = 0
  · subst e; exact Int.le_refl _
  · rw [nth_lt h, nth_lt hi]
    exact Int.le_of_lt (List.pairwise_iff_getElem.1 hs 0 i h hi (by omega))
theorem sorted_last {L : List Int} (hs : L.Pairwise (· < ·)) (h : 0 < L.length) : nth L (L.length - 1) ∈ L ∧ ∀ x ∈ L, x ≤ nth L (L.length - 1) := by
  refine ⟨nth_mem (by omega), fun x hx => ?_⟩
  obtain ⟨i, hi, rfl⟩ := mem_iff_nth.1 hx
  by_cases e : i = L.length - 1
  · subst e; exact Int.le_refl _
  · rw [nth_lt (show L.length - 1 < L.length by omega), nth_lt hi]
    exact Int.le_of_lt (List.pairwise_iff_getElem.1 hs i (L.length - 1) hi (by omega) (by omega))

end Go.Proofs.Ytgjikoebneiamaa
