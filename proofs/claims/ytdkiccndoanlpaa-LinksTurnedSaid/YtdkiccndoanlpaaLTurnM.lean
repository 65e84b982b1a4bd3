/-
  Links, math: the turned cable.
-/
import Derived.Test.YtdkiccndoanlpaaLProof2
import Derived.Test.YtdkiccndoanlpaaLSmall
import Derived.Test.YtdkiccndoanlpaaLSureM

namespace Go.Proofs.Ytdkiccndoanlpaa

def ended (d : Deed) : Prop := d.what = 1 ∨ d.what = 2
instance (d : Deed) : Decidable (ended d) := by unfold ended; infer_instance
def flipD (d : Deed) : Deed := if ended d ∧ d.from_ < 2 then ⟨d.what, d.at_, 1 - d.from_, d.bar, d.smith⟩ else d
def flipS (s : Sight) : Sight := ⟨s.after, s.at_, 1 - s.from_, s.bar, s.smith⟩
def turnC (C : Chain) : Chain := ⟨C.deeds.map flipD, C.sights.map flipS, C.wrong⟩
/-- The other end in each deed that has one. -/
def flipX : List Deed → List Int → List Int
  | d :: ds, e :: es => (if ended d then 1 - e else e) :: flipX ds es
  | _, _ => []
theorem flipD_what (d : Deed) : (flipD d).what = d.what := by unfold flipD; split <;> rfl
theorem flipD_at (d : Deed) : (flipD d).at_ = d.at_ := by unfold flipD; split <;> rfl
theorem flipD_bar (d : Deed) : (flipD d).bar = d.bar := by unfold flipD; split <;> rfl
theorem flipD_smith (d : Deed) : (flipD d).smith = d.smith := by unfold flipD; split <;> rfl
theorem flipD_ended (d : Deed) : ended (flipD d) ↔ ended d := by unfold ended; rw [flipD_what]
theorem turn_dnth (ds : List Deed) (i : Nat) : dnth (ds.map flipD) i = flipD (dnth ds i) := by
  simp only [dnth, List.getD_eq_getElem?_getD, List.getElem?_map]
  cases ds[i]? <;> rfl
theorem turn_snth {ss : List Sight} {i : Nat} (h : i < ss.length) : snth (ss.map flipS) i = flipS (snth ss i) := by
  simp [snth, h]
theorem turn_lenTo (ds : List Deed) : ∀ k, lenTo (ds.map flipD) k = lenTo ds k
  | 0 => rfl
  | k + 1 => by simp only [lenTo]; rw [turn_lenTo ds k, turn_dnth, flipD_what]
theorem turn_welds (ds : List Deed) : ∀ k, weldsTo (ds.map flipD) k = weldsTo ds k
  | 0 => rfl
  | k + 1 => by simp only [weldsTo]; rw [turn_welds ds k, turn_dnth, flipD_what]
theorem turn_weldL (ds : List Deed) : weldL (ds.map flipD) = (weldL ds).map flipD := by
  simp only [weldL, List.filter_map]
  congr 1
  exact List.filter_congr (fun d _ => by simp [Function.comp_apply, flipD_what])
theorem turn_mark (ds : List Deed) (link : Int) : markD (ds.map flipD) link = flipD (markD ds link) := by
  simp only [markD]
  rw [turn_weldL, turn_dnth]
theorem flip_ok {d : Deed} {n : Int} (h : deedOk d n = true) : deedOk (flipD d) n = true := by
  have hd := deedIs h
  unfold flipD
  split
  · rename_i hf
    cases hd with
    | weld h1 a0 a1 f0 f1 b0 b1 s0 s1 => simp only [deedOk]; rw [if_pos h1]; simp only [Bool.and_eq_true, wB_iff]; omega
    | cut h1 a0 a1 f0 f1 b0 s0 => simp only [deedOk]; rw [if_neg (by omega), if_pos h1]; simp only [Bool.and_eq_true, wB_iff, decide_eq_true_eq]; omega
    | turn h1 => rcases hf.1 with h | h <;> omega
    | prove h1 => rcases hf.1 with h | h <;> omega
  · exact h
theorem flip_sight {ds : List Deed} {s : Sight} (h : sightAll ds s = true) : sightAll (ds.map flipD) (flipS s) = true := by
  obtain ⟨h0, h1, h2, h3, h4, h5, h6, h7, h8, h9⟩ := sightIs h
  simp only [sightAll, sightOk, flipS, Bool.and_eq_true, wB_iff, turn_lenTo, List.length_map]
  omega
theorem turn_valid {C : Chain} (hV : Valid C) : Valid (turnC C) := by
  refine ⟨by simpa [turnC] using hV.nd, by simpa [turnC] using hV.ns, hV.wrong, fun i hi => ?_, fun j hj => ?_⟩
  · show deedOk (dnth (C.deeds.map flipD) i) (lenTo (C.deeds.map flipD) i) = true
    rw [turn_dnth, turn_lenTo]
    exact flip_ok (hV.deed i (by simpa [turnC] using hi))
  · have hj' : j < C.sights.length := by simpa [turnC] using hj
    show sightAll (C.deeds.map flipD) (snth (C.sights.map flipS) j) = true
    rw [turn_snth hj']
    exact flip_sight (hV.sight j hj')
/-- What froms can be in a valid deed. -/
def FromOk (d : Deed) : Prop := 0 ≤ d.from_ ∧ d.from_ ≤ 2 ∧ (d.from_ = 2 → ended d) ∧ (¬ ended d → d.from_ = 0)
theorem from_ok {d : Deed} {n : Int} (h : deedOk d n = true) : FromOk d := by
  have hd := deedIs h
  unfold FromOk ended
  cases hd <;> refine ⟨by omega, by omega, by omega, by omega⟩
theorem Valid.froms {C : Chain} (h : Valid C) : ∀ d ∈ C.deeds, FromOk d := fun d hd => by
  obtain ⟨i, hi, rfl⟩ := List.getElem_of_mem hd
  have := from_ok (h.deed i hi)
  rwa [dnth_lt hi] at this
theorem flip_choice : ∀ {ds : List Deed} {x : List Int}, (∀ d ∈ ds, FromOk d) → choiceB ds x = true → choiceB (ds.map flipD) (flipX ds x) = true
  | [], [], _, _ => rfl
  | [], _ :: _, _, h => by simp [choiceB] at h
  | _ :: _, [], _, h => by simp [choiceB] at h
  | d :: ds, e :: es, hf, h => by
    obtain ⟨f0, f1, f2, f3⟩ := hf d (.head _)
    simp only [choiceB, Bool.and_eq_true] at h
    simp only [List.map_cons, flipX, choiceB, Bool.and_eq_true]
    refine ⟨?_, flip_choice (fun d hd => hf d (.tail _ hd)) h.2⟩
    have h1 := h.1
    by_cases h2 : d.from_ = 2
    · have he := f2 h2
      have hd : flipD d = d := by unfold flipD; rw [if_neg (by omega)]
      rw [hd, if_pos h2] at *
      rw [if_pos he]
      simp only [wB_iff] at h1 ⊢
      omega
    · rw [if_neg h2] at h1
      simp only [decide_eq_true_eq] at h1
      by_cases he : ended d
      · have hd : (flipD d).from_ = 1 - d.from_ := by unfold flipD; rw [if_pos ⟨he, by omega⟩]
        rw [if_neg (by omega), if_pos he]
        simp only [decide_eq_true_eq]
        omega
      · have hd : flipD d = d := by unfold flipD; rw [if_neg (fun q => he q.1)]
        rw [hd, if_neg h2, if_neg he]
        simpa using h1
theorem flipX_len : ∀ {ds : List Deed} {x : List Int}, x.length = ds.length → (flipX ds x).length = ds.length
  | [], [], _ => rfl
  | [], _ :: _, h => by simp at h
  | _ :: _, [], h => by simp at h
  | d :: ds, e :: es, h => by simp only [flipX, List.length_cons]; rw [flipX_len (by simpa using h)]
theorem flipX_twice : ∀ {ds : List Deed} {x : List Int}, x.length = ds.length → flipX ds (flipX ds x) = x
  | [], [], _ => rfl
  | [], _ :: _, h => by simp at h
  | _ :: _, [], h => by simp at h
  | d :: ds, e :: es, h => by
    simp only [flipX]
    rw [flipX_twice (by simpa using h)]
    split <;> simp <;> omega
theorem flipX_map : ∀ {ds : List Deed} {x : List Int}, flipX (ds.map flipD) x = flipX ds x
  | [], _ => rfl
  | _ :: _, [] => rfl
  | d :: ds, e :: es => by
    simp only [List.map_cons, flipX]
    rw [flipX_map]
    congr 1
    by_cases h : ended d
    · rw [if_pos h, if_pos ((flipD_ended d).2 h)]
    · rw [if_neg h, if_neg (fun q => h ((flipD_ended d).1 q))]
theorem flipX_nth : ∀ {ds : List Deed} {x : List Int} {k : Nat}, x.length = ds.length → k < ds.length → nth (flipX ds x) k = if ended (dnth ds k) then 1 - nth x k else nth x k
  | [], _, _, _, h => by simp at h
  | _ :: _, [], _, h, _ => by simp at h
  | d :: ds, e :: es, 0, _, _ => rfl
  | d :: ds, e :: es, k + 1, h, hk => flipX_nth (ds := ds) (x := es) (k := k) (by simpa using h) (by simpa using hk)
theorem turn_froms {C : Chain} (hV : Valid C) : ∀ d ∈ C.deeds.map flipD, FromOk d := (turn_valid hV).froms
theorem flip_past {C : Chain} (hV : Valid C) {x : List Int} (h : x ∈ pastsL C.deeds) : flipX C.deeds x ∈ pastsL (turnC C).deeds := mem_pastsL.2 (flip_choice hV.froms (mem_pastsL.1 h))
theorem past_flip {C : Chain} (hV : Valid C) {y : List Int} (h : y ∈ pastsL (turnC C).deeds) : flipX C.deeds y ∈ pastsL C.deeds ∧ flipX C.deeds (flipX C.deeds y) = y := by
  have hc := mem_pastsL.1 h
  have hl : y.length = C.deeds.length := by have := choice_len hc; simpa [turnC] using this
  have h2 := flip_choice (turn_froms hV) hc
  have he : (C.deeds.map flipD).map flipD = C.deeds := by
    rw [List.map_map]
    exact (List.map_congr_left (fun d hd => show (flipD ∘ flipD) d = id d from by
        obtain ⟨f0, f1, f2, f3⟩ := hV.froms d hd
        simp only [Function.comp_apply, id]
        unfold flipD
        split
        · rename_i hf
          rw [if_pos ⟨hf.1, by show 1 - d.from_ < 2; omega⟩]
          cases d
          simp
          omega
        · rfl)).trans (List.map_id _)
  rw [he, flipX_map] at h2
  exact ⟨mem_pastsL.2 h2, flipX_twice hl⟩

theorem choice_nth : ∀ {ds : List Deed} {x : List Int} {k : Nat}, (∀ d ∈ ds, FromOk d) → choiceB ds x = true → k < ds.length → 0 ≤ nth x k ∧ nth x k ≤ 2 ∧ (ended (dnth ds k) → nth x k = 0 ∨ nth x k = 1)
  | [], _, _, _, _, h => by simp at h
  | _ :: _, [], _, _, h, _ => by simp [choiceB] at h
  | d :: ds, e :: es, 0, hf, h, _ => by
    obtain ⟨f0, f1, f2, f3⟩ := hf d (.head _)
    simp only [choiceB, Bool.and_eq_true] at h
    have h1 := h.1
    show 0 ≤ e ∧ e ≤ 2 ∧ (ended d → e = 0 ∨ e = 1)
    by_cases h2 : d.from_ = 2
    · rw [if_pos h2, wB_iff] at h1
      exact ⟨by omega, by omega, fun _ => by omega⟩
    · rw [if_neg h2, decide_eq_true_eq] at h1
      exact ⟨by omega, by omega, fun _ => by omega⟩
  | d :: ds, e :: es, k + 1, hf, h, hk => by
    simp only [choiceB, Bool.and_eq_true] at h
    exact choice_nth (ds := ds) (x := es) (k := k) (fun d hd => hf d (.tail _ hd)) h.2 (by simpa using hk)
theorem take_rev (c : List Int) (p : Nat) (h : p ≤ c.length) : c.reverse.take (c.length - p) = (c.drop p).reverse := by
  rw [List.take_reverse]; congr 2; omega
theorem drop_rev (c : List Int) (p : Nat) (h : p ≤ c.length) : c.reverse.drop (c.length - p) = (c.take p).reverse := by
  rw [List.drop_reverse]; congr 2; omega
theorem step_turn {c : List Int} {d : Deed} {e link n : Int} (hd : deedOk d n = true) (hn : (c.length : Int) = n) (he : ended d → e = 0 ∨ e = 1) : stepC c.reverse (flipD d) (if ended d then 1 - e else e) link = (stepC c d e link).reverse := by
  have hD := deedIs hd
  simp only [stepC, flipD_what, flipD_at, List.length_reverse]
  cases hD with
  | weld h a0 a1 f0 f1 b0 b1 s0 s1 =>
    have hen : ended d := .inl h
    rw [if_pos hen, if_pos h, if_pos h]
    have hp := fromHead_lt (f := e) (n := c.length + 1) a0 (by omega)
    obtain ⟨p, hpe⟩ : ∃ p, (fromHead d.at_ e (c.length + 1)).toNat = p := ⟨_, rfl⟩
    have hq : (fromHead d.at_ (1 - e) (c.length + 1)).toNat = c.length - p := by
      rw [← hpe]
      simp only [fromHead] at hp ⊢
      rcases he hen with rfl | rfl <;> simp <;> omega
    rw [hpe, hq, take_rev c p (by omega), drop_rev c p (by omega)]
    simp
  | cut h a0 a1 f0 f1 b0 s0 =>
    have hen : ended d := .inr h
    rw [if_pos hen, if_neg (by omega), if_pos h, if_neg (by omega), if_pos h]
    have hp := fromHead_lt (f := e) (n := c.length) a0 (by omega)
    obtain ⟨p, hpe⟩ : ∃ p, (fromHead d.at_ e c.length).toNat = p := ⟨_, rfl⟩
    have hq : (fromHead d.at_ (1 - e) c.length).toNat = c.length - (p + 1) := by
      rw [← hpe]
      simp only [fromHead] at hp ⊢
      rcases he hen with rfl | rfl <;> simp <;> omega
    rw [hpe, hq, take_rev c (p + 1) (by omega), show c.length - (p + 1) + 1 = c.length - p by omega, drop_rev c p (by omega)]
    simp
  | turn h => 
    have hen : ¬ ended d := fun q => by rcases q with q | q <;> omega
    rw [if_neg (by omega), if_neg (by omega), if_pos h, if_neg (by omega), if_neg (by omega), if_pos h]
  | prove h =>
    have hen : ¬ ended d := fun q => by rcases q with q | q <;> omega
    rw [if_neg (by omega), if_neg (by omega), if_neg (by omega), if_neg (by omega), if_neg (by omega), if_neg (by omega)]
theorem turn_story {C : Chain} (hV : Valid C) {x : List Int} (hx : choiceB C.deeds x = true) : ∀ k, k ≤ C.deeds.length → story (C.deeds.map flipD) (flipX C.deeds x) k = (story C.deeds x k).reverse
  | 0, _ => rfl
  | k + 1, h => by
    simp only [story]
    rw [turn_story hV hx k (by omega), turn_dnth, turn_welds, flipX_nth (choice_len hx) (by omega)]
    exact step_turn (hV.deed k (by omega)) (story_ok (ends := x) hV.deed k (by omega)).1 (choice_nth hV.froms hx (by omega)).2.2
theorem nth_rev {c : List Int} {i : Nat} (h : i < c.length) : nth c.reverse (c.length - 1 - i) = nth c i := by
  rw [nth_lt (by simp; omega), nth_lt h, List.getElem_reverse]
  congr 1; omega
theorem turn_right {C : Chain} (hV : Valid C) {x : List Int} (hx : choiceB C.deeds x = true) {s : Sight} (hs : sightAll C.deeds s = true) : rightB (C.deeds.map flipD) (flipX C.deeds x) (flipS s) = rightB C.deeds x s := by
  obtain ⟨a0, a1, a2, a3, a4, a5, _⟩ := sightIs hs
  have hk : s.after.toNat ≤ C.deeds.length := by omega
  have hl := (story_ok (ends := x) hV.deed s.after.toNat hk).1
  have hp := fromHead_lt (f := s.from_) (n := ((story C.deeds x s.after.toNat).length : Int)) a2 (by omega)
  have hq : (fromHead s.at_ (1 - s.from_) ((story C.deeds x s.after.toNat).length : Int)).toNat = (story C.deeds x s.after.toNat).length - 1 - (fromHead s.at_ s.from_ ((story C.deeds x s.after.toNat).length : Int)).toNat := by
    simp only [fromHead] at hp ⊢
    have : s.from_ = 0 ∨ s.from_ = 1 := by omega
    rcases this with h | h <;> rw [h] at hp ⊢ <;> simp at hp ⊢ <;> omega
  have hm : markD (C.deeds.map flipD) (nth (story (C.deeds.map flipD) (flipX C.deeds x) s.after.toNat) (fromHead s.at_ (1 - s.from_) ((story (C.deeds.map flipD) (flipX C.deeds x) s.after.toNat).length : Int)).toNat) = flipD (markD C.deeds (nth (story C.deeds x s.after.toNat) (fromHead s.at_ s.from_ ((story C.deeds x s.after.toNat).length : Int)).toNat)) := by
    rw [turn_mark, turn_story hV hx _ hk, List.length_reverse, hq, nth_rev (by omega)]
  have h1 : rightB (C.deeds.map flipD) (flipX C.deeds x) (flipS s) = (fun m : Deed => (decide (s.bar < 0) || decide (s.bar = m.bar)) && (decide (s.smith < 0) || decide (s.smith = m.smith))) (flipD (markD C.deeds (nth (story C.deeds x s.after.toNat) (fromHead s.at_ s.from_ ((story C.deeds x s.after.toNat).length : Int)).toNat))) := by
    rw [← hm]; rfl
  rw [h1]
  show ((decide (s.bar < 0) || decide (s.bar = (flipD _).bar)) && (decide (s.smith < 0) || decide (s.smith = (flipD _).smith))) = _
  rw [flipD_bar, flipD_smith]
  rfl
theorem turn_wrongsTo {C : Chain} (hV : Valid C) {x : List Int} (hx : choiceB C.deeds x = true) : ∀ k, k ≤ C.sights.length → wrongsTo (turnC C) (flipX C.deeds x) k = wrongsTo C x k
  | 0, _ => rfl
  | k + 1, h => by
    simp only [wrongsTo]
    rw [turn_wrongsTo hV hx k (by omega)]
    have := turn_right hV hx (hV.sight k (by omega))
    show wrongsTo C x k + (if rightB (C.deeds.map flipD) (flipX C.deeds x) (snth (C.sights.map flipS) k) = true then 0 else 1) = _
    rw [turn_snth (by omega), this]
theorem turn_badTo {C : Chain} (hV : Valid C) {x : List Int} (hx : choiceB C.deeds x = true) : ∀ k, k ≤ C.sights.length → badTo (turnC C) (flipX C.deeds x) k = badTo C x k
  | 0, _ => rfl
  | k + 1, h => by
    have ih := turn_badTo hV hx k (by omega)
    have := turn_right hV hx (hV.sight k (by omega))
    show (if 0 ≤ badTo (turnC C) (flipX C.deeds x) k then badTo (turnC C) (flipX C.deeds x) k else if rightB (C.deeds.map flipD) (flipX C.deeds x) (snth (C.sights.map flipS) k) = true then -1 else k) = _
    rw [ih, turn_snth (by omega), this]; rfl
theorem turn_ns (C : Chain) : (turnC C).sights.length = C.sights.length := by simp [turnC]
theorem turn_nd (C : Chain) : (turnC C).deeds.length = C.deeds.length := by simp [turnC]
theorem turn_wrongs {C : Chain} (hV : Valid C) {x : List Int} (hx : choiceB C.deeds x = true) : wrongs (turnC C) (flipX C.deeds x) = wrongs C x := by
  show wrongsTo _ _ (turnC C).sights.length = _
  rw [turn_ns]
  exact turn_wrongsTo hV hx _ (Nat.le_refl _)
theorem turn_bad {C : Chain} (hV : Valid C) {x : List Int} (hx : choiceB C.deeds x = true) : badV (turnC C) (flipX C.deeds x) = badV C x := by
  show badTo _ _ (turnC C).sights.length = _
  rw [turn_ns]
  exact turn_badTo hV hx _ (Nat.le_refl _)

section
variable {C : Chain} (hV : Valid C)
include hV
theorem turn_mem {y : List Int} : y ∈ truthsP (turnC C) ↔ ∃ x ∈ truthsP C, y = flipX C.deeds x := by
  constructor
  · intro h
    obtain ⟨h1, h2⟩ := mem_truthsP.1 h
    obtain ⟨p1, p2⟩ := past_flip hV (mem_pastsL.2 h1)
    have hc := mem_pastsL.1 p1
    have hw := turn_wrongs hV hc
    rw [p2] at hw
    exact ⟨_, mem_truthsP.2 ⟨hc, by rw [← hw]; exact h2⟩, p2.symm⟩
  · rintro ⟨x, hx, rfl⟩
    obtain ⟨h1, h2⟩ := mem_truthsP.1 hx
    exact mem_truthsP.2 ⟨mem_pastsL.1 (flip_past hV (mem_pastsL.2 h1)), by rw [turn_wrongs hV h1]; exact h2⟩
theorem turn_many : (truthsP (turnC C)).length = (truthsP C).length := by
  have hn : ((truthsP C).map (flipX C.deeds)).Nodup := nodup_map_of (truthsP_nodup C) (fun x hx y hy h => by
    have h1 := flipX_twice (choice_len (mem_truthsP.1 hx).1)
    have h2 := flipX_twice (choice_len (mem_truthsP.1 hy).1)
    rw [← h1, ← h2, h])
  have := (List.perm_ext_iff_of_nodup (truthsP_nodup (turnC C)) hn).2 (fun y => by
    rw [turn_mem hV, List.mem_map]
    exact ⟨fun ⟨x, h1, h2⟩ => ⟨x, h1, h2.symm⟩, fun ⟨x, h1, h2⟩ => ⟨x, h1, h2.symm⟩⟩)
  have := this.length_eq
  rwa [List.length_map] at this
theorem turn_few : fewV (turnC C) = fewV C := by
  obtain ⟨x, hx, h1⟩ := fewV_is C
  obtain ⟨y, hy, h2⟩ := fewV_is (turnC C)
  have h3 := fewV_le (flip_past hV hx)
  rw [turn_wrongs hV (mem_pastsL.1 hx)] at h3
  obtain ⟨p1, p2⟩ := past_flip hV hy
  have h4 := fewV_le p1
  have hw := turn_wrongs hV (mem_pastsL.1 p1)
  rw [p2] at hw
  omega
theorem turn_first : firstV (turnC C) = firstV C ∧ firstE (turnC C) = firstE C := by
  cases h : someGood C
  · have h' : someGood (turnC C) = false := by
      cases q : someGood (turnC C)
      · rfl
      · have := few_pos.1 q
        rw [turn_few hV] at this
        rw [few_pos.2 this] at h
        cases h
    obtain ⟨k, _, v1, e1, a1, x, hx, b1⟩ := first_is h
    obtain ⟨m, _, v2, e2, a2, y, hy, b2⟩ := first_is h'
    have q1 := (a2 _ (flip_past hV hx)).2
    rw [turn_bad hV (mem_pastsL.1 hx)] at q1
    obtain ⟨p1, p2⟩ := past_flip hV hy
    have q2 := (a1 _ p1).2
    have hw := turn_bad hV (mem_pastsL.1 p1)
    rw [p2] at hw
    exact ⟨by omega, by rw [e1, e2]⟩
  · have h' : someGood (turnC C) = true := few_pos.2 (by rw [turn_few hV]; exact few_pos.1 h)
    simp [firstV, firstE, h, h']
theorem turn_srt {f g : List Int → Int} (h : ∀ x ∈ truthsP C, g (flipX C.deeds x) = f x) : srt ((truthsP (turnC C)).map g) = srt ((truthsP C).map f) := by
  refine sorted_ext (srt_sorted _) (srt_sorted _) (fun z => ?_)
  rw [mem_srt, mem_srt, List.mem_map, List.mem_map]
  constructor
  · rintro ⟨y, hy, rfl⟩
    obtain ⟨x, hx, rfl⟩ := (turn_mem hV).1 hy
    exact ⟨x, hx, (h x hx).symm⟩
  · rintro ⟨x, hx, rfl⟩
    exact ⟨_, (turn_mem hV).2 ⟨x, hx, rfl⟩, h x hx⟩
theorem turn_last {x : List Int} (hx : x ∈ truthsP C) : story (turnC C).deeds (flipX C.deeds x) (turnC C).deeds.length = (story C.deeds x C.deeds.length).reverse := by
  rw [turn_nd]
  exact turn_story hV (mem_truthsP.1 hx).1 _ (Nat.le_refl _)
theorem turn_times {x : List Int} (hx : x ∈ truthsP C) (link : Int) : timesOf (turnC C) link (flipX C.deeds x) = timesOf C link x := by
  have h : ∀ k, k ≤ C.deeds.length → timesTo (C.deeds.map flipD) (flipX C.deeds x) link k = timesTo C.deeds x link k := by
    intro k
    induction k with
    | zero => intro _; rfl
    | succ k ih =>
      intro hk
      simp only [timesTo]
      rw [ih (by omega), turn_dnth, flipD_what, turn_story hV (mem_truthsP.1 hx).1 k (by omega)]
      rw [show inB (story C.deeds x k).reverse link = inB (story C.deeds x k) link by simp [inB]]
  show timesTo (C.deeds.map flipD) _ link (turnC C).deeds.length = _
  rw [turn_nd]
  exact h _ (Nat.le_refl _)
end
theorem turn_place (C : Chain) (at_ : Int) : placeB (turnC C) at_ = placeB C at_ := by
  show wB at_ 0 (lenTo (C.deeds.map flipD) (turnC C).deeds.length - 1) = _
  rw [turn_lenTo, turn_nd]; rfl
theorem turn_link (C : Chain) (link : Int) : linkB (turnC C) link = linkB C link := by
  show wB link 0 ((weldsTo (C.deeds.map flipD) (turnC C).deeds.length : Int) - 1) = _
  rw [turn_welds, turn_nd]; rfl
theorem ixV_at {c : List Int} (hn : c.Nodup) {i : Nat} (hi : i < c.length) {y : Int} (h : y = nth c i) : ixV c y = i :=
  ixV_yes hi h (fun j hj e => by
    rw [h, nth_lt hi, nth_lt (by omega)] at e
    have := (List.getElem_inj hn).1 e
    omega)
/-- The place counted from the other end. -/
def backP (n a : Int) : Int := if a < 0 then -1 else n - 1 - a
theorem ixV_rev {c : List Int} (hn : c.Nodup) (y : Int) : ixV c.reverse y = backP c.length (ixV c y) := by
  cases h : inB c y
  · have h1 := ixV_neg.2 h
    have h2 : inB c.reverse y = false := by simpa [inB] using h
    have := ixV_neg.2 h2
    have hb := (ixV_bound c.reverse y).1
    unfold backP
    rw [if_pos h1]
    omega
  · simp only [inB, decide_eq_true_eq] at h
    obtain ⟨i, hi, he⟩ := mem_iff_nth.1 h
    have e1 := ixV_at hn hi he.symm
    have hr : c.reverse.Nodup := (List.reverse_perm c).nodup_iff.2 hn
    have e2 := ixV_at hr (i := c.length - 1 - i) (by simp; omega) (y := y) (by rw [nth_rev hi]; exact he.symm)
    rw [e1, e2]
    unfold backP
    rw [if_neg (by omega)]
    omega
theorem turn_where {C : Chain} (hV : Valid C) (link : Int) {x : List Int} (hx : x ∈ truthsP C) : placeOf (turnC C) link (flipX C.deeds x) = backP (lenTo C.deeds C.deeds.length) (placeOf C link x) := by
  show ixV (story (turnC C).deeds _ _) link = _
  have h := story_ok (ends := x) hV.deed _ (Nat.le_refl _)
  rw [turn_last hV hx, ixV_rev h.2.1, h.1]
  rfl
theorem turn_who {C : Chain} (hV : Valid C) {at_ : Nat} (hat : (at_ : Int) < lenTo C.deeds C.deeds.length) {x : List Int} (hx : x ∈ truthsP C) : linkAt (turnC C) (lenTo C.deeds C.deeds.length - 1 - at_).toNat (flipX C.deeds x) = linkAt C at_ x := by
  show nth (story (turnC C).deeds _ _) _ = nth _ _
  have h := (story_ok (ends := x) hV.deed _ (Nat.le_refl _)).1
  rw [turn_last hV hx, ← nth_rev (i := at_) (by omega)]
  congr 1
  omega
theorem back_back {n a : Int} (h1 : -1 ≤ a) (h2 : a < n) : backP n (backP n a) = a := by
  unfold backP
  by_cases h : a < 0
  · rw [if_pos h, if_pos (by omega)]; omega
  · rw [if_neg h, if_neg (by omega)]; omega
/-- The places of a link in the turned cable. -/
theorem turn_places {C : Chain} (hV : Valid C) (link : Int) (b : Bool) :
    (ansV (turnC C) b (placeOf (turnC C) link)).length = (ansV C b (placeOf C link)).length ∧ ∀ a ∈ ansV C b (placeOf C link), -1 ≤ a ∧ a < lenTo C.deeds C.deeds.length ∧ (a < 0 → inB (ansV (turnC C) b (placeOf (turnC C) link)) (-1) = true) ∧ (0 ≤ a → inB (ansV (turnC C) b (placeOf (turnC C) link)) (lenTo C.deeds C.deeds.length - 1 - a) = true) := by
  unfold ansV
  cases b
  · simp
  simp only [if_true]
  have hb : ∀ x, -1 ≤ placeOf C link x ∧ placeOf C link x < lenTo C.deeds C.deeds.length := fun x => by
    have h1 := ixV_bound (story C.deeds x C.deeds.length) link
    have h2 := (story_ok (ends := x) hV.deed _ (Nat.le_refl _)).1
    unfold placeOf; omega
  have hw : srt ((truthsP (turnC C)).map (placeOf (turnC C) link)) = srt ((truthsP C).map (fun x => backP (lenTo C.deeds C.deeds.length) (placeOf C link x))) := turn_srt hV (fun x hx => turn_where hV link hx)
  rw [hw]
  have hsub : ∀ (f g : List Int → Int), (∀ x, g x = backP (lenTo C.deeds C.deeds.length) (f x)) → (srt ((truthsP C).map g)).length ≤ (srt ((truthsP C).map f)).length := fun f g hg => by
    have e : srt ((truthsP C).map g) = srt ((srt ((truthsP C).map f)).map (backP (lenTo C.deeds C.deeds.length))) := sorted_ext (srt_sorted _) (srt_sorted _) (fun z => by
      rw [mem_srt, mem_srt, List.mem_map, List.mem_map]
      constructor
      · rintro ⟨x, hx, rfl⟩; exact ⟨f x, mem_srt.2 (List.mem_map.2 ⟨x, hx, rfl⟩), (hg x).symm⟩
      · rintro ⟨y, hy, rfl⟩
        obtain ⟨x, hx, rfl⟩ := List.mem_map.1 (mem_srt.1 hy)
        exact ⟨x, hx, hg x⟩)
    rw [e, srt_len]
    exact Nat.le_trans (once_len _) (by simp)
  refine ⟨Nat.le_antisymm (hsub _ _ (fun _ => rfl)) (hsub _ _ (fun x => (back_back (hb x).1 (hb x).2).symm)), fun a ha => ?_⟩
  obtain ⟨x, hx, rfl⟩ := List.mem_map.1 (mem_srt.1 ha)
  have hin : ∀ y, y = backP (lenTo C.deeds C.deeds.length) (placeOf C link x) → inB (srt ((truthsP C).map (fun x => backP (lenTo C.deeds C.deeds.length) (placeOf C link x)))) y = true := fun y hy => by
    simp only [inB, decide_eq_true_eq]
    exact mem_srt.2 (List.mem_map.2 ⟨x, hx, hy.symm⟩)
  refine ⟨(hb x).1, (hb x).2, fun h => hin _ ?_, fun h => hin _ ?_⟩
  · unfold backP; rw [if_pos h]
  · unfold backP; rw [if_neg (by omega)]

end Go.Proofs.Ytdkiccndoanlpaa
