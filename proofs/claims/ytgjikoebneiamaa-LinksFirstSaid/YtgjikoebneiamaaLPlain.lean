/-
  Links: the meaning in plain functions: which chains are valid, what a cable holds after each deed, which ends there are, which sights are right.
-/
import Derived.Test.YtgjikoebneiamaaGen

namespace Go.Proofs.Ytgjikoebneiamaa
open Go.RowKit

structure Deed where
  what : Int
  at_ : Int
  from_ : Int
  bar : Int
  smith : Int
deriving DecidableEq, Inhabited
structure Sight where
  after : Int
  at_ : Int
  from_ : Int
  bar : Int
  smith : Int
deriving DecidableEq, Inhabited
structure Chain where
  deeds : List Deed
  sights : List Sight
  wrong : Int
deriving DecidableEq, Inhabited

def dnth (ds : List Deed) (i : Nat) : Deed := ds.getD i ⟨0, 0, 0, 0, 0⟩
def snth (ss : List Sight) (i : Nat) : Sight := ss.getD i ⟨0, 0, 0, 0, 0⟩
theorem dnth_lt {ds : List Deed} {i : Nat} (h : i < ds.length) : dnth ds i = ds[i] := by simp [dnth, h]
theorem snth_lt {ds : List Sight} {i : Nat} (h : i < ds.length) : snth ds i = ds[i] := by simp [snth, h]

/-- How many links there are after k deeds. -/
def lenTo (ds : List Deed) : Nat → Int
  | 0 => 0
  | k + 1 => lenTo ds k + (if (dnth ds k).what = 1 then 1 else if (dnth ds k).what = 2 then -1 else 0)
/-- How many of the first k deeds weld. -/
def weldsTo (ds : List Deed) : Nat → Nat
  | 0 => 0
  | k + 1 => weldsTo ds k + (if (dnth ds k).what = 1 then 1 else 0)
theorem weldsTo_le (ds : List Deed) : ∀ k, weldsTo ds k ≤ k
  | 0 => Nat.le_refl _
  | k + 1 => by have := weldsTo_le ds k; simp only [weldsTo]; split <;> omega
theorem weldsTo_mono (ds : List Deed) {j : Nat} : ∀ {k : Nat}, j ≤ k → weldsTo ds j ≤ weldsTo ds k
  | 0, h => by obtain rfl : j = 0 := by omega
               exact Nat.le_refl _
  | k + 1, h => by
    by_cases e : j = k + 1
    · subst e; exact Nat.le_refl _
    · have := weldsTo_mono ds (j := j) (k := k) (by omega); simp only [weldsTo]; omega
theorem lenTo_le (ds : List Deed) : ∀ k : Nat, -(k : Int) ≤ lenTo ds k ∧ lenTo ds k ≤ k
  | 0 => by simp [lenTo]
  | k + 1 => by have := lenTo_le ds k; simp only [lenTo]; split <;> (try split) <;> omega

def deedOk (d : Deed) (n : Int) : Bool :=
  if d.what = 1 then wB d.at_ 0 n && wB d.from_ 0 2 && wB d.bar 0 99 && wB d.smith 0 99
  else if d.what = 2 then wB d.at_ 0 (n - 1) && wB d.from_ 0 2 && decide (d.bar = 0) && decide (d.smith = 0)
  else if d.what = 3 ∨ d.what = 4 then decide (d.at_ = 0) && decide (d.from_ = 0) && decide (d.bar = 0) && decide (d.smith = 0)
  else false
def sightOk (s : Sight) (n : Int) : Bool := wB s.at_ 0 (n - 1) && wB s.from_ 0 1 && wB s.bar (-1) 99 && wB s.smith (-1) 99
def sightAll (ds : List Deed) (s : Sight) : Bool := wB s.after 0 ds.length && sightOk s (lenTo ds s.after.toNat)
def deedsOk (ds : List Deed) : Bool := allTo (fun i => deedOk (dnth ds i) (lenTo ds i)) ds.length
def validB (C : Chain) : Bool :=
  decide (C.deeds.length ≤ 12) && decide (C.sights.length ≤ 8) && wB C.wrong 0 8 && deedsOk C.deeds && allTo (fun j => sightAll C.deeds (snth C.sights j)) C.sights.length

structure Valid (C : Chain) : Prop where
  nd : C.deeds.length ≤ 12
  ns : C.sights.length ≤ 8
  wrong : 0 ≤ C.wrong ∧ C.wrong ≤ 8
  deed : ∀ i, i < C.deeds.length → deedOk (dnth C.deeds i) (lenTo C.deeds i) = true
  sight : ∀ j, j < C.sights.length → sightAll C.deeds (snth C.sights j) = true
theorem valid_iff {C : Chain} : validB C = true ↔ Valid C := by
  simp only [validB, deedsOk, Bool.and_eq_true, decide_eq_true_eq, wB_iff, allTo_iff]
  constructor
  · rintro ⟨⟨⟨⟨h1, h2⟩, h3⟩, h4⟩, h5⟩
    exact ⟨h1, h2, h3, h4, h5⟩
  · intro h
    exact ⟨⟨⟨⟨h.nd, h.ns⟩, h.wrong⟩, h.deed⟩, h.sight⟩
def chkS (C : Chain) : Int := if validB C = true then 0 else 20
theorem chkS_ok {C : Chain} (h : validB C = true) : chkS C = 0 := by simp [chkS, h]
theorem chkS_bad {C : Chain} (h : validB C = false) : chkS C = 20 := by simp [chkS, h]

/-- A deed that is valid, as inequalities. -/
inductive DeedIs (d : Deed) (n : Int) : Prop
  | weld (h : d.what = 1) (a0 : 0 ≤ d.at_) (a1 : d.at_ ≤ n) (f0 : 0 ≤ d.from_) (f1 : d.from_ ≤ 2) (b0 : 0 ≤ d.bar) (b1 : d.bar ≤ 99) (s0 : 0 ≤ d.smith) (s1 : d.smith ≤ 99)
  | cut (h : d.what = 2) (a0 : 0 ≤ d.at_) (a1 : d.at_ ≤ n - 1) (f0 : 0 ≤ d.from_) (f1 : d.from_ ≤ 2) (b0 : d.bar = 0) (s0 : d.smith = 0)
  | turn (h : d.what = 3) (a0 : d.at_ = 0) (f0 : d.from_ = 0) (b0 : d.bar = 0) (s0 : d.smith = 0)
  | prove (h : d.what = 4) (a0 : d.at_ = 0) (f0 : d.from_ = 0) (b0 : d.bar = 0) (s0 : d.smith = 0)
theorem deedIs {d : Deed} {n : Int} (h : deedOk d n = true) : DeedIs d n := by
  unfold deedOk at h
  split at h
  · simp only [Bool.and_eq_true, wB_iff] at h
    exact .weld ‹_› h.1.1.1.1 h.1.1.1.2 h.1.1.2.1 h.1.1.2.2 h.1.2.1 h.1.2.2 h.2.1 h.2.2
  split at h
  · simp only [Bool.and_eq_true, wB_iff, decide_eq_true_eq] at h
    exact .cut ‹_› h.1.1.1.1 h.1.1.1.2 h.1.1.2.1 h.1.1.2.2 h.1.2 h.2
  split at h
  · simp only [Bool.and_eq_true, decide_eq_true_eq] at h
    rcases ‹d.what = 3 ∨ d.what = 4› with e | e
    · exact .turn e h.1.1.1 h.1.1.2 h.1.2 h.2
    · exact .prove e h.1.1.1 h.1.1.2 h.1.2 h.2
  · cases h
theorem sightIs {ds : List Deed} {s : Sight} (h : sightAll ds s = true) : 0 ≤ s.after ∧ s.after ≤ ds.length ∧ 0 ≤ s.at_ ∧ s.at_ ≤ lenTo ds s.after.toNat - 1 ∧ 0 ≤ s.from_ ∧ s.from_ ≤ 1 ∧ -1 ≤ s.bar ∧ s.bar ≤ 99 ∧ -1 ≤ s.smith ∧ s.smith ≤ 99 := by
  simp only [sightAll, sightOk, Bool.and_eq_true, wB_iff] at h
  omega

/-- A place, counted from an end of a cable of a length, counted from its head. -/
def fromHead (at_ from_ len : Int) : Int := if from_ = 1 then len - 1 - at_ else at_
theorem fromHead_lt {a f n : Int} (h0 : 0 ≤ a) (h1 : a < n) : 0 ≤ fromHead a f n ∧ fromHead a f n < n := by unfold fromHead; split <;> omega
/-- One deed, with a known end. -/
def stepC (c : List Int) (d : Deed) (e : Int) (link : Int) : List Int :=
  if d.what = 1 then c.take (fromHead d.at_ e (c.length + 1)).toNat ++ link :: c.drop (fromHead d.at_ e (c.length + 1)).toNat
  else if d.what = 2 then c.take (fromHead d.at_ e c.length).toNat ++ c.drop ((fromHead d.at_ e c.length).toNat + 1)
  else if d.what = 3 then c.reverse else c
/-- The links, by their numbers, after k deeds. -/
def story (ds : List Deed) (ends : List Int) : Nat → List Int
  | 0 => []
  | k + 1 => stepC (story ds ends k) (dnth ds k) (nth ends k) (weldsTo ds k)

theorem story_ok {ds : List Deed} {ends : List Int} (hd : ∀ i, i < ds.length → deedOk (dnth ds i) (lenTo ds i) = true) :
    ∀ k, k ≤ ds.length → ((story ds ends k).length : Int) = lenTo ds k ∧ (story ds ends k).Nodup ∧ ∀ x ∈ story ds ends k, 0 ≤ x ∧ x < weldsTo ds k
  | 0, _ => by simp [story, lenTo]
  | k + 1, hk => by
    obtain ⟨hl, hn, hm⟩ := story_ok (ends := ends) hd k (by omega)
    have hD := deedIs (hd k (by omega))
    simp only [story, stepC, lenTo, weldsTo]
    cases hD with
    | weld h a0 a1 =>
      have hp := fromHead_lt (f := nth ends k) (n := (story ds ends k).length + 1) a0 (by omega)
      obtain ⟨p, hpe⟩ : ∃ p, (fromHead (dnth ds k).at_ (nth ends k) ((story ds ends k).length + 1)).toNat = p := ⟨_, rfl⟩
      have hpl : p ≤ (story ds ends k).length := by omega
      simp only [h, if_true, hpe]
      refine ⟨by simp; omega, ?_, ?_⟩
      · have hnew : (weldsTo ds k : Int) ∉ story ds ends k := fun hx => by have := hm _ hx; omega
        have h0 := hn
        rw [← List.take_append_drop p (story ds ends k)] at h0 hnew
        rw [List.nodup_append] at h0 ⊢
        simp only [List.mem_append, not_or] at hnew
        refine ⟨h0.1, List.nodup_cons.2 ⟨hnew.2, h0.2.1⟩, fun a ha b hb => ?_⟩
        rcases List.mem_cons.1 hb with rfl | hb
        · rintro rfl; exact hnew.1 ha
        · exact h0.2.2 a ha b hb
      · intro x hx
        rcases List.mem_append.1 hx with hx | hx
        · have := hm x (List.mem_of_mem_take hx); push_cast; omega
        · rcases List.mem_cons.1 hx with rfl | hx
          · push_cast; omega
          · have := hm x (List.mem_of_mem_drop hx); push_cast; omega
    | cut h a0 a1 =>
      have hp := fromHead_lt (f := nth ends k) (n := (story ds ends k).length) a0 (by omega)
      obtain ⟨p, hpe⟩ : ∃ p, (fromHead (dnth ds k).at_ (nth ends k) ((story ds ends k).length)).toNat = p := ⟨_, rfl⟩
      have hpl : p < (story ds ends k).length := by omega
      simp only [h, if_true, hpe, show ¬ (2 : Int) = 1 by decide, if_false]
      refine ⟨by simp; omega, ?_, ?_⟩
      · have h0 := hn
        rw [← List.take_append_drop (p + 1) (story ds ends k)] at h0
        rw [List.nodup_append] at h0 ⊢
        refine ⟨h0.1.sublist (List.take_sublist_take_left (by omega)), h0.2.1, fun a ha b hb => h0.2.2 a ((List.take_sublist_take_left (by omega)).subset ha) b hb⟩
      · intro x hx
        rcases List.mem_append.1 hx with hx | hx
        · have := hm x (List.mem_of_mem_take hx); push_cast; omega
        · have := hm x (List.mem_of_mem_drop hx); push_cast; omega
    | turn h =>
      simp only [h, if_true, show ¬ (3 : Int) = 1 by decide, show ¬ (3 : Int) = 2 by decide, if_false]
      refine ⟨by simp; omega, (List.reverse_perm _).nodup_iff.2 hn, fun x hx => ?_⟩
      have := hm x (List.mem_reverse.1 hx)
      push_cast; omega
    | prove h =>
      simp only [h, show ¬ (4 : Int) = 1 by decide, show ¬ (4 : Int) = 2 by decide, show ¬ (4 : Int) = 3 by decide, if_false]
      exact ⟨by omega, hn, fun x hx => by have := hm x hx; push_cast; omega⟩
theorem lenTo_nonneg {ds : List Deed} (hd : ∀ i, i < ds.length → deedOk (dnth ds i) (lenTo ds i) = true) {k : Nat} (hk : k ≤ ds.length) : 0 ≤ lenTo ds k := by
  have := (story_ok (ends := []) hd k hk).1; omega

/-- The deeds that weld: the links. -/
def weldL (ds : List Deed) : List Deed := ds.filter (fun d => decide (d.what = 1))
/-- A link's own deed. -/
def markD (ds : List Deed) (link : Int) : Deed := dnth (weldL ds) link.toNat
theorem weldL_take (ds : List Deed) : ∀ k, k ≤ ds.length → (weldL (ds.take k)).length = weldsTo ds k
  | 0, _ => by simp [weldL, weldsTo]
  | k + 1, h => by
    have e : ds.take (k + 1) = ds.take k ++ [dnth ds k] := by rw [List.take_add_one, dnth_lt (by omega)]; simp [show k < ds.length by omega]
    have ih := weldL_take ds k (by omega)
    simp only [weldL] at ih
    simp only [weldL, weldsTo, e, List.filter_append, List.length_append, ih]
    by_cases hw : (dnth ds k).what = 1 <;> simp [hw]
theorem weldL_len (ds : List Deed) : (weldL ds).length = weldsTo ds ds.length := by
  have := weldL_take ds ds.length (Nat.le_refl _)
  rwa [List.take_length] at this

def rightB (ds : List Deed) (ends : List Int) (s : Sight) : Bool :=
  let c := story ds ends s.after.toNat
  let d := markD ds (nth c (fromHead s.at_ s.from_ c.length).toNat)
  (decide (s.bar < 0) || decide (s.bar = d.bar)) && (decide (s.smith < 0) || decide (s.smith = d.smith))
def wrongsTo (C : Chain) (ends : List Int) : Nat → Int
  | 0 => 0
  | k + 1 => wrongsTo C ends k + (if rightB C.deeds ends (snth C.sights k) = true then 0 else 1)
def wrongs (C : Chain) (ends : List Int) : Int := wrongsTo C ends C.sights.length
theorem wrongsTo_le (C : Chain) (ends : List Int) : ∀ k : Nat, 0 ≤ wrongsTo C ends k ∧ wrongsTo C ends k ≤ k
  | 0 => by simp [wrongsTo]
  | k + 1 => by have := wrongsTo_le C ends k; simp only [wrongsTo]; split <;> omega

/-- How many ends are not known. -/
def unk : List Deed → Nat
  | [] => 0
  | d :: ds => unk ds + (if d.from_ = 2 then 1 else 0)
/-- The ends that a number stands for: its bits, that of the first deed lowest. -/
def endsOf : List Deed → Nat → List Int
  | [], _ => []
  | d :: ds, e => if d.from_ = 2 then (e % 2 : Nat) :: endsOf ds (e / 2) else d.from_ :: endsOf ds e
def choiceB : List Deed → List Int → Bool
  | [], [] => true
  | d :: ds, e :: es => (if d.from_ = 2 then wB e 0 1 else decide (e = d.from_)) && choiceB ds es
  | _, _ => false
def pastsL (ds : List Deed) : List (List Int) := (List.range (2 ^ unk ds)).map (endsOf ds)
/-- All ends, the first deed's first. -/
def choicesL : List Deed → List (List Int)
  | [] => [[]]
  | d :: ds => if d.from_ < 2 then (choicesL ds).map (d.from_ :: ·) else (choicesL ds).map (0 :: ·) ++ (choicesL ds).map (1 :: ·)

theorem endsOf_len : ∀ (ds : List Deed) (e : Nat), (endsOf ds e).length = ds.length
  | [], _ => rfl
  | d :: ds, e => by simp only [endsOf]; split <;> simp [endsOf_len ds]
theorem choice_len : ∀ {ds : List Deed} {es : List Int}, choiceB ds es = true → es.length = ds.length
  | [], [], _ => rfl
  | [], _ :: _, h => by simp [choiceB] at h
  | _ :: _, [], h => by simp [choiceB] at h
  | d :: ds, e :: es, h => by simp only [choiceB, Bool.and_eq_true] at h; simp [choice_len h.2]
theorem mem_pastsL : ∀ {ds : List Deed} {es : List Int}, es ∈ pastsL ds ↔ choiceB ds es = true
  | [], es => by cases es <;> simp [pastsL, endsOf, choiceB, unk]
  | d :: ds, es => by
    simp only [pastsL, List.mem_map, List.mem_range]
    constructor
    · rintro ⟨e, he, rfl⟩
      simp only [endsOf]
      by_cases h : d.from_ = 2
      · simp only [h, if_true, choiceB, Bool.and_eq_true, wB_iff]
        refine ⟨by omega, mem_pastsL.1 (List.mem_map.2 ⟨e / 2, List.mem_range.2 ?_, rfl⟩)⟩
        simp only [unk, h, if_true, Nat.pow_succ] at he
        omega
      · simp only [h, if_false, choiceB, decide_true, Bool.true_and]
        exact mem_pastsL.1 (List.mem_map.2 ⟨e, List.mem_range.2 (by simpa [unk, h] using he), rfl⟩)
    · intro h
      cases es with
      | nil => simp [choiceB] at h
      | cons x es =>
        simp only [choiceB, Bool.and_eq_true] at h
        obtain ⟨e, he, rfl⟩ := List.mem_map.1 (mem_pastsL.2 h.2)
        rw [List.mem_range] at he
        by_cases h2 : d.from_ = 2
        · simp only [h2, if_true, wB_iff] at h
          refine ⟨2 * e + x.toNat, by simp only [unk, h2, if_true, Nat.pow_succ]; omega, ?_⟩
          simp only [endsOf, h2, if_true]
          rw [show (2 * e + x.toNat) / 2 = e by omega, show (((2 * e + x.toNat) % 2 : Nat) : Int) = x by omega]
        · simp only [h2, if_false, decide_eq_true_eq] at h
          exact ⟨e, by simpa [unk, h2] using he, by simp [endsOf, h2, h.1]⟩
theorem endsOf_inj : ∀ {ds : List Deed} {a b : Nat}, a < 2 ^ unk ds → b < 2 ^ unk ds → endsOf ds a = endsOf ds b → a = b
  | [], a, b, ha, hb, _ => by simp [unk] at ha hb; omega
  | d :: ds, a, b, ha, hb, h => by
    by_cases h2 : d.from_ = 2
    · simp only [endsOf, h2, if_true, List.cons.injEq] at h
      simp only [unk, h2, if_true, Nat.pow_succ] at ha hb
      have := endsOf_inj (ds := ds) (a := a / 2) (b := b / 2) (by omega) (by omega) h.2
      omega
    · simp only [endsOf, h2, if_false, List.cons.injEq, true_and] at h
      exact endsOf_inj (ds := ds) (by simpa [unk, h2] using ha) (by simpa [unk, h2] using hb) h
theorem nodup_map_of {α β : Type} {f : α → β} : ∀ {l : List α}, l.Nodup → (∀ x ∈ l, ∀ y ∈ l, f x = f y → x = y) → (l.map f).Nodup
  | [], _, _ => by simp
  | a :: l, hn, h => by
    rw [List.nodup_cons] at hn
    rw [List.map_cons, List.nodup_cons]
    refine ⟨fun hm => ?_, nodup_map_of hn.2 (fun x hx y hy => h x (.tail _ hx) y (.tail _ hy))⟩
    obtain ⟨y, hy, he⟩ := List.mem_map.1 hm
    have := h y (.tail _ hy) a (.head _) he
    subst this; exact hn.1 hy
theorem pastsL_nodup (ds : List Deed) : (pastsL ds).Nodup :=
  nodup_map_of List.nodup_range (fun _ hx _ hy h => endsOf_inj (List.mem_range.1 hx) (List.mem_range.1 hy) h)
theorem mem_choicesL : ∀ {ds : List Deed} {es : List Int}, (∀ d ∈ ds, d.from_ ≤ 2) → (es ∈ choicesL ds ↔ choiceB ds es = true)
  | [], es, _ => by cases es <;> simp [choicesL, choiceB]
  | d :: ds, es, h => by
    have ih := fun es => mem_choicesL (ds := ds) (es := es) (fun x hx => h x (.tail _ hx))
    have h2 := h d (.head _)
    cases es with
    | nil => simp only [choicesL]; split <;> simp [choiceB]
    | cons e es =>
      simp only [choicesL, choiceB]
      by_cases hf : d.from_ < 2
      · have hg : ¬ d.from_ = 2 := by omega
        rw [if_pos hf, if_neg hg]
        simp only [List.mem_map, List.cons.injEq, Bool.and_eq_true, decide_eq_true_eq]
        constructor
        · rintro ⟨x, hx, rfl, rfl⟩; exact ⟨rfl, (ih _).1 hx⟩
        · rintro ⟨rfl, hc⟩; exact ⟨es, (ih _).2 hc, rfl, rfl⟩
      · have hg : d.from_ = 2 := by omega
        rw [if_neg hf, if_pos hg]
        simp only [List.mem_append, List.mem_map, List.cons.injEq, Bool.and_eq_true, wB_iff]
        constructor
        · rintro (⟨x, hx, rfl, rfl⟩ | ⟨x, hx, rfl, rfl⟩)
          · exact ⟨by omega, (ih _).1 hx⟩
          · exact ⟨by omega, (ih _).1 hx⟩
        · rintro ⟨he, hc⟩
          by_cases e0 : e = 0
          · exact .inl ⟨es, (ih _).2 hc, e0.symm, rfl⟩
          · exact .inr ⟨es, (ih _).2 hc, by omega, rfl⟩
theorem choicesL_nodup : ∀ (ds : List Deed), (choicesL ds).Nodup
  | [] => by simp [choicesL]
  | d :: ds => by
    have ih := choicesL_nodup ds
    simp only [choicesL]
    split
    · exact nodup_map_of ih (fun _ _ _ _ h => by simpa using h)
    · rw [List.nodup_append]
      refine ⟨nodup_map_of ih (fun _ _ _ _ h => by simpa using h), nodup_map_of ih (fun _ _ _ _ h => by simpa using h), fun a ha b hb => ?_⟩
      obtain ⟨x, _, rfl⟩ := List.mem_map.1 ha
      obtain ⟨y, _, rfl⟩ := List.mem_map.1 hb
      simp
theorem choices_perm {ds : List Deed} (h : ∀ d ∈ ds, d.from_ ≤ 2) : (choicesL ds).Perm (pastsL ds) :=
  (List.perm_ext_iff_of_nodup (choicesL_nodup ds) (pastsL_nodup ds)).2 (fun es => by rw [mem_choicesL h, mem_pastsL])
theorem Valid.from_le {C : Chain} (h : Valid C) : ∀ d ∈ C.deeds, d.from_ ≤ 2 := fun d hd => by
  obtain ⟨i, hi, rfl⟩ := List.getElem_of_mem hd
  have := deedIs (h.deed i hi)
  rw [dnth_lt hi] at this
  cases this <;> omega

/-- The truths, in the program's order and in the reference's. -/
def truthsP (C : Chain) : List (List Int) := (pastsL C.deeds).filter (fun e => decide (wrongs C e ≤ C.wrong))
def truthsR (C : Chain) : List (List Int) := (choicesL C.deeds).filter (fun e => decide (wrongs C e ≤ C.wrong))
theorem truths_perm {C : Chain} (h : Valid C) : (truthsR C).Perm (truthsP C) := (choices_perm h.from_le).filter _
theorem mem_truthsP {C : Chain} {e : List Int} : e ∈ truthsP C ↔ choiceB C.deeds e = true ∧ wrongs C e ≤ C.wrong := by
  simp [truthsP, mem_pastsL]
theorem truthsP_nodup (C : Chain) : (truthsP C).Nodup := (pastsL_nodup _).filter _

/-- The least number of sights that are not right. -/
def fewOf (C : Chain) (l : List (List Int)) : Int := l.foldl (fun m e => min m (wrongs C e)) C.sights.length
def fewV (C : Chain) : Int := fewOf C (pastsL C.deeds)
theorem fewOf_perm {C : Chain} {a b : List (List Int)} (h : a.Perm b) : fewOf C a = fewOf C b :=
  h.foldl_eq' (fun x _ y _ z => by omega) _

/-- The numbers from lo on, n of them, that are in a list. -/
def selTo (xs : List Int) (lo : Int) : Nat → List Int
  | 0 => []
  | n + 1 => selTo xs lo n ++ (if inB xs (lo + n) = true then [lo + n] else [])
theorem mem_selTo {xs : List Int} {lo x : Int} : ∀ {n : Nat}, x ∈ selTo xs lo n ↔ x ∈ xs ∧ lo ≤ x ∧ x < lo + n
  | 0 => by simp [selTo]; try omega
  | n + 1 => by
    simp only [selTo, List.mem_append, mem_selTo (n := n)]
    by_cases h : inB xs (lo + n) = true
    · simp only [h, if_true, List.mem_singleton]
      simp only [inB, decide_eq_true_eq] at h
      constructor
      · rintro (⟨h1, h2, h3⟩ | rfl)
        · exact ⟨h1, h2, by push_cast; omega⟩
        · exact ⟨h, by omega, by push_cast; omega⟩
      · rintro ⟨h1, h2, h3⟩
        by_cases e : x = lo + n
        · exact .inr e
        · exact .inl ⟨h1, h2, by push_cast at h3; omega⟩
    · simp only [h, if_false, List.not_mem_nil, or_false, Bool.false_eq_true]
      simp only [inB, decide_eq_true_eq] at h
      constructor
      · rintro ⟨h1, h2, h3⟩; exact ⟨h1, h2, by push_cast; omega⟩
      · rintro ⟨h1, h2, h3⟩
        by_cases e : x = lo + n
        · subst e; exact absurd h1 h
        · exact ⟨h1, h2, by push_cast at h3; omega⟩
theorem selTo_sorted {xs : List Int} {lo : Int} : ∀ {n : Nat}, (selTo xs lo n).Pairwise (· < ·)
  | 0 => by simp [selTo]
  | n + 1 => by
    simp only [selTo, List.pairwise_append]
    refine ⟨selTo_sorted, by split <;> simp, fun a ha b hb => ?_⟩
    have := (mem_selTo.1 ha)
    split at hb <;> simp at hb
    omega
theorem sorted_ext : ∀ {a b : List Int}, a.Pairwise (· < ·) → b.Pairwise (· < ·) → (∀ x, x ∈ a ↔ x ∈ b) → a = b
  | [], [], _, _, _ => rfl
  | [], y :: b, _, _, h => by have := (h y).2 (.head _); simp at this
  | x :: a, [], _, _, h => by have := (h x).1 (.head _); simp at this
  | x :: a, y :: b, ha, hb, h => by
    rw [List.pairwise_cons] at ha hb
    have hxy : x = y := by
      rcases List.mem_cons.1 ((h x).1 (.head _)) with e | e
      · exact e
      · rcases List.mem_cons.1 ((h y).2 (.head _)) with e' | e'
        · exact e'.symm
        · have h1 := hb.1 _ e; have h2 := ha.1 _ e'; omega
    subst hxy
    rw [sorted_ext ha.2 hb.2 (fun z => ⟨fun hz => ?_, fun hz => ?_⟩)]
    · rcases List.mem_cons.1 ((h z).1 (.tail _ hz)) with rfl | e
      · exact absurd (ha.1 _ hz) (by omega)
      · exact e
    · rcases List.mem_cons.1 ((h z).2 (.tail _ hz)) with rfl | e
      · exact absurd (hb.1 _ hz) (by omega)
      · exact e
theorem selTo_congr {xs ys : List Int} {lo : Int} {n : Nat} (h : ∀ x, x ∈ xs ↔ x ∈ ys) : selTo xs lo n = selTo ys lo n :=
  sorted_ext selTo_sorted selTo_sorted (fun x => by rw [mem_selTo, mem_selTo, h])
/-- A list of numbers without doubles, sorted, is what lies in the range. -/
theorem sel_of_sorted {xs ys : List Int} {lo : Int} {n : Nat} (hs : ys.Pairwise (· < ·)) (hm : ∀ x, x ∈ ys ↔ x ∈ xs) (hr : ∀ x ∈ xs, lo ≤ x ∧ x < lo + n) : ys = selTo xs lo n :=
  sorted_ext hs selTo_sorted (fun x => by rw [mem_selTo, hm]; exact ⟨fun h => ⟨h, hr x h⟩, fun h => h.1⟩)

end Go.Proofs.Ytgjikoebneiamaa
