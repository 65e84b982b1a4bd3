/-
  Levers: one more balance, wider spans, a greater Off, more wrong ones: what becomes of the truths and of the load.
-/
import Derived.Test.YtomcjopcfdllgaaVWeightsM
import Derived.Test.YtomcjopcfdllgaaVFew

namespace Go.Proofs.Ytomcjopcfdllgaa
open Go.RowKit

/-- All that can be so of A can be so of B. -/
def InsideM (A B : Mach) (w m : Int) : Prop := truthsM A ≠ [] → truthsM B ≠ [] ∧ (truthsM A).length ≤ (truthsM B).length ∧ loadLo B w m ≤ loadLo A w m ∧ loadHi A w m ≤ loadHi B w m
theorem inside_sub {A B : Mach} (h : (truthsM A).Sublist (truthsM B)) (hf : ∀ w m k, force B w m k = force A w m k) (w m : Int) : InsideM A B w m := by
  intro hne
  have hsub := h.subset
  refine ⟨fun e => ?_, h.length_le, ?_, ?_⟩
  · rw [e] at h
    exact hne (List.sublist_nil.1 h)
  · obtain ⟨a1, a2, _⟩ := minI_fold ((truthsM B).map (fun s => force B w m s.2 / prodL s.1)) 9223372036854775807
    obtain ⟨_, _, b3⟩ := minI_fold ((truthsM A).map (fun s => force A w m s.2 / prodL s.1)) 9223372036854775807
    unfold loadLo
    rcases b3 with b3 | b3
    · omega
    · obtain ⟨s, hs, e⟩ := List.mem_map.1 b3
      have h1 := a2 _ (List.mem_map.2 ⟨s, hsub hs, rfl⟩)
      rw [hf] at h1
      omega
  · obtain ⟨a1, a2, _⟩ := maxI_fold ((truthsM B).map (fun s => upD (force B w m s.2) (prodL s.1))) (-1)
    obtain ⟨_, _, b3⟩ := maxI_fold ((truthsM A).map (fun s => upD (force A w m s.2) (prodL s.1))) (-1)
    unfold loadHi
    rcases b3 with b3 | b3
    · omega
    · obtain ⟨s, hs, e⟩ := List.mem_map.1 b3
      have h1 := a2 _ (List.mem_map.2 ⟨s, hsub hs, rfl⟩)
      rw [hf] at h1
      omega
theorem filter_imp {α : Type} {p q : α → Bool} : ∀ {l : List α}, (∀ x ∈ l, p x = true → q x = true) → (l.filter p).Sublist (l.filter q)
  | [], _ => .slnil
  | x :: l, h => by
    have ih := filter_imp (l := l) (fun y hy => h y (.tail _ hy))
    rw [List.filter_cons, List.filter_cons]
    by_cases hp : p x = true
    · rw [if_pos hp, if_pos (h x (.head _) hp)]; exact ih.cons_cons _
    · rw [if_neg hp]
      split
      · exact ih.cons _
      · exact ih
theorem flat_sub {α β : Type} {f g : α → List β} (hfg : ∀ a, (f a).Sublist (g a)) : ∀ {l m : List α}, l.Sublist m → (l.flatMap f).Sublist (m.flatMap g) := by
  intro l m h
  induction h with
  | slnil => exact .slnil
  | cons a _ ih => rw [List.flatMap_cons]; exact ih.trans (List.sublist_append_right _ _)
  | cons_cons a _ ih => rw [List.flatMap_cons, List.flatMap_cons]; exact (hfg a).append ih
theorem range_cons {lo hi : Int} (h : lo ≤ hi) : rangeL lo hi = lo :: rangeL (lo + 1) hi := by
  unfold rangeL
  have e : (hi - lo + 1).toNat = (hi - (lo + 1) + 1).toNat + 1 := by omega
  rw [e, List.range_succ_eq_map, List.map_cons, List.map_map]
  congr 1
  · show lo + ((0 : Nat) : Int) = lo; omega
  · refine List.map_congr_left fun k _ => ?_
    show lo + ((k + 1 : Nat) : Int) = lo + 1 + (k : Int)
    omega
theorem range_snocM {lo hi : Int} (h : lo ≤ hi + 1) : rangeL lo (hi + 1) = rangeL lo hi ++ [hi + 1] := by
  unfold rangeL
  have e : (hi + 1 - lo + 1).toNat = (hi - lo + 1).toNat + 1 := by omega
  rw [e, List.range_succ, List.map_append]
  congr 1
  show [lo + (((hi - lo + 1).toNat : Nat) : Int)] = [hi + 1]
  congr 1
  omega
theorem range_low {lo hi : Int} : ∀ n : Nat, (rangeL lo hi).Sublist (rangeL (lo - n) hi)
  | 0 => by rw [show lo - ((0 : Nat) : Int) = lo by omega]; exact .refl _
  | n + 1 => by
    refine (range_low n).trans ?_
    by_cases h : lo - ((n + 1 : Nat) : Int) ≤ hi
    · rw [range_cons h, show lo - ((n + 1 : Nat) : Int) + 1 = lo - n by omega]
      exact List.sublist_cons_self _ _
    · have e : rangeL (lo - (n : Nat)) hi = [] := List.eq_nil_iff_forall_not_mem.2 fun x hx => by have := mem_range.1 hx; omega
      rw [e]; exact List.nil_sublist _
theorem range_high {lo hi : Int} : ∀ n : Nat, (rangeL lo hi).Sublist (rangeL lo (hi + n))
  | 0 => by rw [show hi + ((0 : Nat) : Int) = hi by omega]; exact .refl _
  | n + 1 => by
    refine (range_high n).trans ?_
    by_cases h : lo ≤ hi + n + 1
    · rw [show hi + ((n + 1 : Nat) : Int) = hi + n + 1 by omega, range_snocM h]
      exact List.sublist_append_left _ _
    · have e : rangeL lo (hi + (n : Nat)) = [] := List.eq_nil_iff_forall_not_mem.2 fun x hx => by have := mem_range.1 hx; omega
      rw [e]; exact List.nil_sublist _
theorem range_wide {lo hi lo' hi' : Int} (h1 : lo' ≤ lo) (h2 : hi ≤ hi') : (rangeL lo hi).Sublist (rangeL lo' hi') := by
  have a := range_low (lo := lo) (hi := hi) (lo - lo').toNat
  have b := range_high (lo := lo') (hi := hi) (hi' - hi).toNat
  rw [show lo - ((lo - lo').toNat : Int) = lo' by omega] at a
  rw [show hi + ((hi' - hi).toNat : Int) = hi' by omega] at b
  exact a.trans b
/-- Levers side by side, the second ones with wider spans. -/
def Wider : List Lev → List Lev → Prop
  | [], [] => True
  | l :: ls, k :: ks => k.lo ≤ l.lo ∧ l.hi ≤ k.hi ∧ k.long = l.long ∧ Wider ls ks
  | _, _ => False
theorem wider_refl : ∀ ls, Wider ls ls
  | [] => trivial
  | _ :: ls => ⟨Int.le_refl _, Int.le_refl _, rfl, wider_refl ls⟩
theorem wider_set : ∀ (ls : List Lev) (j : Nat) (k : Lev), (∀ l, ls[j]? = some l → k.lo ≤ l.lo ∧ l.hi ≤ k.hi ∧ k.long = l.long) → Wider ls (ls.set j k)
  | [], _, _, _ => trivial
  | l :: ls, 0, k, h => by
    obtain ⟨h1, h2, h3⟩ := h l rfl
    exact ⟨h1, h2, h3, wider_refl ls⟩
  | _ :: ls, j + 1, k, h => ⟨Int.le_refl _, Int.le_refl _, rfl, wider_set ls j k (fun x hx => h x hx)⟩
theorem arms_wide : ∀ {ls ks : List Lev}, Wider ls ks → (armsL ls).Sublist (armsL ks)
  | [], [], _ => .refl _
  | l :: ls, k :: ks, h => by
    obtain ⟨h1, h2, _, h4⟩ := h
    exact flat_sub (fun a => (arms_wide h4).map _) (range_wide h1 h2)
  | [], _ :: _, h => h.elim
  | _ :: _, [], h => h.elim
theorem long_wide : ∀ {ls ks : List Lev}, Wider ls ks → ∀ p : Int, ks.foldl (fun p l => p * l.long) p = ls.foldl (fun p l => p * l.long) p
  | [], [], _, _ => rfl
  | l :: ls, k :: ks, h, p => by
    obtain ⟨_, _, h3, h4⟩ := h
    rw [List.foldl_cons, List.foldl_cons, h3, long_wide h4]
  | [], _ :: _, h, _ => h.elim
  | _ :: _, [], h, _ => h.elim
/-- Balances side by side, the second ones off by more. -/
def Looser : List Bal → List Bal → Prop
  | [], [] => True
  | b :: bs, c :: cs => (c.weight = b.weight ∧ c.minutes = b.minutes ∧ c.load = b.load ∧ b.off ≤ c.off) ∧ Looser bs cs
  | _, _ => False
theorem looser_refl : ∀ bs, Looser bs bs
  | [] => trivial
  | _ :: bs => ⟨⟨rfl, rfl, rfl, Int.le_refl _⟩, looser_refl bs⟩
theorem looser_set : ∀ (bs : List Bal) (j : Nat) (c : Bal), (∀ b, bs[j]? = some b → c.weight = b.weight ∧ c.minutes = b.minutes ∧ c.load = b.load ∧ b.off ≤ c.off) → Looser bs (bs.set j c)
  | [], _, _, _ => trivial
  | b :: bs, 0, _, h => ⟨h b rfl, looser_refl bs⟩
  | _ :: bs, j + 1, c, h => ⟨⟨rfl, rfl, rfl, Int.le_refl _⟩, looser_set bs j c (fun x hx => h x hx)⟩
/-- B has wider spans, looser balances, and as many wrong ones at least. -/
structure WideM (A B : Mach) : Prop where
  levers : Wider A.levers B.levers
  water : B.water = A.water
  lkLo : B.lkLo ≤ A.lkLo
  lkHi : A.lkHi ≤ B.lkHi
  bals : Looser A.bals B.bals
  wrong : A.wrong ≤ B.wrong
theorem WideM.force {A B : Mach} (h : WideM A B) (w m k : Int) : force B w m k = force A w m k := by
  unfold Go.Proofs.Ytomcjopcfdllgaa.force longP
  rw [h.water, long_wide h.levers]
theorem WideM.right {A B : Mach} (h : WideM A B) {k P : Int} (hP : 0 ≤ P) {b c : Bal} (hb : c.weight = b.weight ∧ c.minutes = b.minutes ∧ c.load = b.load ∧ b.off ≤ c.off) (hr : rightP A k P b = true) : rightP B k P c = true := by
  simp only [rightP, Bool.and_eq_true, decide_eq_true_eq, h.force] at hr ⊢
  rw [hb.1, hb.2.1, hb.2.2.1]
  have h1 : (b.load - c.off) * P ≤ (b.load - b.off) * P := Int.mul_le_mul_of_nonneg_right (by omega) hP
  have h2 : (b.load + b.off) * P ≤ (b.load + c.off) * P := Int.mul_le_mul_of_nonneg_right (by omega) hP
  omega
theorem WideM.wrongs {A B : Mach} (h : WideM A B) {k P : Int} (hP : 0 ≤ P) : wrongsP B k P ≤ wrongsP A k P := by
  have key : ∀ (bs cs : List Bal), Looser bs cs → (cs.filter (fun b => !rightP B k P b)).length ≤ (bs.filter (fun b => !rightP A k P b)).length := fun bs => by
    induction bs with
    | nil =>
      intro cs hl
      cases cs with
      | nil => exact Nat.le_refl _
      | cons _ _ => exact hl.elim
    | cons b bs ih =>
      intro cs hl
      cases cs with
      | nil => exact hl.elim
      | cons c cs =>
        have h1 := ih cs hl.2
        rw [List.filter_cons, List.filter_cons]
        cases hr : rightP A k P b with
        | true =>
          rw [h.right hP hl.1 hr]
          simpa using h1
        | false =>
          simp only [Bool.not_false, if_true, List.length_cons]
          split
          · rw [List.length_cons]; omega
          · omega
  exact key _ _ h.bals
theorem WideM.inside {A B : Mach} (h : WideM A B) (hA : ValidM A) (w m : Int) : InsideM A B w m := by
  refine inside_sub ?_ h.force w m
  have hs : (setsM A).Sublist (setsM B) := flat_sub (fun x => (range_wide h.lkLo h.lkHi).map _) (arms_wide h.levers)
  have h1 : ((setsM A).filter (fun s => truthB A s.2 (prodL s.1))).Sublist ((setsM A).filter (fun s => truthB B s.2 (prodL s.1))) := filter_imp (fun s hs ht => by
    have hp := prod_pos hA hs
    have hw := h.wrongs (k := s.2) (P := prodL s.1) (by omega)
    have h3 := h.wrong
    rw [truthB_is, decide_eq_true_eq] at ht ⊢
    omega)
  exact h1.trans (hs.filter _)
/-- One more balance. -/
def addB (M : Mach) (b : Bal) : Mach := { M with bals := M.bals ++ [b] }
theorem add_inside (M : Mach) (b : Bal) (w m : Int) : InsideM (addB M b) M w m := by
  refine inside_sub (A := addB M b) (B := M) ?_ (fun _ _ _ => rfl) w m
  rw [truths_are, truths_are]
  refine filter_imp (l := setsM M) (fun s _ ht => ?_)
  have hw : wrongsP M s.2 (prodL s.1) ≤ wrongsP (addB M b) s.2 (prodL s.1) := by
    unfold wrongsP addB
    rw [List.filter_append, List.length_append]
    exact Nat.le_add_right _ _
  rw [truthB_is, decide_eq_true_eq] at ht ⊢
  have : (addB M b).wrong = M.wrong := rfl
  omega
theorem arms_some : ∀ {ls : List Lev}, (∀ l ∈ ls, l.lo ≤ l.hi) → armsL ls ≠ []
  | [], _ => by simp [armsL]
  | l :: ls, h => by
    obtain ⟨x, hx⟩ := List.exists_mem_of_ne_nil _ (arms_some (ls := ls) (fun k hk => h k (.tail _ hk)))
    have : l.lo :: x ∈ armsL (l :: ls) := mem_arms.2 ⟨l.lo, x, rfl, ⟨Int.le_refl _, h l (.head _)⟩, hx⟩
    intro e
    rw [e] at this
    cases this
theorem sets_some {M : Mach} (hV : ValidM M) : setsM M ≠ [] := by
  obtain ⟨x, hx⟩ := List.exists_mem_of_ne_nil _ (arms_some (fun l hl => (hV.lev l hl).2.2.1))
  have h1 : ((x, M.lkLo) : List Int × Int) ∈ setsM M := mem_sets.2 ⟨hx, Int.le_refl _, hV.leak.2.1⟩
  intro e
  rw [e] at h1
  cases h1
theorem wrongs_le (M : Mach) (k P : Int) : wrongsP M k P ≤ M.bals.length := List.length_filter_le _ _
theorem fewest_le (M : Mach) : fewestM M ≤ M.bals.length := (foldl_min_le _ _).1
/-- There is a truth just if the least number of wrong balances is at most that of those that can be. -/
theorem truth_few {M : Mach} (hV : ValidM M) : truthsM M ≠ [] ↔ (fewestM M : Int) ≤ M.wrong := by
  obtain ⟨a1, a2, a3⟩ := foldl_min_le ((setsM M).map (fun s => wrongsP M s.2 (prodL s.1))) M.bals.length
  constructor
  · intro h
    obtain ⟨s, hs⟩ := List.exists_mem_of_ne_nil _ h
    obtain ⟨h1, h2⟩ := mem_truths.1 hs
    rw [truthB_is, decide_eq_true_eq] at h2
    have h3 := a2 _ (List.mem_map.2 ⟨s, h1, rfl⟩)
    have h4 : fewestM M ≤ wrongsP M s.2 (prodL s.1) := h3
    omega
  · intro h
    have key : ∃ s ∈ setsM M, wrongsP M s.2 (prodL s.1) ≤ fewestM M := by
      rcases a3 with a3 | a3
      · obtain ⟨s, hs⟩ := List.exists_mem_of_ne_nil _ (sets_some hV)
        have e : fewestM M = M.bals.length := a3
        exact ⟨s, hs, by have := wrongs_le M s.2 (prodL s.1); omega⟩
      · obtain ⟨s, hs, e⟩ := List.mem_map.1 a3
        have e2 : fewestM M = wrongsP M s.2 (prodL s.1) := e.symm
        exact ⟨s, hs, by omega⟩
    obtain ⟨s, hs, hle⟩ := key
    intro e
    have : s ∈ truthsM M := mem_truths.2 ⟨hs, by rw [truthB_is, decide_eq_true_eq]; omega⟩
    rw [e] at this
    cases this
end Go.Proofs.Ytomcjopcfdllgaa
