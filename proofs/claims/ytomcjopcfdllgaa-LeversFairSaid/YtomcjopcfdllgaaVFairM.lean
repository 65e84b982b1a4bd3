/-
  Levers: machines of which one has the products of the other, times a number, and the pulls too: they are answered the same.
-/
import Derived.Test.YtomcjopcfdllgaaVWeightsM
import Derived.Test.YtomcjopcfdllgaaVUntil
import Derived.Test.YtomcjopcfdllgaaVFew

namespace Go.Proofs.Ytomcjopcfdllgaa
open Go.RowKit

theorem flat_app {α β : Type} (f g : α → List β) : ∀ l : List α, (l.flatMap (fun a => f a ++ g a)).Perm (l.flatMap f ++ l.flatMap g)
  | [] => .refl _
  | a :: l => by
    simp only [List.flatMap_cons]
    have h := flat_app f g l
    refine ((List.Perm.append_left (f a ++ g a) h)).trans ?_
    rw [List.append_assoc, List.append_assoc]
    refine List.Perm.append_left _ ?_
    rw [← List.append_assoc, ← List.append_assoc]
    exact List.Perm.append_right _ List.perm_append_comm
theorem flat_left {α β : Type} {f g : α → List β} : ∀ (l : List α), (∀ a ∈ l, (f a).Perm (g a)) → (l.flatMap f).Perm (l.flatMap g)
  | [], _ => .refl _
  | a :: l, h => by
    simp only [List.flatMap_cons]
    exact (h a (.head _)).append (flat_left l (fun b hb => h b (.tail _ hb)))
theorem flat_nil {α β : Type} : ∀ l : List α, l.flatMap (fun _ => ([] : List β)) = []
  | [] => rfl
  | _ :: l => by rw [List.flatMap_cons, flat_nil l]; rfl
theorem flat_swap {α β γ : Type} (f : α → β → List γ) : ∀ (l : List α) (m : List β), (l.flatMap (fun a => m.flatMap (f a))).Perm (m.flatMap (fun b => l.flatMap (fun a => f a b)))
  | [], m => by simp only [List.flatMap_nil]; rw [flat_nil]
  | a :: l, m => by
    simp only [List.flatMap_cons]
    exact (List.Perm.append_left _ (flat_swap f l m)).trans (flat_app _ _ m).symm
theorem prod_cons (a : Int) (x : List Int) : prodL (a :: x) = a * prodL x := by
  have h : ∀ (x : List Int) (p q : Int), x.foldl (fun p a => p * a) (p * q) = p * x.foldl (fun p a => p * a) q := fun x => by
    induction x with
    | nil => intro p q; rfl
    | cons b x ih => intro p q; simp only [List.foldl_cons]; rw [Int.mul_assoc, ih]
  have := h x a 1
  rw [Int.mul_one] at this
  simp only [prodL, List.foldl_cons, Int.one_mul]
  exact this
theorem prod_snoc (x : List Int) (a : Int) : prodL (x ++ [a]) = prodL x * a := by simp [prodL]
/-- All products of short arms. -/
def prodsA (ls : List Lev) : List Int := (armsL ls).map prodL
theorem prodsA_cons (l : Lev) (ls : List Lev) : prodsA (l :: ls) = (rangeL l.lo l.hi).flatMap (fun a => (prodsA ls).map (fun p => a * p)) := by
  simp only [prodsA, armsL, List.map_flatMap, List.map_map]
  congr 1
  funext a
  refine List.map_congr_left fun x _ => ?_
  exact prod_cons a x
theorem prodsA_perm {ls ms : List Lev} (h : ls.Perm ms) : (prodsA ls).Perm (prodsA ms) := by
  induction h with
  | nil => exact .refl _
  | cons l _ ih =>
    rw [prodsA_cons, prodsA_cons]
    exact flat_left _ (fun a _ => ih.map _)
  | swap l k ls =>
    simp only [prodsA_cons, List.map_flatMap, List.map_map]
    refine (flat_swap (fun a b => (prodsA ls).map ((fun p => a * p) ∘ (fun p => b * p))) (rangeL k.lo k.hi) (rangeL l.lo l.hi)).trans (List.Perm.of_eq ?_)
    congr 1
    funext b
    congr 1
    funext a
    refine List.map_congr_left fun p _ => ?_
    show a * (b * p) = b * (a * p)
    rw [← Int.mul_assoc, Int.mul_comm a b, Int.mul_assoc]
  | trans _ _ h1 h2 => exact h1.trans h2
theorem longP_cons (l : Lev) (ls : List Lev) : longP (l :: ls) = l.long * longP ls := by
  have h := prod_cons l.long (ls.map Lev.long)
  simpa only [prodL, List.foldl_cons, List.foldl_map, longP] using h
theorem longP_perm {ls ms : List Lev} (h : ls.Perm ms) : longP ls = longP ms := by
  induction h with
  | nil => rfl
  | cons l _ ih => rw [longP_cons, longP_cons, ih]
  | swap l k ls => rw [longP_cons, longP_cons, longP_cons, longP_cons, ← Int.mul_assoc, Int.mul_comm k.long l.long, Int.mul_assoc]
  | trans _ _ h1 h2 => exact h1.trans h2
/-- The products and leaks of all settings. -/
def viewL (M : Mach) : List (Int × Int) := (setsM M).map (fun s => (prodL s.1, s.2))
theorem viewL_is (M : Mach) : viewL M = (prodsA M.levers).flatMap (fun p => (rangeL M.lkLo M.lkHi).map (fun k => (p, k))) := by
  simp only [viewL, setsM, prodsA, List.map_flatMap, List.flatMap_map, List.map_map]
  rfl
def viewT (M : Mach) : List (Int × Int) := (viewL M).filter (fun q => truthB M q.2 q.1)
theorem viewT_is (M : Mach) : (truthsM M).map (fun s => (prodL s.1, s.2)) = viewT M := by
  rw [viewT, viewL, List.filter_map, truths_are]
  rfl
/-- B has the products and the pulls of A, times c. -/
structure LikeC (c : Int) (A B : Mach) : Prop where
  pos : 1 ≤ c
  view : (viewL B).Perm ((viewL A).map (fun q => (q.1 * c, q.2)))
  pull : ∀ w m k, force B w m k = force A w m k * c
  bals : B.bals = A.bals
  wrong : B.wrong = A.wrong

theorem times_le {x y c : Int} (hc : 1 ≤ c) : x * c ≤ y * c ↔ x ≤ y := ⟨fun h => Int.le_of_mul_le_mul_right h (by omega), fun h => Int.mul_le_mul_of_nonneg_right h (by omega)⟩
variable {c : Int} {A B : Mach}
theorem LikeC.right (h : LikeC c A B) (k P : Int) (b : Bal) : rightP B k (P * c) b = rightP A k P b := by
  unfold rightP
  rw [h.pull, ← Int.mul_assoc, ← Int.mul_assoc]
  simp only [times_le h.pos]
theorem LikeC.wrongs (h : LikeC c A B) (k P : Int) : wrongsP B k (P * c) = wrongsP A k P := by
  unfold wrongsP
  rw [h.bals]
  congr 1
  congr 1
  funext b
  rw [h.right]
theorem LikeC.truth (h : LikeC c A B) (k P : Int) : truthB B k (P * c) = truthB A k P := by rw [truthB, truthB, h.wrongs, h.wrong]
theorem LikeC.viewT (h : LikeC c A B) : (viewT B).Perm ((viewT A).map (fun q => (q.1 * c, q.2))) := by
  refine (h.view.filter _).trans (List.Perm.of_eq ?_)
  rw [List.filter_map]
  congr 1
  refine List.filter_congr fun q _ => ?_
  show truthB B q.2 (q.1 * c) = _
  rw [h.truth]
theorem LikeC.many (h : LikeC c A B) : (truthsM B).length = (truthsM A).length := by
  have e1 := congrArg List.length (viewT_is B)
  have e2 := congrArg List.length (viewT_is A)
  have e3 := h.viewT.length_eq
  simp only [List.length_map] at e1 e2 e3
  omega
theorem LikeC.fewest (h : LikeC c A B) : fewestM B = fewestM A := by
  have e1 : fewestM B = ((viewL B).map (fun q => wrongsP B q.2 q.1)).foldl min B.bals.length := by rw [fewestM, viewL, List.map_map]; rfl
  have e2 : fewestM A = ((viewL A).map (fun q => wrongsP A q.2 q.1)).foldl min A.bals.length := by rw [fewestM, viewL, List.map_map]; rfl
  rw [e1, e2, h.bals]
  refine foldl_min_eq (fun x hx => ?_) (fun y hy => ?_)
  · obtain ⟨q, hq, rfl⟩ := List.mem_map.1 hx
    obtain ⟨r, hr, rfl⟩ := List.mem_map.1 (h.view.subset hq)
    exact ⟨_, List.mem_map.2 ⟨r, hr, rfl⟩, by rw [h.wrongs]; exact Nat.le_refl _⟩
  · obtain ⟨r, hr, rfl⟩ := List.mem_map.1 hy
    exact ⟨_, List.mem_map.2 ⟨_, h.view.symm.subset (List.mem_map.2 ⟨r, hr, rfl⟩), rfl⟩, by rw [h.wrongs]; exact Nat.le_refl _⟩
theorem up_div {f p c : Int} (hp : 0 < p) (hc : 1 ≤ c) : upD (f * c) (p * c) = upD f p := by
  have hpc : 0 < p * c := Int.mul_pos hp (by omega)
  have h1 : upD (f * c) (p * c) ≤ upD f p := by
    rw [upD_le hpc]
    have h := (upD_le (n := f) (P := upD f p) hp).1 (Int.le_refl _)
    have h2 := Int.mul_le_mul_of_nonneg_right h (show 0 ≤ c by omega)
    rw [Int.mul_assoc, Int.mul_comm c, ← Int.mul_assoc]
    exact h2
  have h2 : upD f p ≤ upD (f * c) (p * c) := by
    rw [upD_le hp]
    have h := (upD_le (n := f * c) (P := upD (f * c) (p * c)) hpc).1 (Int.le_refl _)
    rw [Int.mul_assoc, Int.mul_comm c, ← Int.mul_assoc] at h
    exact (times_le hc).1 h
  omega
theorem viewT_pos {M : Mach} (hV : ValidM M) {q : Int × Int} (hq : q ∈ Go.Proofs.Ytomcjopcfdllgaa.viewT M) : 1 ≤ q.1 := by
  rw [← viewT_is] at hq
  obtain ⟨s, hs, rfl⟩ := List.mem_map.1 hq
  exact prod_pos hV (mem_truths.1 hs).1
theorem loadLo_is (M : Mach) (w m : Int) : loadLo M w m = ((viewT M).map (fun q => force M w m q.2 / q.1)).foldl min 9223372036854775807 := by rw [loadLo, ← viewT_is, List.map_map]; rfl
theorem loadHi_is (M : Mach) (w m : Int) : loadHi M w m = ((viewT M).map (fun q => upD (force M w m q.2) q.1)).foldl max (-1) := by rw [loadHi, ← viewT_is, List.map_map]; rfl
theorem allPull_is (M : Mach) (w m load : Int) : allPull M w m load = (viewT M).all (fun q => pullsB M w m load q.2 q.1) := by rw [allPull, ← viewT_is, List.all_map]; rfl
theorem LikeC.quot (h : LikeC c A B) (w m : Int) (q : Int × Int) : force B w m q.2 / (q.1 * c) = force A w m q.2 / q.1 := by
  rw [h.pull]
  exact Int.mul_ediv_mul_of_pos_left _ _ (by have := h.pos; omega)
theorem LikeC.load (h : LikeC c A B) (hA : ValidM A) (w m : Int) : loadA B w m = loadA A w m := by
  have hm := h.many
  have he : (truthsM B).isEmpty = (truthsM A).isEmpty := by
    rw [Bool.eq_iff_iff, List.isEmpty_iff_length_eq_zero, List.isEmpty_iff_length_eq_zero, hm]
  have h1 : loadLo B w m = loadLo A w m := by
    rw [loadLo_is, loadLo_is]
    refine minI_eq (fun x hx => ?_) (fun y hy => ?_)
    · obtain ⟨q, hq, rfl⟩ := List.mem_map.1 hx
      obtain ⟨r, hr, rfl⟩ := List.mem_map.1 (h.viewT.subset hq)
      exact ⟨_, List.mem_map.2 ⟨r, hr, rfl⟩, Int.le_of_eq (h.quot w m r).symm⟩
    · obtain ⟨r, hr, rfl⟩ := List.mem_map.1 hy
      exact ⟨_, List.mem_map.2 ⟨_, h.viewT.symm.subset (List.mem_map.2 ⟨r, hr, rfl⟩), rfl⟩, Int.le_of_eq (h.quot w m r)⟩
  have h2 : loadHi B w m = loadHi A w m := by
    rw [loadHi_is, loadHi_is]
    refine maxI_eq (fun x hx => ?_) (fun y hy => ?_)
    · obtain ⟨q, hq, rfl⟩ := List.mem_map.1 hx
      obtain ⟨r, hr, rfl⟩ := List.mem_map.1 (h.viewT.subset hq)
      exact ⟨_, List.mem_map.2 ⟨r, hr, rfl⟩, by rw [h.pull, up_div (by have := viewT_pos hA hr; omega) h.pos]; exact Int.le_refl _⟩
    · obtain ⟨r, hr, rfl⟩ := List.mem_map.1 hy
      exact ⟨_, List.mem_map.2 ⟨_, h.viewT.symm.subset (List.mem_map.2 ⟨r, hr, rfl⟩), rfl⟩, by rw [h.pull, up_div (by have := viewT_pos hA hr; omega) h.pos]; exact Int.le_refl _⟩
  unfold loadA
  rw [he, h1, h2]
theorem LikeC.pulls (h : LikeC c A B) (w m load : Int) (q : Int × Int) : pullsB B w m load q.2 (q.1 * c) = pullsB A w m load q.2 q.1 := by
  unfold pullsB
  rw [h.pull, ← Int.mul_assoc]
  simp only [times_le h.pos]
theorem LikeC.allPull (h : LikeC c A B) (w m load : Int) : allPull B w m load = allPull A w m load := by
  rw [allPull_is, allPull_is, Bool.eq_iff_iff, List.all_eq_true, List.all_eq_true]
  constructor
  · intro hall r hr
    rw [← h.pulls]
    exact hall _ (h.viewT.symm.subset (List.mem_map.2 ⟨r, hr, rfl⟩))
  · intro hall q hq
    obtain ⟨r, hr, rfl⟩ := List.mem_map.1 (h.viewT.subset hq)
    exact (h.pulls w m load r).trans (hall r hr)
theorem LikeC.until (h : LikeC c A B) (w load : Int) : untilA B w load = untilA A w load := by
  have hm := h.many
  have he : (truthsM B).isEmpty = (truthsM A).isEmpty := by
    rw [Bool.eq_iff_iff, List.isEmpty_iff_length_eq_zero, List.isEmpty_iff_length_eq_zero, hm]
  have hl : lastU B w load = lastU A w load := by
    unfold lastU
    congr 1
    congr 1
    funext u
    exact h.allPull w (99 - (u : Nat)) load
  unfold untilA
  rw [he, hl]

/-- The levers in another order. -/
theorem like_perm {M : Mach} {ls : List Lev} (h : ls.Perm M.levers) : LikeC 1 M { M with levers := ls } where
  pos := by omega
  view := by
    rw [viewL_is, viewL_is]
    have e : ∀ l : List (Int × Int), l.map (fun q => (q.1 * 1, q.2)) = l := fun l => by
      conv => rhs; rw [← List.map_id l]
      refine List.map_congr_left fun q _ => ?_
      rw [Int.mul_one]; rfl
    rw [e]
    exact (prodsA_perm h).flatMap_right _
  pull := fun w m k => by rw [Int.mul_one]; unfold force; rw [longP_perm h]
  bals := rfl
  wrong := rfl
theorem range_self (a : Int) : rangeL a a = [a] := by
  have h : (rangeL a a).length = 1 := by rw [range_len]; omega
  match hl : rangeL a a, h with
  | [x], _ =>
    have : x ∈ rangeL a a := by rw [hl]; simp
    have := mem_range.1 this
    rw [show x = a by omega]
theorem arms_snoc (arm : Int) : ∀ ls : List Lev, armsL (ls ++ [⟨arm, arm, arm⟩]) = (armsL ls).map (· ++ [arm])
  | [] => by simp [armsL, range_self]
  | l :: ls => by
    simp only [List.cons_append, armsL, arms_snoc arm ls, List.map_flatMap, List.map_map]
    rfl
/-- With one fair lever more. -/
def fairM (M : Mach) (arm : Int) : Mach := { M with levers := M.levers ++ [⟨arm, arm, arm⟩] }
theorem like_fair {M : Mach} {arm : Int} (h : 1 ≤ arm) : LikeC arm M (fairM M arm) where
  pos := h
  view := by
    refine List.Perm.of_eq ?_
    rw [viewL_is, viewL_is]
    simp only [fairM, prodsA, arms_snoc, List.map_map, List.flatMap_map, List.map_flatMap]
    congr 1
    funext x
    refine List.map_congr_left fun k _ => ?_
    show (prodL (x ++ [arm]), k) = (prodL x * arm, k)
    rw [prod_snoc]
  pull := fun w m k => by
    unfold force
    rw [Int.mul_assoc]
    congr 1
    simp [fairM, longP]
  bals := rfl
  wrong := rfl
theorem rev_valid {M : Mach} (hV : ValidM M) : ValidM { M with levers := M.levers.reverse } := ⟨by simpa using hV.nl, fun l hl => hV.lev l (by simpa using hl), hV.water, hV.leak, hV.nb, hV.bal, hV.wrong⟩
/-- No levers, balances and leak: the weight and the water. -/
def bareM (water : Int) : Mach := { levers := [], water := water, lkLo := 0, lkHi := 0, bals := [], wrong := 0 }
theorem bare_valid {x : Int} (h : 0 ≤ x ∧ x ≤ 9999) : ValidM (bareM x) := ⟨Nat.zero_le _, by simp [bareM], h, (show (0 : Int) ≤ 0 ∧ (0 : Int) ≤ 0 ∧ (0 : Int) ≤ 20 by decide), Nat.zero_le _, by simp [bareM], (show (0 : Int) ≤ 0 ∧ (0 : Int) ≤ 6 by decide)⟩
theorem bare_load {x w m : Int} (hx : 0 ≤ x ∧ x ≤ 9999) (hw : 0 ≤ w ∧ w ≤ 9999) : loadA (bareM x) w m = ((w + x, w + x), 0) := by
  have ht : truthsM (bareM x) = [([], 0)] := by
    simp [truths_are, setsM, bareM, armsL, range_self, truthB, wrongsP]
  have hf : force (bareM x) w m 0 = w + x := by
    simp only [force, bareM, longP, List.foldl_nil, Int.mul_one, Int.mul_zero]
    omega
  have h1 : loadLo (bareM x) w m = w + x := by
    simp only [loadLo, ht, List.map_cons, List.map_nil, List.foldl_cons, List.foldl_nil, hf, prodL, Int.ediv_one]
    omega
  have h2 : loadHi (bareM x) w m = w + x := by
    simp only [loadHi, ht, List.map_cons, List.map_nil, List.foldl_cons, List.foldl_nil, hf, prodL, upD, Int.ediv_one]
    omega
  unfold loadA
  rw [ht, h1, h2]
  rfl
end Go.Proofs.Ytomcjopcfdllgaa
