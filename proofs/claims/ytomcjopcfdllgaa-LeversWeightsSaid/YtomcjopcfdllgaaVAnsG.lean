/-
  Levers: the keys of a map of answers, sorted by the library.
  Levers: what is asked of each group of truths.
-/
import Derived.Test.YtomcjopcfdllgaaVShelf
import Derived.Test.YtomcjopcfdllgaaVRange
import Derived.Maps.OwnIn
import Derived.Maps.OwnSet
import Derived.Lib.SlKeysI
import Derived.Test.YtomcjopcfdllgaaVMany

namespace Go.Proofs.Ytomcjopcfdllgaa
open Go.RowKit Go.Maps Go.Sort Go.Shelf

/-- What the map reads as, when xs were asked. -/
def askD (xs : List Int) : DataW Unit := xs.foldl (fun D x => D.put (.int .i64 x) (.lit (.bool true))) (.map [])
theorem askD_snoc (xs : List Int) (x : Int) : askD (xs ++ [x]) = (askD xs).put (.int .i64 x) (.lit (.bool true)) := by simp [askD]
theorem key_int (x : Int) : WideAt.IsKeyLit (.int .i64 x) := trivial
theorem askD_tidy (xs : List Int) : Tidy (askD xs) := by
  have h : ∀ (xs : List Int) (D : DataW Unit), Tidy D → Tidy (xs.foldl (fun D x => D.put (.int .i64 x) (.lit (.bool true))) D) := fun xs => by
    induction xs with
    | nil => intro D h; exact h
    | cons x xs ih => intro D h; exact ih _ (h.put (key_int x) _)
  exact h xs _ tidy_empty
theorem askD_has (xs : List Int) (x : Int) : has (askD xs) (.int .i64 x) = true ↔ x ∈ xs := by
  have h : ∀ (xs : List Int) (D : DataW Unit), IsMap D → (has (xs.foldl (fun D x => D.put (.int .i64 x) (.lit (.bool true))) D) (.int .i64 x) = true ↔ has D (.int .i64 x) = true ∨ x ∈ xs) := fun xs => by
    induction xs with
    | nil => intro D _; simp
    | cons y xs ih =>
      intro D hD
      rw [List.foldl_cons, ih _ (hD.put _ _)]
      by_cases e : x = y
      · subst e
        simp [has_put_same hD (key_int x)]
      · rw [has_put_other (by intro h; injection h with _ h; exact e h)]
        simp [e]
  rw [askD, h xs _ tidy_empty.isMap]
  simp [has]
theorem keys_members {P : Program} {k : TypeId} {R : Value → Option (DataW Unit × List MemPlace)} {w : World} {b n : Nat} {D : DataW Unit} (hown : w.ownsMap P k R b n D) (hk : P.underlying k = some (.int .i64)) (hT : Tidy D) {ss : List Int} (hp : ss.Perm (intKeys D)) : ss.Nodup ∧ ∀ x, x ∈ ss ↔ has D (.int .i64 x) = true := by
  obtain ⟨es, rfl, hpw⟩ := hT
  obtain ⟨es', he, hko⟩ := hown.keysOf
  cases he
  have hi : ∀ p ∈ es, ∃ x, p.1 = .int .i64 x := fun p hp => by
    obtain ⟨v, hv⟩ := hko p hp
    obtain ⟨x, _, hx, _⟩ := Maps.keyOf_i64 hk hv
    exact ⟨x, hx⟩
  have hnd : (intKeys (.map es)).Nodup := by
    show (es.map fun p => Go.intOf p.1).Nodup
    refine List.pairwise_map.2 (hpw.imp_of_mem fun {p q} hp' hq' hne e => hne ?_)
    obtain ⟨a, ha⟩ := hi p hp'
    obtain ⟨b, hb⟩ := hi q hq'
    rw [ha, hb] at e ⊢
    exact congrArg _ e
  refine ⟨hp.nodup_iff.2 hnd, fun x => ?_⟩
  rw [hp.mem_iff, has_eq, List.any_eq_true]
  show x ∈ es.map (fun p => Go.intOf p.1) ↔ _
  rw [List.mem_map]
  constructor
  · rintro ⟨p, hp', rfl⟩
    obtain ⟨a, ha⟩ := hi p hp'
    exact ⟨p, hp', by rw [ha]; simp [Lit.sameKey, Go.intOf]⟩
  · rintro ⟨p, hp', hs⟩
    obtain ⟨a, ha⟩ := hi p hp'
    rw [ha] at hs
    exact ⟨p, hp', by rw [ha]; simpa [Lit.sameKey, Go.intOf] using hs⟩
/-- A list in order, each number once, that holds just the numbers of xs. -/
def AnsOf (xs L : List Int) : Prop := L.Pairwise (· < ·) ∧ ∀ x, x ∈ L ↔ x ∈ xs
theorem ansOf_sort {ss xs : List Int} (hnd : ss.Nodup) (hm : ∀ x, x ∈ ss ↔ x ∈ xs) : AnsOf xs (sortI ss) := by
  refine ⟨?_, fun x => by rw [(sortI_perm ss).mem_iff]; exact hm x⟩
  have h1 := sortI_sorted ss
  have h2 : (sortI ss).Nodup := (sortI_perm ss).nodup_iff.2 hnd
  exact (h1.and h2).imp (fun {a b} h => by have h3 : a ≠ b := h.2; omega)
theorem ansOf_one {xs L K : List Int} (h : AnsOf xs L) (k : AnsOf xs K) : L = K := by
  refine List.Perm.eq_of_pairwise (le := fun a b => a < b) (fun a b _ _ h1 h2 => by omega) h.1 k.1 ?_
  refine (List.perm_ext_iff_of_nodup (h.1.imp (fun h => by omega)) (k.1.imp (fun h => by omega))).2 fun x => by rw [h.2, k.2]

theorem Try_sorts (m : Nat) : AnyZI.SortsIn Try.prog Try.sortedA_ren Fence.wide m :=
  ⟨fun blk off cap ss W hH hblk hsz => callsIn_wide.2 (AnyM.slices_Sort_int Try.sortA blk off cap ss W hH hblk hsz),
   fun p cap W => callsIn_wide.2 (AnyM.slices_Sort_int_none Try.sortA p cap W)⟩
theorem keys_call (n : Nat) (mb : Option Nat) (W : World) : CallsIn Fence.wide n Try.prog 79 #[.map mb] W fun e w' => e = .returned (.func (.func 87) #[] #[.pointer (some ⟨W.heap.size, 0, none⟩)]) ∧ w' = W.alloc (.cells #[.map mb] 107) :=
  AnyZI.keys_in Try.keysA Fence.wide n trivial rfl mb W
theorem sorted_call (b nn : Nat) (xs : List Int) (w : World) (hown : w.ownsMap Try.prog 3 (plainElem Try.prog 4) b nn (askD xs)) (hmax : Maps.size (askD xs) ≤ maxLen) (hbytes : Maps.size (askD xs) * 8 ≤ 140737488355328) :
    CallsIn Fence.wide 5 Try.prog 78 #[.func (.func 87) #[] #[.pointer (some ⟨w.heap.size, 0, none⟩)]] (w.alloc (.cells #[.map (some b)] 107)) fun e w' =>
      ∃ v L, e = .returned v ∧ AnsOf xs L ∧ w'.ownsRow w.heap.size 3 1 v L.length (L.map (Value.int .i64)) ∧ Below w.heap.size w w' := by
  have hbl := hown.lt
  have hseq : SeqGives Fence.wide 2 Try.prog 87 #[.pointer (some ⟨w.heap.size, 0, none⟩)] encZ (fun ss => ss.Perm (intKeys (askD xs))) (Maps.size (askD xs)) (w.alloc (.cells #[.map (some b)] 107)) :=
    AnyZI.keys_gives (ρ := Try.keysA_ren) { Try.keysA with } Fence.wide _ trivial rfl (by omega) w.heap.size b nn (askD xs) _ (by simp) (by simp) (by
      obtain ⟨es, clock, hb, Ft, hs, hD⟩ := hown
      exact ⟨es, clock, (Below.heap_alloc _ _ b hbl).trans hb, Ft, hs, hD⟩)
  have cS := AnyZI.sorted_in Try.sortedA Fence.wide 5 trivial trivial trivial trivial rfl (by omega) (Try_sorts _) (enters_of Try.func86 (by kernel_rfl) rfl) 87 #[.pointer (some ⟨w.heap.size, 0, none⟩)] trivial (enters_of Try.func87 (by kernel_rfl) rfl) _ _ hmax hbytes _ hseq
  change CallsIn _ _ Try.prog 78 _ _ _ at cS
  refine cS.mono ?_
  rintro e w' ⟨v, ss, rfl, hS, hrow, hnil, hb⟩
  obtain ⟨h1, h2⟩ := keys_members hown Try.underlying3 (askD_tidy xs) hS
  have hA : AnsOf xs (sortI ss) := ansOf_sort h1 (fun x => (h2 x).trans (askD_has xs x))
  refine ⟨v, sortI ss, rfl, hA, ?_, ((Below.refl _ w).alloc (Nat.le_refl _) _).trans (hb.mono (by simp))⟩
  rw [(sortI_perm ss).length_eq]
  exact ownsRow_base_a hrow (by simp)
end Go.Proofs.Ytomcjopcfdllgaa

namespace Go.Proofs.Ytomcjopcfdllgaa
open Go.RowKit Go.Maps

def gx (M : Mach) (lev : Nat) (g : Grp) (i : Nat) : Int := armOf lev g.arm (pairAt (shortOf M.levers ((lev + 1) % 3)) (shortOf M.levers ((lev + 2) % 3)) g.i) i
def gy (M : Mach) (lev : Nat) (g : Grp) (i : Nat) : Int := armOf lev g.arm (pairAt (shortOf M.levers ((lev + 1) % 3)) (shortOf M.levers ((lev + 2) % 3)) g.j) i
theorem grpC_is (M : Mach) (lev : Nat) (g : Grp) : grpC M lev g = nine (gx M lev g 0) (gx M lev g 1) (gx M lev g 2) g.leak (gy M lev g 0) (gy M lev g 1) (gy M lev g 2) g.many := rfl
theorem gxy_ok {M : Mach} (hV : ValidM M) {lev : Nat} (hl : lev < 3) {g : Grp} (hg : g ∈ grpL M lev) : (∀ i, 1 ≤ gx M lev g i ∧ gx M lev g i ≤ 1000) ∧ (∀ i, 1 ≤ gy M lev g i ∧ gy M lev g i ≤ 1000) ∧ 0 ≤ g.leak ∧ g.leak ≤ 20 := by
  have hok := grp_ok hV hg
  have hB := (short_ok hV ((lev + 1) % 3)).1
  have hD := (short_ok hV ((lev + 2) % 3)).1
  obtain ⟨q, hq, e1, _, _⟩ := way_pair hB hD hok.wi
  obtain ⟨r, hr, e2, _, _⟩ := way_pair hB hD hok.wj
  have hlk := hV.leak
  have hlk2 := hok.leak
  refine ⟨fun i => ?_, fun i => ?_, by omega, by omega⟩
  · have := armOf_in hV hl hok.arm hq i; rw [e1] at this; exact this
  · have := armOf_in hV hl hok.arm hr i; rw [e2] at this; exact this
abbrev Ask4 := Int → Int → Int → Int → Int
/-- What is asked of a group's two ends. -/
def fG (f : Ask4) (M : Mach) (lev : Nat) (g : Grp) : List Int := [f (gx M lev g 0) (gx M lev g 1) (gx M lev g 2) g.leak, f (gy M lev g 0) (gy M lev g 1) (gy M lev g 2) g.leak]
def asksG (f : Ask4) (M : Mach) (lev : Nat) (l : List Grp) : List Int := l.flatMap (fG f M lev)
theorem asksG_snoc (f : Ask4) (M : Mach) (lev : Nat) (l : List Grp) (g : Grp) : asksG f M lev (l ++ [g]) = asksG f M lev l ++ [f (gx M lev g 0) (gx M lev g 1) (gx M lev g 2) g.leak] ++ [f (gy M lev g 0) (gy M lev g 1) (gy M lev g 2) g.leak] := by simp [asksG, fG]
theorem askD_size (xs : List Int) : Maps.size (askD xs) ≤ xs.length := by
  have h : ∀ (xs : List Int) (D : DataW Unit), Tidy D → Maps.size (xs.foldl (fun D x => D.put (.int .i64 x) (.lit (.bool true))) D) ≤ Maps.size D + xs.length := fun xs => by
    induction xs with
    | nil => intro D _; exact Nat.le_refl _
    | cons x xs ih =>
      intro D hD
      have h1 := ih _ (hD.put (key_int x) (.lit (.bool true)))
      rw [size_put hD] at h1
      rw [List.foldl_cons, List.length_cons]
      split at h1 <;> omega
  have := h xs _ tidy_empty
  have h0 : Maps.size (.map [] : DataW Unit) = 0 := rfl
  unfold askD
  omega
theorem askD_zero (xs : List Int) : Maps.size (askD xs) = 0 ↔ xs = [] := by
  constructor
  · intro h
    refine List.eq_nil_iff_forall_not_mem.2 fun x hx => ?_
    have h1 := (askD_has xs x).2 hx
    obtain ⟨es, he, _⟩ := askD_tidy xs
    rw [he] at h h1
    have : es = [] := List.length_eq_zero_iff.1 h
    subst this
    simp [has] at h1
  · rintro rfl; rfl
theorem alike_len {M : Mach} (hV : ValidM M) (k : Int) : (alikeL M k).length ≤ 14 := by
  unfold alikeL
  rw [← span_fold]
  refine Nat.le_trans (spanFold_len _) ?_
  have h1 := startsTo_len M k M.bals.length
  have h2 := hV.nb
  rw [List.length_append, (sortI_perm _).length_eq, ← startsTo_all]
  simp only [List.length_cons, List.length_nil]
  omega
theorem grpL_len {M : Mach} (hV : ValidM M) {lev : Nat} : (grpL M lev).length ≤ 294000 := by
  have hs := short_ok hV lev
  have hl := hV.leak
  have e1 : ∀ k p, (g2 M lev k p).length ≤ 1000 := fun k p => by
    have h := flat_le (g1 M lev k p) 1 (arms M lev) (fun a _ => by unfold g1; split <;> simp)
    have h2 := range_le (shortOf M.levers lev) hs
    have h3 : (arms M lev).length ≤ 1000 := h2
    unfold g2
    omega
  have e2 : ∀ k, (g3 M lev k).length ≤ 14000 := fun k => by
    have h := flat_le (g2 M lev k) 1000 (alikeL M k) (fun p _ => e1 k p)
    have h2 := alike_len hV k
    unfold g3
    omega
  rw [grpL_eq]
  have h := flat_le (g3 M lev) 14000 (leaks M) (fun k _ => e2 k)
  have h2 : (leaks M).length ≤ 21 := by unfold leaks; rw [range_len]; omega
  omega
theorem grpT_len {M : Mach} (hV : ValidM M) {lev : Nat} : (grpT M lev).length ≤ 294000 := Nat.le_trans (List.length_filter_le _ _) (grpL_len hV)
theorem asksG_len (f : Ask4) (M : Mach) (lev : Nat) : ∀ l : List Grp, (asksG f M lev l).length = 2 * l.length
  | [] => rfl
  | g :: l => by
    have := asksG_len f M lev l
    unfold asksG at this ⊢
    rw [List.flatMap_cons, List.length_append, List.length_cons, this]
    simp only [fG, List.length_cons, List.length_nil]
    omega
theorem map_far {w w' : World} {k : TypeId} {b n : Nat} {D : DataW Unit} {R : Value → Option (DataW Unit × List MemPlace)} (h : w.ownsMap Try.prog k R b n D) (hb : w'.heap[b]? = w.heap[b]?) : w'.ownsMap Try.prog k R b n D := by
  obtain ⟨es, clock, h1, Ft, hs, hD⟩ := h
  exact ⟨es, clock, hb.trans h1, Ft, hs, hD⟩
end Go.Proofs.Ytomcjopcfdllgaa
