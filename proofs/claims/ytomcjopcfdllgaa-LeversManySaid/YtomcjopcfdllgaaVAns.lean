/-
  Levers: the keys of a map of answers, sorted by the library.
  Levers: what is asked of each group of truths.
  Levers, walks: the answers of all truths, in order, each once.
-/
import Derived.Test.YtomcjopcfdllgaaVShelf
import Derived.Test.YtomcjopcfdllgaaVRange
import Derived.Maps.OwnIn
import Derived.Maps.OwnSet
import Derived.Lib.SlKeysI
import Derived.Test.YtomcjopcfdllgaaVMany

namespace Go.Proofs.Ytomcjopcfdllgaa
open Go.RowKit Go.Maps Go.Sort Go.Shelf

/-- What the map reads as, when xs were asked. -/
def askD (xs : List Int) : DataW Unit := xs.foldl (fun D x => D.put (.int .i64 x) (.lit (.bool true))) (.map [])
theorem askD_snoc (xs : List Int) (x : Int) : askD (xs ++ [x]) = (askD xs).put (.int .i64 x) (.lit (.bool true)) := by simp [askD]
theorem key_int (x : Int) : WideAt.IsKeyLit (.int .i64 x) := trivial
theorem askD_tidy (xs : List Int) : Tidy (askD xs) := by
  have h : ∀ (xs : List Int) (D : DataW Unit), Tidy D → Tidy (xs.foldl (fun D x => D.put (.int .i64 x) (.lit (.bool true))) D) := fun xs => by
    induction xs with
    | nil => intro D h; exact h
    | cons x xs ih => intro D h; exact ih _ (h.put (key_int x) _)
  exact h xs _ tidy_empty
theorem askD_has (xs : List Int) (x : Int) : has (askD xs) (.int .i64 x) = true ↔ x ∈ xs := by
  have h : ∀ (xs : List Int) (D : DataW Unit), IsMap D → (has (xs.foldl (fun D x => D.put (.int .i64 x) (.lit (.bool true))) D) (.int .i64 x) = true ↔ has D (.int .i64 x) = true ∨ x ∈ xs) := fun xs => by
    induction xs with
    | nil => intro D _; simp
    | cons y xs ih =>
      intro D hD
      rw [List.foldl_cons, ih _ (hD.put _ _)]
      by_cases e : x = y
      · subst e
        simp [has_put_same hD (key_int x)]
      · rw [has_put_other (by intro h; injection h with _ h; exact e h)]
        simp [e]
  rw [askD, h xs _ tidy_empty.isMap]
  simp [has]
theorem keys_members {P : Program} {k : TypeId} {R : Value → Option (DataW Unit × List MemPlace)} {w : World} {b n : Nat} {D : DataW Unit} (hown : w.ownsMap P k R b n D) (hk : P.underlying k = some (.int .i64)) (hT : Tidy D) {ss : List Int} (hp : ss.Perm (intKeys D)) : ss.Nodup ∧ ∀ x, x ∈ ss ↔ has D (.int .i64 x) = true := by
  obtain ⟨es, rfl, hpw⟩ := hT
  obtain ⟨es', he, hko⟩ := hown.keysOf
  cases he
  have hi : ∀ p ∈ es, ∃ x, p.1 = .int .i64 x := fun p hp => by
    obtain ⟨v, hv⟩ := hko p hp
    obtain ⟨x, _, hx, _⟩ := Maps.keyOf_i64 hk hv
    exact ⟨x, hx⟩
  have hnd : (intKeys (.map es)).Nodup := by
    show (es.map fun p => Go.intOf p.1).Nodup
    refine List.pairwise_map.2 (hpw.imp_of_mem fun {p q} hp' hq' hne e => hne ?_)
    obtain ⟨a, ha⟩ := hi p hp'
    obtain ⟨b, hb⟩ := hi q hq'
    rw [ha, hb] at e ⊢
    exact congrArg _ e
  refine ⟨hp.nodup_iff.2 hnd, fun x => ?_⟩
  rw [hp.mem_iff, has_eq, List.any_eq_true]
  show x ∈ es.map (fun p => Go.intOf p.1) ↔ _
  rw [List.mem_map]
  constructor
  · rintro ⟨p, hp', rfl⟩
    obtain ⟨a, ha⟩ := hi p hp'
    exact ⟨p, hp', by rw [ha]; simp [Lit.sameKey, Go.intOf]⟩
  · rintro ⟨p, hp', hs⟩
    obtain ⟨a, ha⟩ := hi p hp'
    rw [ha] at hs
    exact ⟨p, hp', by rw [ha]; simpa [Lit.sameKey, Go.intOf] using hs⟩
/-- A list in order, each number once, that holds just the numbers of xs. -/
def AnsOf (xs L : List Int) : Prop := L.Pairwise (· < ·) ∧ ∀ x, x ∈ L ↔ x ∈ xs
theorem ansOf_sort {ss xs : List Int} (hnd : ss.Nodup) (hm : ∀ x, x ∈ ss ↔ x ∈ xs) : AnsOf xs (sortI ss) := by
  refine ⟨?_, fun x => by rw [(sortI_perm ss).mem_iff]; exact hm x⟩
  have h1 := sortI_sorted ss
  have h2 : (sortI ss).Nodup := (sortI_perm ss).nodup_iff.2 hnd
  exact (h1.and h2).imp (fun {a b} h => by have h3 : a ≠ b := h.2; omega)
theorem ansOf_one {xs L K : List Int} (h : AnsOf xs L) (k : AnsOf xs K) : L = K := by
  refine List.Perm.eq_of_pairwise (le := fun a b => a < b) (fun a b _ _ h1 h2 => by omega) h.1 k.1 ?_
  refine (List.perm_ext_iff_of_nodup (h.1.imp (fun h => by omega)) (k.1.imp (fun h => by omega))).2 fun x => by rw [h.2, k.2]

theorem Try_sorts (m : Nat) : AnyZI.SortsIn Try.prog Try.sortedA_ren Fence.wide m :=
  ⟨fun blk off cap ss W hH hblk hsz => callsIn_wide.2 (AnyM.slices_Sort_int Try.sortA blk off cap ss W hH hblk hsz),
   fun p cap W => callsIn_wide.2 (AnyM.slices_Sort_int_none Try.sortA p cap W)⟩
theorem keys_call (n : Nat) (mb : Option Nat) (W : World) : CallsIn Fence.wide n Try.prog 79 #[.map mb] W fun e w' => e = .returned (.func (.func 87) #[] #[.pointer (some ⟨W.heap.size, 0, none⟩)]) ∧ w' = W.alloc (.cells #[.map mb] 107) :=
  AnyZI.keys_in Try.keysA Fence.wide n trivial rfl mb W
theorem sorted_call (b nn : Nat) (xs : List Int) (w : World) (hown : w.ownsMap Try.prog 3 (plainElem Try.prog 4) b nn (askD xs)) (hmax : Maps.size (askD xs) ≤ maxLen) (hbytes : Maps.size (askD xs) * 8 ≤ 140737488355328) :
    CallsIn Fence.wide 5 Try.prog 78 #[.func (.func 87) #[] #[.pointer (some ⟨w.heap.size, 0, none⟩)]] (w.alloc (.cells #[.map (some b)] 107)) fun e w' =>
      ∃ v L, e = .returned v ∧ AnsOf xs L ∧ w'.ownsRow w.heap.size 3 1 v L.length (L.map (Value.int .i64)) ∧ Below w.heap.size w w' := by
  have hbl := hown.lt
  have hseq : SeqGives Fence.wide 2 Try.prog 87 #[.pointer (some ⟨w.heap.size, 0, none⟩)] encZ (fun ss => ss.Perm (intKeys (askD xs))) (Maps.size (askD xs)) (w.alloc (.cells #[.map (some b)] 107)) :=
    AnyZI.keys_gives (ρ := Try.keysA_ren) { Try.keysA with } Fence.wide _ trivial rfl (by omega) w.heap.size b nn (askD xs) _ (by simp) (by simp) (by
      obtain ⟨es, clock, hb, Ft, hs, hD⟩ := hown
      exact ⟨es, clock, (Below.heap_alloc _ _ b hbl).trans hb, Ft, hs, hD⟩)
  have cS := AnyZI.sorted_in Try.sortedA Fence.wide 5 trivial trivial trivial trivial rfl (by omega) (Try_sorts _) (enters_of Try.func86 (by kernel_rfl) rfl) 87 #[.pointer (some ⟨w.heap.size, 0, none⟩)] trivial (enters_of Try.func87 (by kernel_rfl) rfl) _ _ hmax hbytes _ hseq
  change CallsIn _ _ Try.prog 78 _ _ _ at cS
  refine cS.mono ?_
  rintro e w' ⟨v, ss, rfl, hS, hrow, hnil, hb⟩
  obtain ⟨h1, h2⟩ := keys_members hown Try.underlying3 (askD_tidy xs) hS
  have hA : AnsOf xs (sortI ss) := ansOf_sort h1 (fun x => (h2 x).trans (askD_has xs x))
  refine ⟨v, sortI ss, rfl, hA, ?_, ((Below.refl _ w).alloc (Nat.le_refl _) _).trans (hb.mono (by simp))⟩
  rw [(sortI_perm ss).length_eq]
  exact ownsRow_base_a hrow (by simp)
end Go.Proofs.Ytomcjopcfdllgaa

namespace Go.Proofs.Ytomcjopcfdllgaa
open Go.RowKit Go.Maps

def gx (M : Mach) (lev : Nat) (g : Grp) (i : Nat) : Int := armOf lev g.arm (pairAt (shortOf M.levers ((lev + 1) % 3)) (shortOf M.levers ((lev + 2) % 3)) g.i) i
def gy (M : Mach) (lev : Nat) (g : Grp) (i : Nat) : Int := armOf lev g.arm (pairAt (shortOf M.levers ((lev + 1) % 3)) (shortOf M.levers ((lev + 2) % 3)) g.j) i
theorem grpC_is (M : Mach) (lev : Nat) (g : Grp) : grpC M lev g = nine (gx M lev g 0) (gx M lev g 1) (gx M lev g 2) g.leak (gy M lev g 0) (gy M lev g 1) (gy M lev g 2) g.many := rfl
theorem gxy_ok {M : Mach} (hV : ValidM M) {lev : Nat} (hl : lev < 3) {g : Grp} (hg : g ∈ grpL M lev) : (∀ i, 1 ≤ gx M lev g i ∧ gx M lev g i ≤ 1000) ∧ (∀ i, 1 ≤ gy M lev g i ∧ gy M lev g i ≤ 1000) ∧ 0 ≤ g.leak ∧ g.leak ≤ 20 := by
  have hok := grp_ok hV hg
  have hB := (short_ok hV ((lev + 1) % 3)).1
  have hD := (short_ok hV ((lev + 2) % 3)).1
  obtain ⟨q, hq, e1, _, _⟩ := way_pair hB hD hok.wi
  obtain ⟨r, hr, e2, _, _⟩ := way_pair hB hD hok.wj
  have hlk := hV.leak
  have hlk2 := hok.leak
  refine ⟨fun i => ?_, fun i => ?_, by omega, by omega⟩
  · have := armOf_in hV hl hok.arm hq i; rw [e1] at this; exact this
  · have := armOf_in hV hl hok.arm hr i; rw [e2] at this; exact this
abbrev Ask4 := Int → Int → Int → Int → Int
/-- What is asked of a group's two ends. -/
def fG (f : Ask4) (M : Mach) (lev : Nat) (g : Grp) : List Int := [f (gx M lev g 0) (gx M lev g 1) (gx M lev g 2) g.leak, f (gy M lev g 0) (gy M lev g 1) (gy M lev g 2) g.leak]
def asksG (f : Ask4) (M : Mach) (lev : Nat) (l : List Grp) : List Int := l.flatMap (fG f M lev)
theorem asksG_snoc (f : Ask4) (M : Mach) (lev : Nat) (l : List Grp) (g : Grp) : asksG f M lev (l ++ [g]) = asksG f M lev l ++ [f (gx M lev g 0) (gx M lev g 1) (gx M lev g 2) g.leak] ++ [f (gy M lev g 0) (gy M lev g 1) (gy M lev g 2) g.leak] := by simp [asksG, fG]
theorem askD_size (xs : List Int) : Maps.size (askD xs) ≤ xs.length := by
  have h : ∀ (xs : List Int) (D : DataW Unit), Tidy D → Maps.size (xs.foldl (fun D x => D.put (.int .i64 x) (.lit (.bool true))) D) ≤ Maps.size D + xs.length := fun xs => by
    induction xs with
    | nil => intro D _; exact Nat.le_refl _
    | cons x xs ih =>
      intro D hD
      have h1 := ih _ (hD.put (key_int x) (.lit (.bool true)))
      rw [size_put hD] at h1
      rw [List.foldl_cons, List.length_cons]
      split at h1 <;> omega
  have := h xs _ tidy_empty
  have h0 : Maps.size (.map [] : DataW Unit) = 0 := rfl
  unfold askD
  omega
theorem askD_zero (xs : List Int) : Maps.size (askD xs) = 0 ↔ xs = [] := by
  constructor
  · intro h
    refine List.eq_nil_iff_forall_not_mem.2 fun x hx => ?_
    have h1 := (askD_has xs x).2 hx
    obtain ⟨es, he, _⟩ := askD_tidy xs
    rw [he] at h h1
    have : es = [] := List.length_eq_zero_iff.1 h
    subst this
    simp [has] at h1
  · rintro rfl; rfl
theorem alike_len {M : Mach} (hV : ValidM M) (k : Int) : (alikeL M k).length ≤ 14 := by
  unfold alikeL
  rw [← span_fold]
  refine Nat.le_trans (spanFold_len _) ?_
  have h1 := startsTo_len M k M.bals.length
  have h2 := hV.nb
  rw [List.length_append, (sortI_perm _).length_eq, ← startsTo_all]
  simp only [List.length_cons, List.length_nil]
  omega
theorem grpL_len {M : Mach} (hV : ValidM M) {lev : Nat} : (grpL M lev).length ≤ 294000 := by
  have hs := short_ok hV lev
  have hl := hV.leak
  have e1 : ∀ k p, (g2 M lev k p).length ≤ 1000 := fun k p => by
    have h := flat_le (g1 M lev k p) 1 (arms M lev) (fun a _ => by unfold g1; split <;> simp)
    have h2 := range_le (shortOf M.levers lev) hs
    have h3 : (arms M lev).length ≤ 1000 := h2
    unfold g2
    omega
  have e2 : ∀ k, (g3 M lev k).length ≤ 14000 := fun k => by
    have h := flat_le (g2 M lev k) 1000 (alikeL M k) (fun p _ => e1 k p)
    have h2 := alike_len hV k
    unfold g3
    omega
  rw [grpL_eq]
  have h := flat_le (g3 M lev) 14000 (leaks M) (fun k _ => e2 k)
  have h2 : (leaks M).length ≤ 21 := by unfold leaks; rw [range_len]; omega
  omega
theorem grpT_len {M : Mach} (hV : ValidM M) {lev : Nat} : (grpT M lev).length ≤ 294000 := Nat.le_trans (List.length_filter_le _ _) (grpL_len hV)
theorem asksG_len (f : Ask4) (M : Mach) (lev : Nat) : ∀ l : List Grp, (asksG f M lev l).length = 2 * l.length
  | [] => rfl
  | g :: l => by
    have := asksG_len f M lev l
    unfold asksG at this ⊢
    rw [List.flatMap_cons, List.length_append, List.length_cons, this]
    simp only [fG, List.length_cons, List.length_nil]
    omega
theorem map_far {w w' : World} {k : TypeId} {b n : Nat} {D : DataW Unit} {R : Value → Option (DataW Unit × List MemPlace)} (h : w.ownsMap Try.prog k R b n D) (hb : w'.heap[b]? = w.heap[b]?) : w'.ownsMap Try.prog k R b n D := by
  obtain ⟨es, clock, h1, Ft, hs, hD⟩ := h
  exact ⟨es, clock, hb.trans h1, Ft, hs, hD⟩
end Go.Proofs.Ytomcjopcfdllgaa

namespace Go.Proofs.Ytomcjopcfdllgaa
open Go.RowKit Go.Shelf Go.Maps Go.Sort

attribute [local go_sem] Oper.semAt_some

theorem row_far {w w' : World} {base : Nat} {e : TypeId} {size : Nat} {v : Value} {n : Nat} {xs : List Value} (h : w.ownsRow base e size v n xs) (hk : ∀ g, v.ownBlock = some g → w'.heap[g]? = w.heap[g]?) : w'.ownsRow base e size v n xs := by
  obtain ⟨h1, h2 | ⟨g, cap, cur, rfl, hb, hg, hn, hm, hs, ht⟩⟩ := h
  · exact ⟨h1, .inl h2⟩
  · exact ⟨h1, .inr ⟨g, cap, cur, rfl, hb, (hk g rfl).trans hg, hn, hm, hs, ht⟩⟩
set_option maxRecDepth 100000 in
set_option maxHeartbeats 8000000 in
theorem answers_in (n : Nat) (hn : n = 12) (M : Mach) (hV : ValidM M) (lev : Nat) (hl : lev < 3) (pb : Nat) (fid : FuncId) (lb : Array Value) (f : Ask4) (hf : ∀ a b c d, 1 ≤ a ∧ a ≤ 1000 → 1 ≤ b ∧ b ≤ 1000 → 1 ≤ c ∧ c ≤ 1000 → 0 ≤ d ∧ d ≤ 20 → I64 (f a b c d)) (w : World) (hx : WorkAt w.heap.size w pb M lev)
    (hegg : ∀ args w, (callFunc fid args).run Try.prog w = .ok (.enter fid args) w)
    (hask : ∀ a b c d W, 1 ≤ a ∧ a ≤ 1000 → 1 ≤ b ∧ b ≤ 1000 → 1 ≤ c ∧ c ≤ 1000 → 0 ≤ d ∧ d ≤ 20 → Below w.heap.size w W → Calls Try.prog fid (#[.agg #[.int .i64 a, .int .i64 b, .int .i64 c, .int .i64 d]] ++ lb) W fun e w' => e = .returned (.int .i64 (f a b c d)) ∧ Below W.heap.size W w') :
    CallsIn Fence.wide n Try.prog 56 #[.pointer (some ⟨pb, 0, none⟩), .func (.func fid) #[] lb] w fun e w' =>
      (grpT M lev = [] → e = .returned (.tuple #[.slice none 0 0, .int .i64 3])) ∧ (grpT M lev ≠ [] → ∃ v L, e = .returned (.tuple #[v, .int .i64 0]) ∧ AnsOf (asksG f M lev (grpT M lev)) L ∧ w'.ownsRow w.heap.size 3 1 v L.length (L.map (Value.int .i64))) ∧ Below w.heap.size w w' := by
  subst hn
  obtain ⟨F, hFF⟩ : ∃ F, F = Fence.wide := ⟨_, rfl⟩
  have hd : F.depth = none := by rw [hFF]; rfl
  have hro : F.round = none := by rw [hFF]; rfl
  have hfn : ∀ f, F.fn f := by rw [hFF]; exact fun _ => trivial
  rw [← hFF]
  have hF := Lib.hid hFF
  clear hFF
  have heg := Lib.hid hegg
  have HASK := Lib.hid hask
  have HX := Lib.hid hx
  clear hegg hask hx
  refine callsIn_of_wp_marks Try.func56 rfl (hfn _) ?_ hro
  simp only [Try.ntmps56, List.size_toArray, List.length_cons, List.length_nil, Nat.reduceAdd, Nat.reduceSub, Array.replicate_succ, Array.replicate_zero, List.push_toArray, List.append_toArray, List.nil_append, List.cons_append]
  have hmm := @run_makeMap Try.prog
  gi_wp2_with fail
  clear hmm
  obtain ⟨w2, hw2⟩ : ∃ w2, w2 = ((w.alloc (.cells #[.func (.func fid) #[] lb] 84)).alloc (.map #[] 0)).alloc (.cells #[.map (some (w.heap.size + 1))] 107) := ⟨_, rfl⟩
  have hs2 : w2.heap.size = w.heap.size + 3 := by rw [hw2]; simp
  have hb2 : Below w.heap.size w w2 := by rw [hw2]; exact (((Below.refl _ w).alloc (Nat.le_refl _) _).alloc (by simp) _).alloc (by simp; omega) _
  have hc3 : w2.heap[w.heap.size]? = some (.cells #[.func (.func fid) #[] lb] 84) := by rw [hw2]; exact (Below.heap_alloc _ _ _ (by simp; omega)).trans (heap_old1 _ _ _)
  have hm2 : w2.ownsMap Try.prog 3 (plainElem Try.prog 4) (w.heap.size + 1) (2 * ([] : List Grp).length) (askD (asksG f M lev [])) := by
    rw [hw2]
    have := World.ownsMap_made (w.alloc (.cells #[.func (.func fid) #[] lb] 84)) Try.prog 3 (plainElem (H := Unit) Try.prog 4)
    rw [World.size_alloc] at this
    exact this.alloc _
  have hc6 : w2.heap[w.heap.size + 2]? = some (.cells #[.map (some (w.heap.size + 1))] 107) := by
    rw [hw2]
    have := World.alloc_heap_new ((w.alloc (.cells #[.func (.func fid) #[] lb] 84)).alloc (.map #[] 0)) (.cells #[.map (some (w.heap.size + 1))] 107)
    simpa using this
  rw [← hw2]
  clear hw2
  have HB2 := Lib.hid hb2
  have HC32 := Lib.hid hc3
  have HC62 := Lib.hid hc6
  have hwk2 := HX.out.below hb2
  obtain ⟨b0, hb0e⟩ : ∃ b0, w.heap.size = b0 := ⟨_, rfl⟩
  rw [hb0e] at hs2 hb2 hc3 hc6 hm2 HB2 HC32 HC62 hwk2 HASK ⊢
  have HE := Lib.hid hb0e
  refine wpIn_truths F hF hd hro hfn (by omega) M hV lev hl pb b0 rfl hwk2 (by omega) rfl (fun k => k = b0 + 1) (fun k hk => by omega)
    (fun pre W => W.ownsMap Try.prog 3 (plainElem Try.prog 4) (b0 + 1) (2 * pre.length) (askD (asksG f M lev pre))) (fun _ _ _ => False)
    (fun s A A' h2 hk => map_far h2 (hk.block _ h2.lt (by omega))) (fun _ _ _ _ h _ => h) hm2
    (fun tm W g => { tmps := (tm.setIfInBounds 11 (grpV M lev g)).setIfInBounds 7 (.pointer (some ⟨W.heap.size, 0, none⟩)), defers := [] }) ?assign ?body ?done ?stop
  case assign =>
    intro l x W K hK
    rw [grpV_eq] at hK ⊢
    obtain ⟨x0, x1, x2, y0, y1, y2, lk, gm, hgc⟩ : ∃ x0 x1 x2 y0 y1 y2 lk gm, grpC M lev x = nine x0 x1 x2 lk y0 y1 y2 gm := ⟨_, _, _, _, _, _, _, _, rfl⟩
    rw [hgc] at hK ⊢
    unfold nine at hK ⊢
    gi_wp2
    exact hK
  case body =>
    intro l pre x V U hpre hI hkb hV2 hVU hgb hwU
    have hxg : x ∈ grpL M lev := (List.mem_filter.1 (hpre.subset (show x ∈ pre ++ [x] by simp))).1
    obtain ⟨hgx, hgy, hl0, hl20⟩ := gxy_ok hV hl hxg
    have hpl : pre.length ≤ 294000 := by
      have h1 := hpre.length_le
      have h2 := grpT_len hV (lev := lev)
      rw [List.length_append] at h1
      omega
    have hnn : 2 * pre.length < maxLen := by unfold maxLen; omega
    have hsn := asksG_snoc f M lev pre x
    have hx0 := hgx 0
    have hx1 := hgx 1
    have hx2 := hgx 2
    have hy0 := hgy 0
    have hy1 := hgy 1
    have hy2 := hgy 2
    rw [grpV_eq, grpC_is]
    rw [grpC_is] at hgb
    unfold nine at hgb ⊢
    obtain ⟨x0, ex0⟩ : ∃ a, gx M lev x 0 = a := ⟨_, rfl⟩
    obtain ⟨x1, ex1⟩ : ∃ a, gx M lev x 1 = a := ⟨_, rfl⟩
    obtain ⟨x2, ex2⟩ : ∃ a, gx M lev x 2 = a := ⟨_, rfl⟩
    obtain ⟨y0, ey0⟩ : ∃ a, gy M lev x 0 = a := ⟨_, rfl⟩
    obtain ⟨y1, ey1⟩ : ∃ a, gy M lev x 1 = a := ⟨_, rfl⟩
    obtain ⟨y2, ey2⟩ : ∃ a, gy M lev x 2 = a := ⟨_, rfl⟩
    obtain ⟨lk, elk⟩ : ∃ a, x.leak = a := ⟨_, rfl⟩
    obtain ⟨gm, egm⟩ : ∃ a, x.many = a := ⟨_, rfl⟩
    rw [ex0, ex1, ex2, ey0, ey1, ey2, elk, egm] at hgb ⊢
    rw [ex0, ex1, ex2, ey0, ey1, ey2, elk] at hsn
    rw [ex0] at hx0
    rw [ex1] at hx1
    rw [ex2] at hx2
    rw [ey0] at hy0
    rw [ey1] at hy1
    rw [ey2] at hy2
    rw [elk] at hl0 hl20
    have hfx := hf x0 x1 x2 lk hx0 hx1 hx2 ⟨hl0, hl20⟩
    have hfy := hf y0 y1 y2 lk hy0 hy1 hy2 ⟨hl0, hl20⟩
    have hbU : Below b0 w U := (HB2.out).trans (hkb.below (by omega) (fun k hk => by omega))
    have HCX := Lib.hid (fun m W (h : Below U.heap.size U W) => CallsIn.inRound l (inF hF (n := m) (HASK.out x0 x1 x2 lk W hx0 hx1 hx2 ⟨hl0, hl20⟩ (hbU.trans (h.mono (by have := hkb.size; omega))))))
    have HCY := Lib.hid (fun m W (h : Below b0 U W) => CallsIn.inRound l (inF hF (n := m) (HASK.out y0 y1 y2 lk W hy0 hy1 hy2 ⟨hl0, hl20⟩ (hbU.trans h))))
    obtain ⟨AX, hAX⟩ : ∃ a, f x0 x1 x2 lk = a := ⟨_, rfl⟩
    obtain ⟨AY, hAY⟩ : ∃ a, f y0 y1 y2 lk = a := ⟨_, rfl⟩
    rw [hAX] at hfx HCX hsn
    rw [hAY] at hfy HCY hsn
    have HKYX := Lib.hid (show keyOf Try.prog 3 (.int .i64 AX) = some (.int .i64 AX) by simp [keyOf, Try.underlying3, mapKey, WalkArith.wf_i64 hfx])
    have HKYY := Lib.hid (show keyOf Try.prog 3 (.int .i64 AY) = some (.int .i64 AY) by simp [keyOf, Try.underlying3, mapKey, WalkArith.wf_i64 hfy])
    have hUs := hkb.size
    have HC3U := Lib.hid ((hkb.block b0 (by omega) (by omega)).trans HC32.out)
    have HC6U := Lib.hid ((hkb.block (b0 + 2) (by omega) (by omega)).trans HC62.out)
    have HC3 := Lib.hid (cell1_of HC3U.out).1
    have HC6 := Lib.hid (cell1_of HC6U.out).1
    obtain ⟨GB, hGB⟩ : ∃ GB, V.heap.size = GB := ⟨_, rfl⟩
    rw [hGB] at hV2 hVU hgb ⊢
    have HGB := Lib.hid hgb
    have HMAP := Lib.hid hI
    have HSN := Lib.hid hsn
    have hlm := hI.lt
    have hgl : GB < U.heap.size := hVU
    have hl3 : (⟨b0, 0, none⟩ : Addr).block < U.heap.size := by show b0 < _; omega
    have hl6 : (⟨b0 + 2, 0, none⟩ : Addr).block < U.heap.size := by show b0 + 2 < _; omega
    have hd0 : (F.inRound l).depth = none := hd
    clear hgb hI hsn hkb hpre hxg hwU hwk2 hb2 hc3 hc6 hm2 hgx hgy hx0 hx1 hx2 hy0 hy1 hy2 hfx hfy ex0 ex1 ex2 ey0 ey1 ey2 elk egm hGB hAX hAY hbU hl0 hl20
    gi_wp2_with fail
    refine wpIn_region_factsA _ 5 [12, 13, 14, 15, 16] [isV (.map (some (b0 + 1))), isV (.func (.func fid) #[] lb), isV (.pointer (some ⟨GB, 0, none⟩)), isV (.agg #[.int .i64 x0, .int .i64 x1, .int .i64 x2, .int .i64 lk]), ⟨fun v W => v = .int .i64 AX, fun _ _ _ h _ => h⟩] (by kernel_rfl) (by kernel_rfl) rfl (by decide) (by decide) (by simp) ?step ?rest
    case step =>
      intro i ac W d hi hd hb hoff hdep
      have z0 := (hb.cell hl6).trans HC6.out
      have z1 := (hb.cell hl3).trans HC3.out
      obtain ⟨g0, g1, g2, g3, g4, g5, g6, g7, g8⟩ := cells9 ((hb.block GB hgl).trans HGB.out)
      have hi2 : i = 0 ∨ i = 1 ∨ i = 2 ∨ i = 3 ∨ i = 4 := by omega
      rcases hi2 with rfl | rfl | rfl | rfl | rfl
      · obtain rfl : 12 = d := by simpa using hd
        have q6 : ac.tmps[6]?.getD undef = .pointer (some ⟨b0 + 2, 0, none⟩) := (eval_tmp _ _).symm.trans <| (hoff 6 (by decide)).trans rfl
        refine fact_valueIn (fun f => hfn f) rfl (by intro c h; cases h) rfl rfl (v := .map (some (b0 + 1))) (W' := W) ?_ (Below.refl _ _) rfl
        simp only [execOp]
        go_simp
      · obtain rfl : 13 = d := by simpa using hd
        have q3 : ac.tmps[3]?.getD undef = .pointer (some ⟨b0, 0, none⟩) := (eval_tmp _ _).symm.trans <| (hoff 3 (by decide)).trans rfl
        refine fact_valueIn (fun f => hfn f) rfl (by intro c h; cases h) rfl rfl (v := .func (.func fid) #[] lb) (W' := W) ?_ (Below.refl _ _) rfl
        simp only [execOp]
        go_simp
      · obtain rfl : 14 = d := by simpa using hd
        have q7 : ac.tmps[7]?.getD undef = .pointer (some ⟨GB, 0, none⟩) := (eval_tmp _ _).symm.trans <| (hoff 7 (by decide)).trans rfl
        refine fact_valueIn (fun f => hfn f) rfl (by intro c h; cases h) rfl rfl (v := .pointer (some ⟨GB, 0, none⟩)) (W' := W) ?_ (Below.refl _ _) rfl
        simp only [execOp]
        go_simp
      · obtain rfl : 15 = d := by simpa using hd
        have q14 : ac.tmps[14]?.getD undef = .pointer (some ⟨GB, 0, none⟩) := (eval_tmp _ _).symm.trans (hdep 2 14 rfl rfl)
        refine fact_valueIn (fun f => hfn f) rfl (by intro c h; cases h) rfl rfl (v := .agg #[.int .i64 x0, .int .i64 x1, .int .i64 x2, .int .i64 lk]) (W' := W) ?_ (Below.refl _ _) rfl
        simp only [execOp]
        go_simp
      · obtain rfl : 16 = d := by simpa using hd
        have q13 : ac.tmps[13]?.getD undef = .func (.func fid) #[] lb := (eval_tmp _ _).symm.trans (hdep 1 13 rfl rfl)
        have q15 : ac.tmps[15]?.getD undef = .agg #[.int .i64 x0, .int .i64 x1, .int .i64 x2, .int .i64 lk] := (eval_tmp _ _).symm.trans (hdep 3 15 rfl rfl)
        refine fact_callIn (fun f => hfn f) hd0 rfl (by intro c h; cases h) rfl rfl (f := fid) (args := #[.agg #[.int .i64 x0, .int .i64 x1, .int .i64 x2, .int .i64 lk]] ++ lb) ?_ ?_
        · simp only [execOp]
          go_simp
          simp [heg.out]
        · refine (HCX.out _ W hb).mono ?_
          rintro e w' ⟨rfl, hb2⟩
          exact ⟨_, rfl, hb2, rfl⟩
    case rest =>
      intro vs W hvl hb hval
      obtain ⟨v0, v1, v2, v3, v4, rfl⟩ : ∃ v0 v1 v2 v3 v4, vs = [v0, v1, v2, v3, v4] := by
        match vs, hvl with
        | [v0, v1, v2, v3, v4], _ => exact ⟨v0, v1, v2, v3, v4, rfl⟩
      obtain rfl : v0 = .map (some (b0 + 1)) := by obtain ⟨u, e, h⟩ := hval 0 (by omega); have e2 : some v0 = some u := e; injection e2 with e2; subst e2; exact h
      obtain rfl : v1 = .func (.func fid) #[] lb := by obtain ⟨u, e, h⟩ := hval 1 (by omega); have e2 : some v1 = some u := e; injection e2 with e2; subst e2; exact h
      obtain rfl : v2 = .pointer (some ⟨GB, 0, none⟩) := by obtain ⟨u, e, h⟩ := hval 2 (by omega); have e2 : some v2 = some u := e; injection e2 with e2; subst e2; exact h
      obtain rfl : v3 = .agg #[.int .i64 x0, .int .i64 x1, .int .i64 x2, .int .i64 lk] := by obtain ⟨u, e, h⟩ := hval 3 (by omega); have e2 : some v3 = some u := e; injection e2 with e2; subst e2; exact h
      have k4 : v4 = .int .i64 AX := by obtain ⟨u, e, h⟩ := hval 4 (by omega); have e2 : some v4 = some u := e; injection e2 with e2; subst e2; exact h
      clear hval hvl
      simp only [putL, Act.put, List.setIfInBounds_toArray, List.set_cons_zero, List.set_cons_succ]
      rw [k4]
      obtain ⟨w5, hrun5, hmap5, hgrow5⟩ := (map_far HMAP.out (hb.block (b0 + 1) hlm)).update (int_keyed Try.underlying3) Try.underlying107 hnn (key := .int .i64 AX) (val := .bool true) (kl := .int .i64 AX) (d := .lit (.bool true)) (ps := []) HKYX.out (plainElem_bool Try.underlying4 true)
      refine wpAnyIn_ready (rs := [5]) (by kernel_rfl) (by simp) ?_
      refine AllReadyIn.cons rfl (fun K hK => ?_) AllReadyIn.nil
      go_simp
      refine hK _ _ ?_
      clear hK K
      refine wpAnyIn_done (by kernel_rfl) ?_ _
      have hk5 : KeptBut (fun k => k = b0 + 1) U w5 := (KeptBut.of_below hb).trans (KeptBut.grown hgrow5 (fun r h => by injection h with h; exact h.symm))
      have hs5 := hk5.size
      have HK5 := Lib.hid hk5
      have HC35 := Lib.hid ((hk5.block b0 (by omega) (by omega)).trans HC3U.out)
      have HC65 := Lib.hid ((hk5.block (b0 + 2) (by omega) (by omega)).trans HC6U.out)
      have hgb5 := (hk5.block GB hgl (by omega)).trans HGB.out
      have hbU5 : Below b0 U w5 := hk5.below (by omega) (fun k hk => by omega)
      have HCY5 := Lib.hid (fun m W (h : Below w5.heap.size w5 W) => HCY.out m W (hbU5.trans (h.mono (by omega))))
      have HMAP5 := Lib.hid hmap5
      clear hk5 hmap5 hgrow5 hrun5 hbU5 k4 hb HC3 HC6 HGB HMAP HCX HCY HC3U HC6U
      have HC3 := Lib.hid (cell1_of HC35.out).1
      have HC6 := Lib.hid (cell1_of HC65.out).1
      have HGB := Lib.hid hgb5
      have HMAP := HMAP5
      have hlm := HMAP5.out.lt
      have hgl : GB < w5.heap.size := heap_lt hgb5
      have hl3 : (⟨b0, 0, none⟩ : Addr).block < w5.heap.size := by show b0 < _; omega
      have hl6 : (⟨b0 + 2, 0, none⟩ : Addr).block < w5.heap.size := by show b0 + 2 < _; omega
      have hnn2 : 2 * pre.length + 1 < maxLen := by unfold maxLen; omega
      clear hgb5
      obtain ⟨wA, hwA⟩ : ∃ wA, wA = w5 := ⟨_, rfl⟩
      subst hwA
      gi_wp2_with fail
      refine wpIn_region_factsA _ 5 [17, 18, 19, 20, 21] [isV (.map (some (b0 + 1))), isV (.func (.func fid) #[] lb), isV (.pointer (some ⟨GB, 4, none⟩)), isV (.agg #[.int .i64 y0, .int .i64 y1, .int .i64 y2, .int .i64 lk]), ⟨fun v W => v = .int .i64 AY, fun _ _ _ h _ => h⟩] (by kernel_rfl) (by kernel_rfl) rfl (by decide) (by decide) (by simp) ?step ?rest
      case step =>
        intro i ac W d hi hd hb hoff hdep
        have z0 := (hb.cell hl6).trans HC6.out
        have z1 := (hb.cell hl3).trans HC3.out
        obtain ⟨g0, g1, g2, g3, g4, g5, g6, g7, g8⟩ := cells9 ((hb.block GB hgl).trans HGB.out)
        have hi2 : i = 0 ∨ i = 1 ∨ i = 2 ∨ i = 3 ∨ i = 4 := by omega
        rcases hi2 with rfl | rfl | rfl | rfl | rfl
        · obtain rfl : 17 = d := by simpa using hd
          have q6 : ac.tmps[6]?.getD undef = .pointer (some ⟨b0 + 2, 0, none⟩) := (eval_tmp _ _).symm.trans <| (hoff 6 (by decide)).trans rfl
          refine fact_valueIn (fun f => hfn f) rfl (by intro c h; cases h) rfl rfl (v := .map (some (b0 + 1))) (W' := W) ?_ (Below.refl _ _) rfl
          simp only [execOp]
          go_simp
        · obtain rfl : 18 = d := by simpa using hd
          have q3 : ac.tmps[3]?.getD undef = .pointer (some ⟨b0, 0, none⟩) := (eval_tmp _ _).symm.trans <| (hoff 3 (by decide)).trans rfl
          refine fact_valueIn (fun f => hfn f) rfl (by intro c h; cases h) rfl rfl (v := .func (.func fid) #[] lb) (W' := W) ?_ (Below.refl _ _) rfl
          simp only [execOp]
          go_simp
        · obtain rfl : 19 = d := by simpa using hd
          have q7 : ac.tmps[7]?.getD undef = .pointer (some ⟨GB, 0, none⟩) := (eval_tmp _ _).symm.trans <| (hoff 7 (by decide)).trans rfl
          refine fact_valueIn (fun f => hfn f) rfl (by intro c h; cases h) rfl rfl (v := .pointer (some ⟨GB, 4, none⟩)) (W' := W) ?_ (Below.refl _ _) rfl
          simp only [execOp]
          go_simp
        · obtain rfl : 20 = d := by simpa using hd
          have q19 : ac.tmps[19]?.getD undef = .pointer (some ⟨GB, 4, none⟩) := (eval_tmp _ _).symm.trans (hdep 2 19 rfl rfl)
          refine fact_valueIn (fun f => hfn f) rfl (by intro c h; cases h) rfl rfl (v := .agg #[.int .i64 y0, .int .i64 y1, .int .i64 y2, .int .i64 lk]) (W' := W) ?_ (Below.refl _ _) rfl
          simp only [execOp]
          go_simp
        · obtain rfl : 21 = d := by simpa using hd
          have q18 : ac.tmps[18]?.getD undef = .func (.func fid) #[] lb := (eval_tmp _ _).symm.trans (hdep 1 18 rfl rfl)
          have q20 : ac.tmps[20]?.getD undef = .agg #[.int .i64 y0, .int .i64 y1, .int .i64 y2, .int .i64 lk] := (eval_tmp _ _).symm.trans (hdep 3 20 rfl rfl)
          refine fact_callIn (fun f => hfn f) hd0 rfl (by intro c h; cases h) rfl rfl (f := fid) (args := #[.agg #[.int .i64 y0, .int .i64 y1, .int .i64 y2, .int .i64 lk]] ++ lb) ?_ ?_
          · simp only [execOp]
            go_simp
            simp [heg.out]
          · refine (HCY5.out _ W hb).mono ?_
            rintro e w' ⟨rfl, hb2⟩
            exact ⟨_, rfl, hb2, rfl⟩
      case rest =>
        intro vs W hvl hb hval
        obtain ⟨v0, v1, v2, v3, v4, rfl⟩ : ∃ v0 v1 v2 v3 v4, vs = [v0, v1, v2, v3, v4] := by
          match vs, hvl with
          | [v0, v1, v2, v3, v4], _ => exact ⟨v0, v1, v2, v3, v4, rfl⟩
        obtain rfl : v0 = .map (some (b0 + 1)) := by obtain ⟨u, e, h⟩ := hval 0 (by omega); have e2 : some v0 = some u := e; injection e2 with e2; subst e2; exact h
        obtain rfl : v1 = .func (.func fid) #[] lb := by obtain ⟨u, e, h⟩ := hval 1 (by omega); have e2 : some v1 = some u := e; injection e2 with e2; subst e2; exact h
        obtain rfl : v2 = .pointer (some ⟨GB, 4, none⟩) := by obtain ⟨u, e, h⟩ := hval 2 (by omega); have e2 : some v2 = some u := e; injection e2 with e2; subst e2; exact h
        obtain rfl : v3 = .agg #[.int .i64 y0, .int .i64 y1, .int .i64 y2, .int .i64 lk] := by obtain ⟨u, e, h⟩ := hval 3 (by omega); have e2 : some v3 = some u := e; injection e2 with e2; subst e2; exact h
        have k4 : v4 = .int .i64 AY := by obtain ⟨u, e, h⟩ := hval 4 (by omega); have e2 : some v4 = some u := e; injection e2 with e2; subst e2; exact h
        clear hval hvl
        simp only [putL, Act.put, List.setIfInBounds_toArray, List.set_cons_zero, List.set_cons_succ]
        rw [k4]
        obtain ⟨w5, hrun5, hmap5, hgrow5⟩ := (map_far HMAP.out (hb.block (b0 + 1) hlm)).update (int_keyed Try.underlying3) Try.underlying107 hnn2 (key := .int .i64 AY) (val := .bool true) (kl := .int .i64 AY) (d := .lit (.bool true)) (ps := []) HKYY.out (plainElem_bool Try.underlying4 true)
        refine wpAnyIn_ready (rs := [5]) (by kernel_rfl) (by simp) ?_
        refine AllReadyIn.cons rfl (fun K hK => ?_) AllReadyIn.nil
        go_simp
        refine hK _ _ ?_
        clear hK K
        refine wpAnyIn_done (by kernel_rfl) ?_ _
        gi_wp2_with fail
        have hk9 : KeptBut (fun k => k = b0 + 1) wA w5 := (KeptBut.of_below hb).trans (KeptBut.grown hgrow5 (fun r h => by injection h with h; exact h.symm))
        refine ⟨HK5.out.trans hk9, ?_⟩
        show w5.ownsMap Try.prog 3 (plainElem Try.prog 4) (b0 + 1) (2 * (pre ++ [x]).length) (askD (asksG f M lev (pre ++ [x])))
        rw [HSN.out, askD_snoc, askD_snoc, List.length_append]
        exact hmap5
  case done =>
    rintro D W hD hkb hI hK
    have hkB : Below b0 w W := HB2.out.trans (hkb.below (by omega) (fun k hk => by omega))
    have hWs := hkb.size
    have hDn : b0 + 1 ≠ D := by omega
    have HC6W := Lib.hid ((hkb.block (b0 + 2) (by omega) (by omega)).trans HC62.out)
    have z6 := (cell1_of HC6W.out).1
    have hT := grpT_len hV (lev := lev)
    have hsz := askD_size (asksG f M lev (grpT M lev))
    rw [asksG_len] at hsz
    have hlen := hI.len Try.underlying107 3
    have hz := askD_zero (asksG f M lev (grpT M lev))
    obtain ⟨SZ, hSZ⟩ : ∃ SZ, Maps.size (askD (asksG f M lev (grpT M lev))) = SZ := ⟨_, rfl⟩
    rw [hSZ] at hlen hz hsz
    have hbW : b0 + 3 ≤ W.heap.size := by omega
    have hbD : b0 ≤ D := by omega
    have hge : SZ = 0 ↔ grpT M lev = [] := by
      rw [hz, ← List.length_eq_zero_iff, asksG_len, ← List.length_eq_zero_iff]
      omega
    have HI := Lib.hid hI
    have HSZ := Lib.hid hSZ
    clear hI hwk2 hb2 hc3 hc6 hm2 hs2 hD hz hSZ
    have hfin : Below b0 w (W.putObj D (.deferred none)) := hkB.trans (putObj_below _ _ (by omega))
    by_cases h0 : SZ = 0
    · have HEE := Lib.hid (hge.1 h0)
      subst h0
      clear hge hsz hT HSZ HI
      gi_wp2
      refine ⟨by simp, .inl ⟨_, _, rfl, run_takeDeferred hK, ?_⟩⟩
      exact ⟨_, results_tmp2 rfl _ _ _, fun _ => rfl, fun h => absurd HEE.out h, by rw [← HE.out]  at hfin; exact hfin⟩
    · have HEE := Lib.hid (show ¬ grpT M lev = [] from fun h => h0 (hge.2 h))
      have hz1 : ((SZ : Int) == 0) = false := by simp; omega
      have HKC := Lib.hid (fun m => inF hF (n := m) (callsIn_wide.1 (keys_call 5 (some (b0 + 1)) W)))
      have HSC := Lib.hid (fun m => inF hF (n := m) (callsIn_wide.1 (sorted_call (b0 + 1) _ _ W HI.out (by rw [HSZ.out]; unfold maxLen; omega) (by rw [HSZ.out]; omega))))
      clear hge hsz hT HSZ HI
      gi_wp2_with fail
      refine (HKC.out _).mono ?_
      rintro e w' ⟨rfl, rfl⟩
      gi_wp2_with fail
      refine (HSC.out _).mono ?_
      rintro e w5 ⟨v, L, rfl, hA, hrow, hb5⟩
      have hDl := heap_lt hK
      have hK5 := (hb5.block D hDl).trans hK
      have hrow5 := row_far (w' := w5.putObj D (.deferred none)) hrow (fun g hg => World.putObj_heap_other (by have := (hrow.lt g hg).1; omega))
      have hbf : Below b0 w (w5.putObj D (.deferred none)) := (hkB.trans (hb5.mono (by omega))).trans (putObj_below _ _ (by omega))
      have HA5 := Lib.hid hA
      have HR5 := Lib.hid (ownsRow_base_a hrow5 (show b0 ≤ W.heap.size by omega))
      have HBF := Lib.hid hbf
      clear hA hrow hrow5 hbf hb5 hK hlen z6 hfin hkB
      gi_wp2
      refine ⟨by simp, .inl ⟨_, _, rfl, run_takeDeferred hK5, ?_⟩⟩
      refine ⟨_, results_tmp2 rfl _ _ _, fun h => absurd h HEE.out, fun _ => ⟨v, L, rfl, HA5.out, ?_⟩, ?_⟩
      · rw [HE.out]; exact HR5.out
      · rw [HE.out]; exact HBF.out
  case stop =>
    rintro D c pre W _ _ _ h _
    exact h.elim
theorem answers_any (M : Mach) (hV : ValidM M) (lev : Nat) (hl : lev < 3) (pb : Nat) (fid : FuncId) (lb : Array Value) (f : Ask4) (hf : ∀ a b c d, 1 ≤ a ∧ a ≤ 1000 → 1 ≤ b ∧ b ≤ 1000 → 1 ≤ c ∧ c ≤ 1000 → 0 ≤ d ∧ d ≤ 20 → I64 (f a b c d)) (w : World) (hx : WorkAt w.heap.size w pb M lev)
    (hegg : ∀ args w, (callFunc fid args).run Try.prog w = .ok (.enter fid args) w)
    (hask : ∀ a b c d W, 1 ≤ a ∧ a ≤ 1000 → 1 ≤ b ∧ b ≤ 1000 → 1 ≤ c ∧ c ≤ 1000 → 0 ≤ d ∧ d ≤ 20 → Below w.heap.size w W → Calls Try.prog fid (#[.agg #[.int .i64 a, .int .i64 b, .int .i64 c, .int .i64 d]] ++ lb) W fun e w' => e = .returned (.int .i64 (f a b c d)) ∧ Below W.heap.size W w') :
    Calls Try.prog 56 #[.pointer (some ⟨pb, 0, none⟩), .func (.func fid) #[] lb] w fun e w' =>
      (grpT M lev = [] → e = .returned (.tuple #[.slice none 0 0, .int .i64 3])) ∧ (grpT M lev ≠ [] → ∃ v L, e = .returned (.tuple #[v, .int .i64 0]) ∧ AnsOf (asksG f M lev (grpT M lev)) L ∧ w'.ownsRow w.heap.size 3 1 v L.length (L.map (Value.int .i64))) ∧ Below w.heap.size w w' :=
  wide_calls (answers_in 12 rfl M hV lev hl pb fid lb f hf w hx hegg hask)
end Go.Proofs.Ytomcjopcfdllgaa
