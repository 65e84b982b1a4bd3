/-
  Links, the law's own functions: equal numbers, the example.
  Links, walks: the last cable of a past, and the questions of Who and Where.
  Links, walks: the questions of Who and Where.
-/
import Derived.Test.YtgjikoebneiamaaLSeq1
import Derived.BigQuiet
import Derived.Test.YtgjikoebneiamaaLRight

namespace Go.Proofs.Ytgjikoebneiamaa
open Go.RowKit Go.Shelf

theorem list_ext_nth {a b : List Int} (hl : a.length = b.length) (h : ∀ i, i < a.length → nth a i = nth b i) : a = b := by
  apply List.ext_getElem hl
  intro i h1 h2
  have := h i h1
  rwa [nth_lt h1, nth_lt h2] at this

set_option maxHeartbeats 1000000 in
theorem SameInts_any (v u : Value) (a b : List Int) (w : World) {B C : Nat} (hv : IntsAt B w v a) (hu : IntsAt C w u b) :
    Calls Try.prog 26 #[v, u] w fun e w' => e = .returned (.bool (decide (a = b))) ∧ ∃ n, w' = w.drewN n := by
  obtain ⟨a1, cap1, b1, off1, rfl, hm1, HA1, HC1, _⟩ := hv.opened
  obtain ⟨a2, cap2, b2, off2, rfl, hm2, HA2, HC2, _⟩ := hu.opened
  clear hv hu
  by_cases hl : a.length = b.length
  case neg =>
    have hn : ((a.length : Int) != (b.length : Int)) = true := by simp; omega
    have HE := Lib.hid (show decide (a = b) = false from by simp; rintro rfl; exact hl rfl)
    clear hl
    go_enter Try.func26, Try.ntmps26
    go_wp2
    go_ret
    exact ⟨ret_bool HE.out.symm, 0, rfl⟩
  have hn : ((a.length : Int) != (b.length : Int)) = false := by simp; omega
  have HL := Lib.hid hl
  clear hl
  go_enter Try.func26, Try.ntmps26
  go_wp2
  go_loopw [5] (fun i wr => ∃ k : Nat, k ≤ a.length ∧ i = .int .i64 k ∧ Hid (∀ j, j < k → nth a j = nth b j) ∧ (∃ n, wr = w.drewN n)) (fun i _ => a.length - (intOf i).toNat)
  case atStart => exact ⟨0, Nat.zero_le _, rfl, fun j hj => by omega, 0, rfl⟩
  case round =>
    obtain ⟨k, hk, rfl, hall, n0, hwr⟩ := hrel
    have HC1 := Lib.hid (show ∀ i, i < a.length → wr.cell? ⟨b1, off1 + i, none⟩ = some (.int .i64 (nth a i)) from fun i hi => hwr ▸ HC1.out i hi)
    have HC2 := Lib.hid (show ∀ i, i < b.length → wr.cell? ⟨b2, off2 + i, none⟩ = some (.int .i64 (nth b i)) from fun i hi => hwr ▸ HC2.out i hi)
    have HWR := Lib.hid (show ∀ m, ∃ n, wr.drewN m = w.drewN n from fun m => ⟨n0 + m, by rw [hwr, World.drewN_drewN]⟩)
    have HWR0 := Lib.hid (show ∃ n, wr = w.drewN n from ⟨n0, hwr⟩)
    clear hwr
    by_cases hlt : k < a.length
    · have hlt2 : k < b.length := by have := HL.out; omega
      obtain ⟨rfl, hb1⟩ := HA1.out (by omega)
      obtain ⟨rfl, hb2⟩ := HA2.out (by omega)
      have d1 := HC1.out k hlt
      have d2 := HC2.out k hlt2
      by_cases he : nth a k = nth b k
      · have hq : (nth a k != nth b k) = false := by simp [he]
        have HE := Lib.hid he
        clear he
        go_wp2
        go_quiet (fail)
        go_wp2
        exact ⟨⟨k + 1, by omega, by go_num, fun j hj => by by_cases e : j = k; exact e ▸ HE.out; exact hall.out j (by omega), HWR.out _⟩, by simp [intOf]; omega⟩
      · have hq : (nth a k != nth b k) = true := by simp [he]
        have HE := Lib.hid (show decide (a = b) = false from by simp; rintro rfl; exact he rfl)
        clear he
        go_wp2
        go_quiet (fail)
        go_wp2
        go_ret
        exact ⟨ret_bool HE.out.symm, HWR.out _⟩
    · obtain rfl : a.length = k := by omega
      have HE := Lib.hid (show decide (a = b) = true from by simp; exact list_ext_nth HL.out hall.out)
      go_wp2
      go_ret
      exact ⟨ret_bool HE.out.symm, HWR0.out⟩
theorem SameInts_to {v u : Value} {a b : List Int} {w : World} {B C : Nat} {r : Bool} (h : decide (a = b) = r) (hv : IntsAt B w v a) (hu : IntsAt C w u b) :
    Calls Try.prog 26 #[v, u] w fun e w' => e = .returned (.bool r) ∧ Below w.heap.size w w' :=
  (h ▸ SameInts_any v u a b w hv hu : Calls Try.prog 26 #[v, u] w fun e w' => e = .returned (.bool r) ∧ ∃ n, w' = w.drewN n).mono fun _ _ ⟨h1, n, h2⟩ => ⟨h1, h2 ▸ drewN_below (Below.refl _ _) n⟩
theorem cells_of {w : World} {b i : Nat} {cs : Array Value} {t : TypeId} {u : Value} (h : w.heap[b]? = some (.cells cs t)) (hi : cs[i]? = some u) : w.cell? ⟨b, i, none⟩ = some u := by
  simp [World.cell?, h, hi]

theorem lit2 (a b : Int) : ∀ i, i < [a, b].length → (#[Value.int .i64 a, .int .i64 b])[i]? = some (.int .i64 (nth [a, b] i))
  | 0, _ => rfl
  | 1, _ => rfl
  | i + 2, h => by simp at h; omega
theorem lit1 (a : Int) : ∀ i, i < [a].length → (#[Value.int .i64 a])[i]? = some (.int .i64 (nth [a] i))
  | 0, _ => rfl
  | i + 1, h => by simp at h
theorem ints_lit {B b : Nat} {w : World} {xs : List Int} {arr : Array Value} {t : TypeId} (h : w.heap[b]? = some (.cells arr t)) (hB : b < B) (_hs : arr.size = xs.length) (hc : ∀ i, i < xs.length → arr[i]? = some (.int .i64 (nth xs i))) (hw : ∀ x ∈ xs, I64 x) (hl : xs.length ≤ maxLen := by decide) :
    IntsAt B w (.slice (some ⟨b, 0, none⟩) xs.length xs.length) xs :=
  ⟨_, xs.length, b, 0, rfl, Nat.le_refl _, hl, fun _ => ⟨rfl, hB⟩, fun i hi => by rw [Nat.zero_add]; exact cells_of h (hc i hi), hw⟩


theorem heap_four (w : World) (o0 o1 o2 o3 : Obj) : ((((w.alloc o0).alloc o1).alloc o2).alloc o3).heap[w.heap.size]? = some o0 ∧ ((((w.alloc o0).alloc o1).alloc o2).alloc o3).heap[w.heap.size + 1]? = some o1 ∧
    ((((w.alloc o0).alloc o1).alloc o2).alloc o3).heap[w.heap.size + 1 + 1]? = some o2 ∧ ((((w.alloc o0).alloc o1).alloc o2).alloc o3).heap[w.heap.size + 1 + 1 + 1]? = some o3 ∧ Below w.heap.size w ((((w.alloc o0).alloc o1).alloc o2).alloc o3) := by
  have e2 := heap_new ((w.alloc o0).alloc o1) o2
  have e3 := heap_new (((w.alloc o0).alloc o1).alloc o2) o3
  rw [World.size_alloc, World.size_alloc] at e2
  rw [World.size_alloc, World.size_alloc, World.size_alloc] at e3
  refine ⟨?_, ?_, ?_, e3, (((((Below.refl _ w).alloc (Nat.le_refl _) o0).alloc (by simp) o1).alloc (by simp; omega) o2).alloc (by simp; omega) o3)⟩
  · rw [Below.heap_alloc _ _ _ (by simp <;> omega), Below.heap_alloc _ _ _ (by simp <;> omega)]; exact heap_old1 _ _ _
  · rw [Below.heap_alloc _ _ _ (by simp <;> omega), Below.heap_alloc _ _ _ (by simp <;> omega)]; exact heap_new1 _ _ _
  · rw [Below.heap_alloc _ _ _ (by simp)]; exact e2
def exK : Chain := ⟨[⟨1, 0, 0, 5, 1⟩, ⟨1, 1, 0, 5, 2⟩, ⟨1, 2, 0, 6, 1⟩, ⟨4, 0, 0, 0, 0⟩, ⟨2, 0, 2, 0, 0⟩, ⟨1, 0, 1, 7, 2⟩], [], 0⟩
def exS : Sight := ⟨6, 1, 0, 6, -1⟩
def exT : Sight := ⟨6, 0, 0, -1, 1⟩
def exCells : Array Value := #[.int .i64 1, .int .i64 0, .int .i64 0, .int .i64 5, .int .i64 1, .int .i64 1, .int .i64 1, .int .i64 0, .int .i64 5, .int .i64 2, .int .i64 1, .int .i64 2, .int .i64 0, .int .i64 6, .int .i64 1, .int .i64 4, .int .i64 0, .int .i64 0, .int .i64 0, .int .i64 0, .int .i64 2, .int .i64 0, .int .i64 2, .int .i64 0, .int .i64 0, .int .i64 1, .int .i64 0, .int .i64 1, .int .i64 7, .int .i64 2]

set_option maxRecDepth 100000 in
set_option maxHeartbeats 2000000 in
theorem Example_any (w : World) :
    Calls Try.prog 65 #[] w fun e w' => ∃ g t, e = .returned (.tuple #[.agg #[.slice (some ⟨g, 0, none⟩) 6 6, .slice none 0 0, .int .i64 0], sV exS, sV exT]) ∧ w'.heap[g]? = some (.cells exCells t) ∧ w.heap.size ≤ g ∧ Below w.heap.size w w' := by
  go_enter Try.func65, Try.ntmps65
  go_wp2
  obtain ⟨W, hW⟩ : ∃ W, W = (((w.alloc (.cells #[.slice (some ⟨w.heap.size + 1 + 1 + 1, 0, none⟩) 6 6, .slice none 0 0, .int .i64 0] 25)).alloc (.cells #[.int .i64 6, .int .i64 1, .int .i64 0, .int .i64 6, .int .i64 (-1)] 60)).alloc (.cells #[.int .i64 6, .int .i64 0, .int .i64 0, .int .i64 (-1), .int .i64 1] 60)).alloc (.cells exCells 55) := ⟨_, rfl⟩
  have h0 := heap_four w (.cells #[.slice (some ⟨w.heap.size + 1 + 1 + 1, 0, none⟩) 6 6, .slice none 0 0, .int .i64 0] 25) (.cells #[.int .i64 6, .int .i64 1, .int .i64 0, .int .i64 6, .int .i64 (-1)] 60) (.cells #[.int .i64 6, .int .i64 0, .int .i64 0, .int .i64 (-1), .int .i64 1] 60) (.cells exCells 55)
  rw [← hW] at h0
  unfold exCells at hW
  rw [← hW]
  obtain ⟨g0, g1, g2, g3, hb⟩ := h0
  have y0 := cells_of (i := 0) g0 rfl
  have y1 := cells_of (i := 1) g0 rfl
  have y2 := cells_of (i := 2) g0 rfl
  have z0 := cells_of (i := 0) g1 rfl
  have z1 := cells_of (i := 1) g1 rfl
  have z2 := cells_of (i := 2) g1 rfl
  have z3 := cells_of (i := 3) g1 rfl
  have z4 := cells_of (i := 4) g1 rfl
  have x0 := cells_of (i := 0) g2 rfl
  have x1 := cells_of (i := 1) g2 rfl
  have x2 := cells_of (i := 2) g2 rfl
  have x3 := cells_of (i := 3) g2 rfl
  have x4 := cells_of (i := 4) g2 rfl
  clear hW
  refine bodyPost_ret (v := .tuple #[.agg #[.slice (some ⟨w.heap.size + 1 + 1 + 1, 0, none⟩) 6 6, .slice none 0 0, .int .i64 0], sV exS, sV exT]) (by simp [results, Try.results65, go_sem, y0, y1, y2, z0, z1, z2, z3, z4, x0, x1, x2, x3, x4, sV, exS, exT]) rfl ⟨_, _, rfl, g3, by omega, hb⟩

end Go.Proofs.Ytgjikoebneiamaa

namespace Go.Proofs.Ytgjikoebneiamaa
open Go.RowKit Go.Sort

/-- The place of a number in a list; -1: it is not there. -/
def ixV : List Int → Int → Int
  | [], _ => -1
  | a :: l, x => if a = x then 0 else if ixV l x < 0 then -1 else ixV l x + 1
theorem ixV_no : ∀ {xs : List Int} {x : Int}, x ∉ xs → ixV xs x = -1
  | [], _, _ => rfl
  | a :: l, x, h => by
    simp only [List.mem_cons, not_or] at h
    simp only [ixV, if_neg (Ne.symm h.1), ixV_no h.2]; rfl
theorem nth_cons_succ (a : Int) (l : List Int) (i : Nat) : nth (a :: l) (i + 1) = nth l i := rfl
theorem ixV_yes : ∀ {xs : List Int} {x : Int} {j : Nat}, j < xs.length → x = nth xs j → (∀ i, i < j → x ≠ nth xs i) → ixV xs x = j
  | [], _, _, h, _, _ => by simp at h
  | a :: l, x, 0, _, e, _ => by simp only [ixV]; rw [if_pos]; rfl; exact e.symm
  | a :: l, x, j + 1, h, e, hn => by
    have h0 : ¬ a = x := fun e' => hn 0 (by omega) e'.symm
    have ih := ixV_yes (xs := l) (x := x) (j := j) (by simpa using h) e (fun i hi => hn (i + 1) (by omega))
    simp only [ixV, if_neg h0, ih]
    rw [if_neg (by omega)]; push_cast; rfl
theorem index_any (v : Value) (xs : List Int) (x : Int) (w : World) {B : Nat} (hx : IntsAt B w v xs) :
    Calls Try.prog 86 #[v, .int .i64 x] w fun e w' => e = .returned (.int .i64 (ixV xs x)) ∧ w = w' := by
  cases h : inB xs x
  · rw [ixV_no (by simpa [inB] using h)]
    exact index_no v xs x w hx h
  · obtain ⟨j, hj, he, hne⟩ := least_ix h
    rw [ixV_yes hj he hne]
    exact index_yes v xs x w hx j hj he hne
theorem ixV_bound : ∀ (xs : List Int) (x : Int), -1 ≤ ixV xs x ∧ ixV xs x < xs.length
  | [], _ => by simp [ixV]
  | a :: l, x => by
    have := ixV_bound l x
    simp only [ixV, List.length_cons]
    split
    · omega
    · split <;> omega

theorem PastTo.ints {n Bp Bm : Nat} {cab : Nat → List Int} {W : World} (h : PastTo n Bp Bm cab n W) (_ : n ≤ 12) (hI : ∀ x ∈ cab n, I64 x) : IntsAt W.heap.size W (.slice (some ⟨Bm, n * 12, none⟩) (cab n).length 12) (cab n) := by
  have hl := h.len n (Nat.le_refl _)
  have hlt := h.ltm
  obtain ⟨f, hR, hH⟩ := h.mem
  exact ⟨_, 12, Bm, n * 12, rfl, hl, by unfold maxLen; omega, fun _ => ⟨rfl, hlt⟩, fun i hi => by rw [hR.cell (by omega), hH n (Nat.le_refl _) i hi], hI⟩
theorem story_i64 {C : Chain} (hV : Valid C) (ends : List Int) {k : Nat} (hk : k ≤ C.deeds.length) : ∀ x ∈ story C.deeds ends k, I64 x := fun x hx => by
  have h1 := (story_ok (ends := ends) hV.deed k hk).2.2 x hx
  have h2 := weldsTo_le C.deeds k
  have h3 := hV.nd
  unfold I64; omega

set_option maxHeartbeats 1000000 in
theorem last_any (n Bp Bm : Nat) (cab : Nat → List Int) (w : World) (hn : n ≤ 12) (hp : PastTo n Bp Bm cab n w) :
    Calls Try.prog 80 #[pastV n Bp] w fun e w' => e = .returned (.slice (some ⟨Bm, n * 12, none⟩) (cab n).length 12) ∧ w' = w := by
  have x0 := hdr_cell hp (Nat.le_refl n)
  have hltp := hp.ltp
  generalize (cab n).length = L at x0 ⊢
  have hw1 : IntKind.i64.wrap (((n : Int) + 1) - 1) = (n : Int) := by rw [IntWalk.i64_in _ (by omega)]; omega
  clear hp
  go_enter Try.func80, Try.ntmps80
  go_wp2_with fail
  go_ret
  exact ⟨rfl, rfl⟩

end Go.Proofs.Ytgjikoebneiamaa

namespace Go.Proofs.Ytgjikoebneiamaa
open Go.RowKit Go.Sort

set_option maxHeartbeats 1000000 in
theorem whoAsk_any (C : Chain) (hV : Valid C) (x : List Int) (Bp Bm bx : Nat) (at_ : Nat) (w : World) (hp : PastTo C.deeds.length Bp Bm (story C.deeds x) C.deeds.length w)
    (hbx : w.cell? ⟨bx, 0, none⟩ = some (.int .i64 at_)) (hat : at_ < (story C.deeds x C.deeds.length).length) :
    Calls Try.prog 79 #[pastV C.deeds.length Bp, .pointer (some ⟨bx, 0, none⟩)] w fun e w' => e = .returned (.int .i64 (nth (story C.deeds x C.deeds.length) at_)) ∧ Below w.heap.size w w' := by
  have hnd := hV.nd
  have HLAST := Lib.hid (fun d => last_any C.deeds.length Bp Bm (story C.deeds x) (w.drewN d) hnd (hp.kept (own := fun _ => False) (kept_drewN w d) (fun h => h) (fun h => h)))
  have hl := hp.len C.deeds.length (Nat.le_refl _)
  obtain ⟨f, hR, hH⟩ := hp.mem
  have x0 : w.cell? ⟨Bm, C.deeds.length * 12 + at_, none⟩ = some (.int .i64 (nth (story C.deeds x C.deeds.length) at_)) := by rw [hR.cell (by omega), hH _ (Nat.le_refl _) at_ hat]
  clear hp hR hH
  generalize nth (story C.deeds x C.deeds.length) at_ = y at x0 ⊢
  generalize (story C.deeds x C.deeds.length).length = L at hat hl HLAST
  generalize C.deeds.length = nd at x0 hnd HLAST ⊢
  go_enter Try.func79, Try.ntmps79
  go_wp2_with fail
  go_quiet ((go_at_call 80; exact Calls.quiet_of_same (HLAST.out _)))
  go_wp2_with fail
  go_ret
  exact ⟨rfl, drewN_below (Below.refl _ _) _⟩

set_option maxHeartbeats 1000000 in
theorem whereAsk_any (C : Chain) (hV : Valid C) (x : List Int) (Bp Bm bx : Nat) (link : Int) (w : World) (hp : PastTo C.deeds.length Bp Bm (story C.deeds x) C.deeds.length w)
    (hbx : w.cell? ⟨bx, 0, none⟩ = some (.int .i64 link)) :
    Calls Try.prog 85 #[pastV C.deeds.length Bp, .pointer (some ⟨bx, 0, none⟩)] w fun e w' => e = .returned (.int .i64 (ixV (story C.deeds x C.deeds.length) link)) ∧ Below w.heap.size w w' := by
  have hnd := hV.nd
  have hpd := fun d => hp.kept (own := fun _ => False) (kept_drewN w d) (fun h => h) (fun h => h)
  have HLAST := Lib.hid (fun d => last_any C.deeds.length Bp Bm (story C.deeds x) (w.drewN d) hnd (hpd d))
  have HIX := Lib.hid (fun d => (index_any _ _ link _ ((hpd d).ints hnd (story_i64 hV x (Nat.le_refl _)))).mono (R' := fun e w' => e = .returned (.int .i64 (ixV (story C.deeds x C.deeds.length) link)) ∧ w' = w.drewN d) (fun _ _ h => ⟨h.1, h.2.symm⟩))
  clear hp hpd
  generalize ixV (story C.deeds x C.deeds.length) link = y at HIX ⊢
  generalize (story C.deeds x C.deeds.length).length = L at HLAST HIX
  generalize C.deeds.length = nd at hnd HLAST HIX ⊢
  go_enter Try.func85, Try.ntmps85
  go_wp2_with fail
  go_quiet (first
    | (go_at_call 80; exact Calls.quiet_of_same (HLAST.out _))
    | (go_at_call 86; exact Calls.quiet_of_same (HIX.out _)))
  go_wp2_with fail
  go_ret
  exact ⟨rfl, drewN_below (Below.refl _ _) _⟩

end Go.Proofs.Ytgjikoebneiamaa
