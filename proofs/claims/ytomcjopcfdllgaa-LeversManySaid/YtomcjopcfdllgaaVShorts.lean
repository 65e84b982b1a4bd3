/-
  Levers, walks: the short arms of a lever, and the leaks, that there are in truths.
-/
import Derived.Test.YtomcjopcfdllgaaVAns
import Derived.Test.YtomcjopcfdllgaaVWeightsM

namespace Go.Proofs.Ytomcjopcfdllgaa
open Go.RowKit Go.Shelf

/-- The arm of lever lev. -/
def pick3 (lev : Nat) : Ask4 := fun a b c _ => if lev = 0 then a else if lev = 1 then b else c
theorem shorts1_any (lev : Nat) (hl : lev < 3) (bx : Nat) (a b c d : Int) (W : World) (hb : bx < W.heap.size) (hc : W.cell? ⟨bx, 0, none⟩ = some (.int .i64 (lev : Nat))) :
    Calls Try.prog 57 #[.agg #[.int .i64 a, .int .i64 b, .int .i64 c, .int .i64 d], .pointer (some ⟨bx, 0, none⟩)] W fun e w' => e = .returned (.int .i64 (pick3 lev a b c d)) ∧ Below W.heap.size W w' := by
  have hc2 := (World.cell?_of_block (w := W) (a := ⟨bx, 0, none⟩) (Below.heap_alloc W (.cells #[.int .i64 a, .int .i64 b, .int .i64 c, .int .i64 d] 83) bx hb)).trans hc
  have h3 : lev = 0 ∨ lev = 1 ∨ lev = 2 := by omega
  rcases h3 with rfl | rfl | rfl
  all_goals
    go_enter Try.func57, Try.ntmps57
    go_wp2
    go_ret
    exact ⟨rfl, by go_grown⟩
theorem leaks1_any (a b c d : Int) (W : World) :
    Calls Try.prog 59 #[.agg #[.int .i64 a, .int .i64 b, .int .i64 c, .int .i64 d]] W fun e w' => e = .returned (.int .i64 d) ∧ Below W.heap.size W w' := by
  go_enter Try.func59, Try.ntmps59
  go_wp2
  go_ret
  exact ⟨rfl, by go_grown⟩
theorem pick_arm {M : Mach} {lev : Nat} (hl : lev < 3) (g : Grp) : pick3 lev (gx M lev g 0) (gx M lev g 1) (gx M lev g 2) g.leak = g.arm ∧ pick3 lev (gy M lev g 0) (gy M lev g 1) (gy M lev g 2) g.leak = g.arm := by
  have h3 : lev = 0 ∨ lev = 1 ∨ lev = 2 := by omega
  rcases h3 with rfl | rfl | rfl <;> exact ⟨rfl, rfl⟩
theorem shorts_mem {M : Mach} (hV : ValidM M) {lev : Nat} (hl : lev < 3) (x : Int) : x ∈ asksG (pick3 lev) M lev (grpT M lev) ↔ ∃ s ∈ truthsM M, pad s.1 lev = x := by
  rw [arm_ends hV hl x]
  simp only [asksG, List.mem_flatMap, fG, List.mem_cons, List.not_mem_nil, or_false]
  constructor
  · rintro ⟨g, hg, h⟩
    have := pick_arm (M := M) hl g
    exact ⟨g, hg, by rcases h with h | h <;> omega⟩
  · rintro ⟨g, hg, rfl⟩
    exact ⟨g, hg, .inl (pick_arm hl g).1.symm⟩
theorem leaks_mem {M : Mach} (hV : ValidM M) (x : Int) : x ∈ asksG (fun _ _ _ d => d) M 0 (grpT M 0) ↔ ∃ s ∈ truthsM M, s.2 = x := by
  rw [leak_ends hV (lev := 0) (by decide) x]
  simp only [asksG, List.mem_flatMap, fG, List.mem_cons, List.not_mem_nil, or_false, or_self]
  constructor
  · rintro ⟨g, hg, h⟩; exact ⟨g, hg, h.symm⟩
  · rintro ⟨g, hg, h⟩; exact ⟨g, hg, h.symm⟩
theorem grpT_nil {M : Mach} (hV : ValidM M) {lev : Nat} (hl : lev < 3) : grpT M lev = [] ↔ truthsM M = [] := by
  have h := grpT_none hV hl
  rw [Bool.eq_iff_iff, List.isEmpty_iff, List.isEmpty_iff] at h
  exact h
/-- The answers of truths: none, or in order, each once. -/
def AnsAt (P : Int → Prop) (no : Prop) (base : Nat) (e : Ending) (w' : World) : Prop :=
  (no → e = .returned (.tuple #[.slice none 0 0, .int .i64 3])) ∧ (¬ no → ∃ (v : Value) (L : List Int), e = .returned (.tuple #[v, .int .i64 0]) ∧ (L.Pairwise (· < ·) ∧ ∀ x, x ∈ L ↔ P x) ∧ w'.ownsRow base 3 1 v L.length (L.map (Value.int .i64)))
theorem AnsAt.base {P : Int → Prop} {no : Prop} {b b' : Nat} {e : Ending} {w' : World} (h : AnsAt P no b e w') (hb : b' ≤ b) : AnsAt P no b' e w' :=
  ⟨h.1, fun hn => by obtain ⟨v, L, h1, h2, h3⟩ := h.2 hn; exact ⟨v, L, h1, h2, ownsRow_base_a h3 hb⟩⟩
theorem ansAt_of {M : Mach} (hV : ValidM M) {lev : Nat} (hl : lev < 3) {f : Ask4} {P : Int → Prop} (hP : ∀ x, x ∈ asksG f M lev (grpT M lev) ↔ P x) {b : Nat} {e : Ending} {w' : World}
    (h1 : grpT M lev = [] → e = .returned (.tuple #[.slice none 0 0, .int .i64 3])) (h2 : grpT M lev ≠ [] → ∃ v L, e = .returned (.tuple #[v, .int .i64 0]) ∧ AnsOf (asksG f M lev (grpT M lev)) L ∧ w'.ownsRow b 3 1 v L.length (L.map (Value.int .i64))) : AnsAt P (truthsM M = []) b e w' := by
  refine ⟨fun h => h1 ((grpT_nil hV hl).2 h), fun h => ?_⟩
  obtain ⟨v, L, e1, e2, e3⟩ := h2 (fun h' => h ((grpT_nil hV hl).1 h'))
  exact ⟨v, L, e1, ⟨e2.1, fun x => (e2.2 x).trans (hP x)⟩, e3⟩
/-- What the answers return, whatever it is. -/
theorem AnsAt.form {P : Int → Prop} {no : Prop} {b : Nat} {e : Ending} {w' : World} (h : AnsAt P no b e w') : ∃ v r, e = .returned (.tuple #[v, .int .i64 r]) := by
  by_cases hn : no
  · exact ⟨_, _, h.1 hn⟩
  · obtain ⟨v, L, h1, _⟩ := h.2 hn
    exact ⟨v, 0, h1⟩

set_option maxRecDepth 100000 in
set_option maxHeartbeats 2000000 in
theorem Shorts_any (v : Value) (M : Mach) (lev : Nat) (w : World) (hx : MachAt w.heap.size w v M) (hV : validMB M = true) (ha : lev < M.levers.length) :
    Calls Try.prog 15 #[v, .int .i64 (lev : Nat)] w fun e w' => AnsAt (fun x => ∃ s ∈ truthsM M, pad s.1 lev = x) (truthsM M = []) w.heap.size e w' ∧ Below w.heap.size w w' := by
  have HX := Lib.hid (fun W (hb : Below w.heap.size w W) => (hx.below hb).mono hb.size)
  obtain ⟨a, cap, a2, cap2, rfl⟩ := hx.form
  have HVV := Lib.hid (validM_iff.1 hV)
  have HV := Lib.hid hV
  have hl3 : lev < 3 := by have := HVV.out.nl; omega
  have HOP := Lib.hid (fun (W : World) (hW : Below w.heap.size w W) => openLever_ok _ M lev W (HX.out W hW) hV ha)
  clear hx hV
  go_enter Try.func15, Try.ntmps15
  go_wp2_with (go_at_call 55; refine (HOP.out _ (by go_grown)).mono ?_; rintro e w1 ⟨pb, rfl, hwk, hb1⟩; have HB1 := Lib.hid ((show Below w.heap.size w _ by go_grown).trans (hb1.mono (by simp; omega))); have hbx := (hb1.block (w.heap.size + 1) (by simp)).trans (heap_new1 _ _ _); have HBX := Lib.hid hbx; have HWK := Lib.hid hwk; clear hb1 hbx hwk)
  have HAN := Lib.hid (answers_any M HVV.out lev hl3 pb 57 #[.pointer (some ⟨w.heap.size + 1, 0, none⟩)] (pick3 lev) (fun a b c d h1 h2 h3 h4 => by unfold pick3 I64; split; omega; split <;> omega) w1 HWK.out (enters_of Try.func57 (by kernel_rfl) rfl)
    (fun a b c d W _ _ _ _ hW => shorts1_any lev hl3 (w.heap.size + 1) a b c d W (by have := hW.size; have := heap_lt HBX.out; omega) ((hW.cell (p := ⟨w.heap.size + 1, 0, none⟩) (heap_lt HBX.out)).trans (cell1_of HBX.out).1)))
  refine HAN.out.mono ?_
  rintro e w5 ⟨h1, h2, hb5⟩
  have hA := ansAt_of HVV.out hl3 (shorts_mem HVV.out hl3) h1 h2
  obtain ⟨vv, rr, rfl⟩ := hA.form
  have HA := Lib.hid hA
  have HB5 := Lib.hid (HB1.out.trans (hb5.mono HB1.out.size))
  clear h1 h2 hb5 hA HAN
  go_wp2_with fail
  go_ret2
  exact ⟨HA.out.base HB1.out.size, HB5.out⟩

set_option maxRecDepth 100000 in
set_option maxHeartbeats 2000000 in
theorem Leaks_any (v : Value) (M : Mach) (w : World) (hx : MachAt w.heap.size w v M) (hV : validMB M = true) :
    Calls Try.prog 17 #[v] w fun e w' => AnsAt (fun x => ∃ s ∈ truthsM M, s.2 = x) (truthsM M = []) w.heap.size e w' ∧ Below w.heap.size w w' := by
  have HX := Lib.hid (fun W (hb : Below w.heap.size w W) => (hx.below hb).mono hb.size)
  obtain ⟨a, cap, a2, cap2, rfl⟩ := hx.form
  have HVV := Lib.hid (validM_iff.1 hV)
  have HOP := Lib.hid (fun (W : World) (hW : Below w.heap.size w W) => open_ok _ M 0 0 0 W (HX.out W hW) hV (by decide))
  clear hx hV
  go_enter Try.func17, Try.ntmps17
  go_wp2_with (go_at_call 58; refine (HOP.out _ (by go_grown)).mono ?_; rintro e w1 ⟨pb, rfl, hwk, hb1⟩; have HB1 := Lib.hid ((show Below w.heap.size w _ by go_grown).trans (hb1.mono (by simp))); have HWK := Lib.hid hwk; clear hb1 hwk)
  have HAN := Lib.hid (answers_any M HVV.out 0 (by decide) pb 59 #[] (fun _ _ _ d => d) (fun a b c d h1 h2 h3 h4 => by unfold I64; omega) w1 HWK.out (enters_of Try.func59 (by kernel_rfl) rfl)
    (fun a b c d W _ _ _ _ hW => leaks1_any a b c d W))
  refine HAN.out.mono ?_
  rintro e w5 ⟨h1, h2, hb5⟩
  have hA := ansAt_of HVV.out (by decide) (leaks_mem HVV.out) h1 h2
  obtain ⟨vv, rr, rfl⟩ := hA.form
  have HA := Lib.hid hA
  have HB5 := Lib.hid (HB1.out.trans (hb5.mono HB1.out.size))
  clear h1 h2 hb5 hA HAN
  go_wp2_with fail
  go_ret2
  exact ⟨HA.out.base HB1.out.size, HB5.out⟩
end Go.Proofs.Ytomcjopcfdllgaa
