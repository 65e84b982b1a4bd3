/-
  Levers, the theorem of one more balance: what memory holds while one copy gets a balance more and the other one wider spans.
-/
import Derived.Test.YtomcjopcfdllgaaVTwo
import Derived.Test.YtomcjopcfdllgaaVInside

namespace Go.Proofs.Ytomcjopcfdllgaa
open Go.RowKit Go.Shelf

theorem ask3_iff {x y z : Int} : ask3 x y z = true ↔ (0 ≤ x ∧ x ≤ 9999) ∧ (0 ≤ y ∧ y ≤ 99) ∧ 0 ≤ z ∧ z ≤ 999999999 := by
  simp only [ask3, Bool.and_eq_true, wB_iff, and_assoc]
theorem lcells_set (x : Lev) : ∀ (ls : List Lev) (j : Nat), j < ls.length → (((lcells ls).set (j * 3) (.int .i64 x.long)).set (j * 3 + 1) (.int .i64 x.lo)).set (j * 3 + 2) (.int .i64 x.hi) = lcells (ls.set j x)
  | [], j, h => by simp at h
  | l :: ls, 0, _ => by simp [lcells, lcell]
  | l :: ls, j + 1, h => by
    have ih := lcells_set x ls j (by simpa using h)
    have e : lcells (l :: ls) = .int .i64 l.long :: .int .i64 l.lo :: .int .i64 l.hi :: lcells ls := by simp [lcells, lcell]
    have e2 : lcells ((l :: ls).set (j + 1) x) = .int .i64 l.long :: .int .i64 l.lo :: .int .i64 l.hi :: lcells (ls.set j x) := by simp [lcells, lcell]
    rw [e, e2, ← ih, show (j + 1) * 3 = j * 3 + 3 by omega, show j * 3 + 3 + 1 = j * 3 + 1 + 3 by omega, show j * 3 + 3 + 2 = j * 3 + 2 + 3 by omega]
    rfl
theorem lev_i64 {M : Mach} (hV : ValidM M) {l : Lev} (hl : l ∈ M.levers) : LI64 l := by
  have h := hV.lev l hl
  unfold LI64 I64
  omega
theorem bal_i64 {M : Mach} (hV : ValidM M) : ∀ i, i < M.bals.length → BI64 (bnth M.bals i) := fun i h => by
  have h := hV.bal (bnth M.bals i) (by rw [bnth_lt h]; exact List.getElem_mem h)
  unfold BI64 I64
  omega
theorem mach_i64 {M : Mach} (hV : ValidM M) : I64 M.water ∧ I64 M.lkLo ∧ I64 M.lkHi ∧ I64 M.wrong := by
  have h1 := hV.water
  have h2 := hV.leak
  have h3 := hV.wrong
  unfold I64
  omega
theorem three_new (w : World) (a b c : Value) (t : TypeId) : CellsFrom (w.alloc (.cells #[a, b, c] t)) (some ⟨w.heap.size, 0, none⟩) 1 3 [a, b, c] := by
  refine ⟨rfl, fun _ => ⟨_, rfl, fun j u hu => ?_⟩⟩
  obtain ⟨h0, h1, h2⟩ := cells3 (heap_new w (.cells #[a, b, c] t))
  rw [add_plain0, Nat.zero_add]
  match j, hu with
  | 0, hu => simp at hu; rw [← hu]; exact h0
  | 1, hu => simp at hu; rw [← hu]; exact h1
  | 2, hu => simp at hu; rw [← hu]; exact h2
theorem lev_read {B : Nat} {w : World} {M : Mach} {a : Option Addr} {cap : Nat} {v1 v2 v3 v4 v5 : Value} (h : MachAt B w (.agg #[.slice a M.levers.length cap, v1, v2, v3, v4, v5]) M) (hn : 0 < M.levers.length) :
    ∃ bb off, a = some ⟨bb, off, none⟩ ∧ bb < B ∧ ∀ i, i < M.levers.length → Three w bb (off + i * 3) (lnth M.levers i).long (lnth M.levers i).lo (lnth M.levers i).hi := by
  obtain ⟨lv, bv, hv, ⟨a', cap', b, off, rfl, _, _, ha, hc, _⟩, _⟩ := h
  injection hv with hv
  injection hv with hv
  injection hv with h1 _
  injection h1 with h1 _ _
  subst h1
  exact ⟨b, off, (ha hn).1, (ha hn).2, hc⟩
theorem row_cells {w : World} {base g n c : Nat} {ls : List Lev} {J : Nat} (h : w.ownsRow base 63 3 (.slice (some ⟨g, 0, none⟩) n c) n (lcells ls)) (hJ : J < n) : (∃ v, w.cell? ⟨g, J * 3, none⟩ = some v) ∧ (∃ v, w.cell? ⟨g, J * 3 + 1, none⟩ = some v) ∧ ∃ v, w.cell? ⟨g, J * 3 + 2, none⟩ = some v := by
  obtain ⟨hlen, ⟨hv, _⟩ | ⟨g', cap, cur, hv, _, hh, hn, _, hs, ht⟩⟩ := h
  · cases hv
  · injection hv with h1 _ _
    injection h1 with h1
    injection h1 with h1
    subst h1
    have hsz : n * 3 ≤ cur.size := by
      have : (lcells ls).length = n * 3 := hlen
      rw [← ht, List.length_take] at this
      simp at this; omega
    have key : ∀ k, k < n * 3 → ∃ v, w.cell? ⟨g, k, none⟩ = some v := fun k hk => ⟨cur[k]'(by omega), by simp [World.cell?, hh]⟩
    exact ⟨key _ (by omega), key _ (by omega), key _ (by omega)⟩
theorem row_frozen {w : World} {base g n c s : Nat} {e : TypeId} {xs : List Value} (h : w.ownsRow base e s (.slice (some ⟨g, 0, none⟩) n c) n xs) (k : Nat) : w.frozen? ⟨g, k, none⟩ = false := by
  obtain ⟨cur, hg⟩ := own_heap h
  exact froz hg k
theorem row_lt {w : World} {base g n c s : Nat} {e : TypeId} {xs : List Value} (h : w.ownsRow base e s (.slice (some ⟨g, 0, none⟩) n c) n xs) : g < w.heap.size := by
  obtain ⟨cur, hg⟩ := own_heap h
  exact heap_lt hg

theorem cells10 {W : World} {b : Nat} {v0 v1 v2 v3 v4 v5 v6 v7 v8 v9 : Value} {t : TypeId} (e : W.heap[b]? = some (.cells #[v0, v1, v2, v3, v4, v5, v6, v7, v8, v9] t)) :
    (W.cell? ⟨b, 0, none⟩ = some v0 ∧ W.cell? ⟨b, 1, none⟩ = some v1 ∧ W.cell? ⟨b, 2, none⟩ = some v2 ∧ W.cell? ⟨b, 3, none⟩ = some v3 ∧ W.cell? ⟨b, 4, none⟩ = some v4) ∧ W.cell? ⟨b, 5, none⟩ = some v5 ∧ W.cell? ⟨b, 6, none⟩ = some v6 ∧ W.cell? ⟨b, 7, none⟩ = some v7 ∧ W.cell? ⟨b, 8, none⟩ = some v8 ∧ W.cell? ⟨b, 9, none⟩ = some v9 := by
  refine ⟨⟨?_, ?_, ?_, ?_, ?_⟩, ?_, ?_, ?_, ?_, ?_⟩ <;> (rw [cell_of e]; rfl)
theorem four_new (w : World) (a b c d : Value) (t : TypeId) : CellsFrom (w.alloc (.cells #[a, b, c, d] t)) (some ⟨w.heap.size, 0, none⟩) 1 4 [a, b, c, d] := by
  refine ⟨rfl, fun _ => ⟨_, rfl, fun j u hu => ?_⟩⟩
  obtain ⟨h0, h1, h2, h3⟩ := cells4 (heap_new w (.cells #[a, b, c, d] t))
  rw [add_plain0, Nat.zero_add]
  match j, hu with
  | 0, hu => simp at hu; rw [← hu]; exact h0
  | 1, hu => simp at hu; rw [← hu]; exact h1
  | 2, hu => simp at hu; rw [← hu]; exact h2
  | 3, hu => simp at hu; rw [← hu]; exact h3
theorem bcells_snoc (bs : List Bal) (b : Bal) : bcells bs ++ [.int .i64 b.weight, .int .i64 b.minutes, .int .i64 b.load, .int .i64 b.off] = bcells (bs ++ [b]) := by simp [bcells, bcell]
theorem lcells_setS (lo hi : Int) : ∀ (ls : List Lev) (j : Nat), j < ls.length → ((lcells ls).set (j * 3 + 1) (.int .i64 lo)).set (j * 3 + 2) (.int .i64 hi) = lcells (ls.set j ⟨(lnth ls j).long, lo, hi⟩)
  | [], j, h => by simp at h
  | l :: ls, 0, _ => by simp [lcells, lcell, lnth]
  | l :: ls, j + 1, h => by
    have ih := lcells_setS lo hi ls j (by simpa using h)
    have e : lcells (l :: ls) = .int .i64 l.long :: .int .i64 l.lo :: .int .i64 l.hi :: lcells ls := by simp [lcells, lcell]
    have e2 : lcells ((l :: ls).set (j + 1) ⟨(lnth (l :: ls) (j + 1)).long, lo, hi⟩) = .int .i64 l.long :: .int .i64 l.lo :: .int .i64 l.hi :: lcells (ls.set j ⟨(lnth ls j).long, lo, hi⟩) := by simp [lcells, lcell, lnth]
    rw [e, e2, ← ih, show (j + 1) * 3 + 1 = j * 3 + 1 + 3 by omega, show (j + 1) * 3 + 2 = j * 3 + 2 + 3 by omega]
    rfl
theorem bcells_setO (x : Int) : ∀ (bs : List Bal) (j : Nat), j < bs.length → (bcells bs).set (j * 4 + 3) (.int .i64 x) = bcells (bs.set j { bnth bs j with off := x })
  | [], j, h => by simp at h
  | b :: bs, 0, _ => by simp [bcells, bcell, bnth]
  | b :: bs, j + 1, h => by
    have ih := bcells_setO x bs j (by simpa using h)
    have e : bcells (b :: bs) = .int .i64 b.weight :: .int .i64 b.minutes :: .int .i64 b.load :: .int .i64 b.off :: bcells bs := by simp [bcells, bcell]
    have e2 : bcells ((b :: bs).set (j + 1) { bnth (b :: bs) (j + 1) with off := x }) = .int .i64 b.weight :: .int .i64 b.minutes :: .int .i64 b.load :: .int .i64 b.off :: bcells (bs.set j { bnth bs j with off := x }) := by simp [bcells, bcell, bnth]
    rw [e, e2, ← ih, show (j + 1) * 4 + 3 = j * 4 + 3 + 4 by omega]
    rfl
/-- Two machines in variables, with rows of their own. -/
structure MoreW (lo : Nat) (W : World) (A C : Mach) (B U : Nat) (l1 b1 l2 b2 : Value) : Prop where
  vB : W.heap[B]? = some (.cells #[l1, .int .i64 A.water, .int .i64 A.lkLo, .int .i64 A.lkHi, b1, .int .i64 A.wrong] 27)
  vU : W.heap[U]? = some (.cells #[l2, .int .i64 C.water, .int .i64 C.lkLo, .int .i64 C.lkHi, b2, .int .i64 C.wrong] 27)
  r1 : W.ownsRow lo 63 3 l1 A.levers.length (lcells A.levers)
  r2 : W.ownsRow lo 51 4 b1 A.bals.length (bcells A.bals)
  r3 : W.ownsRow lo 63 3 l2 C.levers.length (lcells C.levers)
  r4 : W.ownsRow lo 51 4 b2 C.bals.length (bcells C.bals)
  apL : ∀ b, l1.ownBlock = some b → l2.ownBlock ≠ some b
  apB : ∀ b, b1.ownBlock = some b → b2.ownBlock ≠ some b
theorem MoreW.start {lo : Nat} {W : World} {M : Mach} {B U : Nat} {l1 b1 l2 b2 : Value} (h : TwoM lo W M B U l1 b1 l2 b2) : MoreW lo W M M B U l1 b1 l2 b2 := ⟨h.vB, h.vU, h.rows.1.1, h.rows.1.2, h.rows.2.1, h.rows.2.2, h.apart.1, h.apart.2⟩
theorem MoreW.below {lo : Nat} {W W' : World} {A C : Mach} {B U : Nat} {l1 b1 l2 b2 : Value} (h : MoreW lo W A C B U l1 b1 l2 b2) (hb : Below W.heap.size W W') : MoreW lo W' A C B U l1 b1 l2 b2 :=
  ⟨(hb.block B (heap_lt h.vB)).trans h.vB, (hb.block U (heap_lt h.vU)).trans h.vU, own_below h.r1 hb, own_below h.r2 hb, own_below h.r3 hb, own_below h.r4 hb, h.apL, h.apB⟩
theorem own_type {W : World} {lo n s : Nat} {e : TypeId} {v : Value} {xs : List Value} (h : W.ownsRow lo e s v n xs) {b : Nat} (hb : v.ownBlock = some b) : ∃ cs, W.heap[b]? = some (.cells cs e) := by
  obtain ⟨_, ⟨rfl, _⟩ | ⟨g, cap, cur, rfl, _, hg, _⟩⟩ := h
  · cases hb
  · have : g = b := by simpa [Value.ownBlock] using hb
    subst this
    exact ⟨cur, hg⟩
theorem type_ne {W : World} {b : Nat} {cs ds : Array Value} {e t : TypeId} (h : W.heap[b]? = some (.cells cs e)) (h' : W.heap[b]? = some (.cells ds t)) (hne : e ≠ t) : False := by
  rw [h] at h'
  injection h' with h'
  injection h' with _ ht
  exact hne ht
variable {lo : Nat} {W : World} {A C : Mach} {B U : Nat} {l1 b1 l2 b2 : Value}
theorem MoreW.far (h : MoreW lo W A C B U l1 b1 l2 b2) : (∀ b, l1.ownBlock = some b → b ≠ B ∧ b ≠ U) ∧ (∀ b, b1.ownBlock = some b → b ≠ B ∧ b ≠ U) ∧ (∀ b, l2.ownBlock = some b → b ≠ B ∧ b ≠ U) ∧ ∀ b, b2.ownBlock = some b → b ≠ B ∧ b ≠ U := by
  have key : ∀ {v : Value} {n s : Nat} {e : TypeId} {xs : List Value}, W.ownsRow lo e s v n xs → e ≠ 27 → ∀ b, v.ownBlock = some b → b ≠ B ∧ b ≠ U := fun hr hne b hb => by
    obtain ⟨cs, hc⟩ := own_type hr hb
    exact ⟨by rintro rfl; exact type_ne hc h.vB hne, by rintro rfl; exact type_ne hc h.vU hne⟩
  exact ⟨key h.r1 (by decide), key h.r2 (by decide), key h.r3 (by decide), key h.r4 (by decide)⟩
/-- A balance is added to the first one. -/
theorem MoreW.add {a5 : Option Addr} {c5 : Nat} {w5 : World} {o : Obj} {b : Bal} (h : MoreW lo W A C B U l1 b1 l2 b2) (hBU : B ≠ U)
    (hown : w5.ownsRow lo 51 4 (.slice a5 (A.bals.length + 1) c5) (A.bals.length + 1) (bcells A.bals ++ [.int .i64 b.weight, .int .i64 b.minutes, .int .i64 b.load, .int .i64 b.off])) (hg : (W.alloc o).grownBy w5 b1.ownBlock)
    (hat : (Value.slice a5 (A.bals.length + 1) c5).ownBlock = b1.ownBlock ∨ (Value.slice a5 (A.bals.length + 1) c5).ownBlock = some (W.alloc o).heap.size) :
    MoreW lo (w5.setCell ⟨B, 4, none⟩ (.slice a5 (A.bals.length + 1) c5)) (addB A b) C B U l1 (.slice a5 (A.bals.length + 1) c5) l2 b2 := by
  obtain ⟨f1, f2, f3, f4⟩ := h.far
  have hk := grown_kept hg
  have hB := (hk.block B (heap_lt h.vB) (fun e => (f2 B e).1 rfl)).trans h.vB
  have hU := (hk.block U (heap_lt h.vU) (fun e => (f2 U e).2 rfl)).trans h.vU
  have keep : ∀ {v : Value} {n s : Nat} {e : TypeId} {xs : List Value}, W.ownsRow lo e s v n xs → e ≠ 27 → (∀ g, v.ownBlock = some g → b1.ownBlock ≠ some g) → (w5.setCell ⟨B, 4, none⟩ (.slice a5 (A.bals.length + 1) c5)).ownsRow lo e s v n xs := fun hr hne hap =>
    own_setOther (row_far hr (fun g hg' => hk.block g (hr.lt g hg').2 (hap g hg'))) hB hne
  have tdiff : ∀ {v : Value} {n s : Nat} {xs : List Value}, W.ownsRow lo 63 s v n xs → ∀ g, v.ownBlock = some g → b1.ownBlock ≠ some g := fun hr g hg' e => by
    obtain ⟨cs, hc⟩ := own_type hr hg'
    obtain ⟨ds, hd⟩ := own_type h.r2 e
    exact type_ne hc hd (by decide)
  refine ⟨heap_setCell_same hB, (heap_setCell_other hBU).trans hU, keep h.r1 (by decide) (tdiff h.r1), ?_, keep h.r3 (by decide) (tdiff h.r3), keep h.r4 (by decide) (fun g hg' e => h.apB g e hg'), h.apL, fun g hg' e => ?_⟩
  · have h5 := own_setOther hown hB (o := 4) (u := .slice a5 (A.bals.length + 1) c5) (by decide)
    rw [bcells_snoc] at h5
    show World.ownsRow _ lo 51 4 _ (A.bals ++ [b]).length (bcells (A.bals ++ [b]))
    rw [List.length_append]
    exact h5
  · rcases hat with hat | hat
    · exact h.apB g (hat ▸ hg') e
    · rw [hat] at hg'
      injection hg' with hg'
      have := (h.r4.lt g e).2
      simp at hg'
      omega
/-- A store into one of the second one's own cells: the leak's end, or the number of wrong ones. -/
theorem MoreW.leak (h : MoreW lo W A C B U l1 b1 l2 b2) (hBU : B ≠ U) (x : Int) : MoreW lo (W.setCell ⟨U, 3, none⟩ (.int .i64 x)) A { C with lkHi := x } B U l1 b1 l2 b2 :=
  ⟨(heap_setCell_other (Ne.symm hBU)).trans h.vB, heap_setCell_same h.vU, own_setOther h.r1 h.vU (by decide), own_setOther h.r2 h.vU (by decide), own_setOther h.r3 h.vU (by decide), own_setOther h.r4 h.vU (by decide), h.apL, h.apB⟩
theorem MoreW.wrong (h : MoreW lo W A C B U l1 b1 l2 b2) (hBU : B ≠ U) (x : Int) : MoreW lo (W.setCell ⟨U, 5, none⟩ (.int .i64 x)) A { C with wrong := x } B U l1 b1 l2 b2 :=
  ⟨(heap_setCell_other (Ne.symm hBU)).trans h.vB, heap_setCell_same h.vU, own_setOther h.r1 h.vU (by decide), own_setOther h.r2 h.vU (by decide), own_setOther h.r3 h.vU (by decide), own_setOther h.r4 h.vU (by decide), h.apL, h.apB⟩
/-- A lever's span is stored. -/
theorem MoreW.lever {g c : Nat} (h : MoreW lo W A C B U l1 b1 (.slice (some ⟨g, 0, none⟩) C.levers.length c) b2) {J : Nat} (hJ : J < C.levers.length) (x y : Int) :
    MoreW lo ((W.setCell ⟨g, J * 3 + 1, none⟩ (.int .i64 x)).setCell ⟨g, J * 3 + 2, none⟩ (.int .i64 y)) A { C with levers := C.levers.set J ⟨(lnth C.levers J).long, x, y⟩ } B U l1 b1 (.slice (some ⟨g, 0, none⟩) C.levers.length c) b2 := by
  obtain ⟨cs, hg⟩ := own_type h.r3 (b := g) rfl
  have hgB : g ≠ B := by rintro rfl; exact type_ne hg h.vB (by decide)
  have hgU : g ≠ U := by rintro rfl; exact type_ne hg h.vU (by decide)
  have two : ∀ {v : Value} {n s : Nat} {e : TypeId} {xs : List Value}, W.ownsRow lo e s v n xs → v.ownBlock ≠ some g → ((W.setCell ⟨g, J * 3 + 1, none⟩ (.int .i64 x)).setCell ⟨g, J * 3 + 2, none⟩ (.int .i64 y)).ownsRow lo e s v n xs := fun hr hn => ownsRow_setCell_other (ownsRow_setCell_other hr hn _) hn _
  have hb : ∀ {v : Value} {n s : Nat} {xs : List Value}, W.ownsRow lo 51 s v n xs → v.ownBlock ≠ some g := fun hr e => by
    obtain ⟨ds, hd⟩ := own_type hr e
    exact type_ne hd hg (by decide)
  refine ⟨(heap_setCell_other hgB).trans ((heap_setCell_other hgB).trans h.vB), (heap_setCell_other hgU).trans ((heap_setCell_other hgU).trans h.vU), two h.r1 (fun e => h.apL g e rfl), two h.r2 (hb h.r2), ?_, two h.r4 (hb h.r4), h.apL, h.apB⟩
  show World.ownsRow _ lo 63 3 _ (C.levers.set J _).length (lcells (C.levers.set J _))
  rw [List.length_set, ← lcells_setS _ _ _ _ hJ]
  exact own_setSelf (own_setSelf h.r3 (by omega)) (by omega)
/-- A balance's Off is stored. -/
theorem MoreW.off {g c : Nat} (h : MoreW lo W A C B U l1 b1 l2 (.slice (some ⟨g, 0, none⟩) C.bals.length c)) {J : Nat} (hJ : J < C.bals.length) (x : Int) :
    MoreW lo (W.setCell ⟨g, J * 4 + 3, none⟩ (.int .i64 x)) A { C with bals := C.bals.set J { bnth C.bals J with off := x } } B U l1 b1 l2 (.slice (some ⟨g, 0, none⟩) C.bals.length c) := by
  obtain ⟨cs, hg⟩ := own_type h.r4 (b := g) rfl
  have hgB : g ≠ B := by rintro rfl; exact type_ne hg h.vB (by decide)
  have hgU : g ≠ U := by rintro rfl; exact type_ne hg h.vU (by decide)
  have hb : ∀ {v : Value} {n s : Nat} {xs : List Value}, W.ownsRow lo 63 s v n xs → v.ownBlock ≠ some g := fun hr e => by
    obtain ⟨ds, hd⟩ := own_type hr e
    exact type_ne hd hg (by decide)
  refine ⟨(heap_setCell_other hgB).trans h.vB, (heap_setCell_other hgU).trans h.vU, ownsRow_setCell_other h.r1 (hb h.r1) _, ownsRow_setCell_other h.r2 (fun e => h.apB g e rfl) _, ownsRow_setCell_other h.r3 (hb h.r3) _, ?_, h.apL, h.apB⟩
  show World.ownsRow _ lo 51 4 _ (C.bals.set J _).length (bcells (C.bals.set J _))
  rw [List.length_set, ← bcells_setO _ _ _ hJ]
  exact own_setSelf h.r4 (by omega)
end Go.Proofs.Ytomcjopcfdllgaa
