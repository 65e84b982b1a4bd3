/-
  What the program and the law's own functions answer of Alike, Rest and Room, whatever store and arguments; a law's body: pieces that are alike, rests, room (P1.8, P1.9, P1.10).
-/
import Derived.Test.YtjflpmhlodgadaaRestX
import Derived.Test.YtjflpmhlodgadaaAlikeW
import Derived.Test.YtjflpmhlodgadaaRestW
import Derived.Test.YtjflpmhlodgadaaAsks
import Derived.Test.YtjflpmhlodgadaaPlanLaw
namespace Go.Proofs.Ytjflpmhlodgadaa
open Go.RowKit Go.Sort

def alikeT (S : Store) (A B : Int) : Int × Int :=
  if validB S = false then (0, 10) else if (wB A 0 ((S.pieces.length : Int) - 1) && wB B 0 ((S.pieces.length : Int) - 1)) = false then (0, 1) else alikeV S A.toNat B.toNat
def roomT (S : Store) (n : Int) : Int × Int := if validB S = false then (0, 10) else if wB n 1 999 = false then (0, 1) else roomV S n
def restT (S : Store) (b : Int) : Int × Int × Int :=
  if validB S = false then (0, 0, 10) else if wB b 0 ((S.bars.length : Int) - 1) = false then (0, 0, 1) else if (truthsL S).length = 0 then (0, 0, 3) else ((restSpan S b (truthsL S)).1, (restSpan S b (truthsL S)).2, 0)
theorem knownV_zero {q : List Int → Bool} {xs : List (List Int)} (h : xs.length = 0) : knownV q xs = (0, 3) := by rw [knownV_of, if_pos h]
theorem restV_T {S : Store} {b : Int} (hv : validB S = true) (hb : wB b 0 ((S.bars.length : Int) - 1) = true) : restV S b = .tuple #[.agg #[.int .i64 (restT S b).1, .int .i64 (restT S b).2.1], .int .i64 (restT S b).2.2] := by
  unfold restT
  rw [if_neg (by rw [hv]; simp), if_neg (by rw [hb]; simp)]
  unfold restV
  split <;> rfl
theorem truthsX_none {v : Value} {S : Store} (hV : Valid S) (h : (truthsL S).length = 0) (w : World) (hx : StoreAt w.heap.size w v S) : Calls Try.prog 75 #[v, .bool true] w (GaveListsX [] 3 w) := by
  have := truthsX_any v S w hx hV
  rwa [List.length_eq_zero_iff.1 h] at this

theorem Alike_all (v : Value) (S : Store) (A B : Int) (w : World) (hx : StoreAt w.heap.size w v S) :
    Calls Try.prog 31 #[v, .int .i64 A, .int .i64 B] w fun e w' => e = .returned (.tuple #[.int .i64 (alikeT S A B).1, .int .i64 (alikeT S A B).2]) ∧ Below w.heap.size w w' := by
  cases hv : validB S
  · rw [alikeT, if_pos hv]; exact Alike_bad v S A B w hx hv
  · cases ha : (wB A 0 ((S.pieces.length : Int) - 1) && wB B 0 ((S.pieces.length : Int) - 1))
    · rw [alikeT, if_neg (by rw [hv]; simp), if_pos ha]; exact Alike_arg v S A B w hx (valid_iff.1 hv) ha
    · rw [alikeT, if_neg (by rw [hv]; simp), if_neg (by rw [ha]; simp)]
      have ha' := ha
      simp only [Bool.and_eq_true] at ha'
      obtain ⟨h1, h2⟩ := ha'
      have h1 := wB_iff.1 h1
      have h2 := wB_iff.1 h2
      obtain ⟨p, rfl⟩ := Int.eq_ofNat_of_zero_le h1.1
      obtain ⟨r, rfl⟩ := Int.eq_ofNat_of_zero_le h2.1
      exact Alike_any v S p r w hx (valid_iff.1 hv) (by omega) (by omega)
theorem rAlike_all (v : Value) (S : Store) (A B : Int) (w : World) (hx : StoreAt w.heap.size w v S) :
    Calls Try.prog 50 #[v, .int .i64 A, .int .i64 B] w fun e w' => e = .returned (.tuple #[.int .i64 (alikeT S A B).1, .int .i64 (alikeT S A B).2]) ∧ Below w.heap.size w w' := by
  cases hv : validB S
  · rw [alikeT, if_pos hv]; exact rAlike_err v S A B _ _ 10 w hx rfl rfl rfl fun w h => truthsX_bad v S _ w h hv
  · cases ha : (wB A 0 ((S.pieces.length : Int) - 1) && wB B 0 ((S.pieces.length : Int) - 1))
    · rw [alikeT, if_neg (by rw [hv]; simp), if_pos ha]; exact rAlike_err v S A B _ _ 1 w hx rfl rfl rfl fun w h => by rw [ha]; exact truthsX_arg v S w h hv
    · rw [alikeT, if_neg (by rw [hv]; simp), if_neg (by rw [ha]; simp)]
      by_cases h0 : (truthsL S).length = 0
      · rw [alikeV, knownV_zero h0]; exact rAlike_err v S A B _ _ 3 w hx rfl rfl rfl fun w h => by rw [ha]; exact truthsX_none (valid_iff.1 hv) h0 w h
      · have ha' := ha
        simp only [Bool.and_eq_true] at ha'
        obtain ⟨h1, h2⟩ := ha'
        have h1 := wB_iff.1 h1
        have h2 := wB_iff.1 h2
        obtain ⟨p, rfl⟩ := Int.eq_ofNat_of_zero_le h1.1
        obtain ⟨r, rfl⟩ := Int.eq_ofNat_of_zero_le h2.1
        exact rAlike_any v S p r w hx (valid_iff.1 hv) (by omega) (by omega) h0
theorem Rest_all (v : Value) (S : Store) (b : Int) (w : World) (hx : StoreAt w.heap.size w v S) :
    Calls Try.prog 24 #[v, .int .i64 b] w fun e w' => e = .returned (.tuple #[.agg #[.int .i64 (restT S b).1, .int .i64 (restT S b).2.1], .int .i64 (restT S b).2.2]) ∧ Below w.heap.size w w' := by
  cases hv : validB S
  · rw [restT, if_pos hv]; exact Rest_bad v S b w hx hv
  · cases ha : wB b 0 ((S.bars.length : Int) - 1)
    · rw [restT, if_neg (by rw [hv]; simp), if_pos ha]; exact Rest_arg v S b w hx (valid_iff.1 hv) ha
    · have h1 := wB_iff.1 ha
      rw [← restV_T hv ha]
      exact Rest_any v S b w hx (valid_iff.1 hv) h1.1 (by omega)
theorem rRest_all (v : Value) (S : Store) (b : Int) (w : World) (hx : StoreAt w.heap.size w v S) :
    Calls Try.prog 51 #[v, .int .i64 b] w fun e w' => e = .returned (.tuple #[.agg #[.int .i64 (restT S b).1, .int .i64 (restT S b).2.1], .int .i64 (restT S b).2.2]) ∧ Below w.heap.size w w' := by
  cases hv : validB S
  · rw [restT, if_pos hv]; exact rRest_err v S b _ 10 w hx rfl fun w h => truthsX_bad v S _ w h hv
  · cases ha : wB b 0 ((S.bars.length : Int) - 1)
    · rw [restT, if_neg (by rw [hv]; simp), if_pos ha]; exact rRest_err v S b _ 1 w hx rfl fun w h => by rw [ha]; exact truthsX_arg v S w h hv
    · have h1 := wB_iff.1 ha
      by_cases h0 : (truthsL S).length = 0
      · rw [restT, if_neg (by rw [hv]; simp), if_neg (by rw [ha]; simp), if_pos h0]; exact rRest_err v S b _ 3 w hx rfl fun w h => by rw [ha]; exact truthsX_none (valid_iff.1 hv) h0 w h
      · rw [← restV_T hv ha]
        exact rRest_any v S b w hx (valid_iff.1 hv) h1.1 (by omega) h0
theorem Room_all (v : Value) (S : Store) (n : Int) (w : World) (hx : StoreAt w.heap.size w v S) :
    Calls Try.prog 26 #[v, .int .i64 n] w fun e w' => e = .returned (.tuple #[.int .i64 (roomT S n).1, .int .i64 (roomT S n).2]) ∧ Below w.heap.size w w' := by
  cases hv : validB S
  · rw [roomT, if_pos hv]; exact RoomInv_bad v S n w hx hv
  · cases ha : wB n 1 999
    · rw [roomT, if_neg (by rw [hv]; simp), if_pos ha]; exact Room_bad v S n w hx (valid_iff.1 hv) ha
    · rw [roomT, if_neg (by rw [hv]; simp), if_neg (by rw [ha]; simp)]
      have h1 := wB_iff.1 ha
      exact Room_any v S n w hx (valid_iff.1 hv) h1.1 h1.2
theorem gaveXE {xs : List (List Int)} {er : Int} {w : World} {v : Value} {b : Bool} (h : Calls Try.prog 75 #[v, .bool b] w (GaveListsX xs er w)) : Calls Try.prog 75 #[v, .bool b] w (GaveListsE xs er w) :=
  h.mono fun _ _ ⟨u, h1, _, h3, h4⟩ => ⟨u, h1, h3, h4⟩
theorem rRoom_all (v : Value) (S : Store) (n : Int) (w : World) (hx : StoreAt w.heap.size w v S) :
    Calls Try.prog 52 #[v, .int .i64 n] w fun e w' => e = .returned (.tuple #[.int .i64 (roomT S n).1, .int .i64 (roomT S n).2]) ∧ Below w.heap.size w w' := by
  cases hv : validB S
  · rw [roomT, if_pos hv]; exact rRoom_err v S n _ 10 w hx rfl rfl fun w h => gaveXE (truthsX_bad v S _ w h hv)
  · cases ha : wB n 1 999
    · rw [roomT, if_neg (by rw [hv]; simp), if_pos ha]; exact rRoom_err v S n _ 1 w hx rfl rfl fun w h => by rw [ha]; exact gaveXE (truthsX_arg v S w h hv)
    · rw [roomT, if_neg (by rw [hv]; simp), if_neg (by rw [ha]; simp)]
      have h1 := wB_iff.1 ha
      by_cases h0 : (truthsL S).length = 0
      · rw [roomV, knownV_zero h0]; exact rRoom_err v S n _ 3 w hx rfl rfl fun w h => by rw [ha]; exact gaveXE (truthsX_none (valid_iff.1 hv) h0 w h)
      · exact rRoom_any v S n w hx (valid_iff.1 hv) h1.1 h1.2 h0

/-- A block that reads as an object. -/
def BlkAt (W : World) (b : Nat) (o : Obj) : Prop := W.heap[b]? = some o
theorem BlkAt.next {W W' : World} {b : Nat} {o : Obj} (h : BlkAt W b o) (hb : Below W.heap.size W W') : BlkAt W' b o :=
  (hb.block b (Array.getElem?_eq_some_iff.1 h).1).trans h
theorem box2_of {w : World} {b : Nat} {v0 v1 : Value} {t : TypeId} (h : w.heap[b]? = some (.cells #[v0, v1] t)) : w.cell? ⟨b, 0, none⟩ = some v0 ∧ w.cell? ⟨b, 1, none⟩ = some v1 := by
  refine ⟨?_, ?_⟩ <;> simp [World.cell?, h]
theorem box3_of {w : World} {b : Nat} {v0 v1 v2 : Value} {t : TypeId} (h : w.heap[b]? = some (.cells #[v0, v1, v2] t)) : w.cell? ⟨b, 0, none⟩ = some v0 ∧ w.cell? ⟨b, 1, none⟩ = some v1 ∧ w.cell? ⟨b, 2, none⟩ = some v2 := by
  refine ⟨?_, ?_, ?_⟩ <;> simp [World.cell?, h]

set_option maxRecDepth 100000 in
set_option maxHeartbeats 16000000 in
theorem BarsAlike_any (v : Value) (S : Store) (A B C D : Int) (w : World) (hx : StoreAt w.heap.size w v S) :
    Calls Try.prog 11 #[v, .agg #[.int .i64 A, .int .i64 B, .int .i64 C, .int .i64 D]] w fun e w' => e = .returned (.bool true) ∧ Below w.heap.size w w' := by
  have hx' := hx
  obtain ⟨a, cap1, b1, off, a2, cap2, b2, off2, rfl, hm, hm2, HA, HC, HA2, HC2⟩ := hx.opened
  have hs := (Stat.first hx').alloc (.cells #[.int .i64 A, .int .i64 B, .int .i64 C, .int .i64 D] 28)
  have hq : BlkAt ((w.alloc (.cells #[.slice a S.bars.length cap1, .int .i64 S.kerf, .slice a2 S.pieces.length cap2, .int .i64 S.wrong] 25)).alloc (.cells #[.int .i64 A, .int .i64 B, .int .i64 C, .int .i64 D] 28)) (w.heap.size + 1) (.cells #[.int .i64 A, .int .i64 B, .int .i64 C, .int .i64 D] 28) := (heap_at2 w (.cells #[.slice a S.bars.length cap1, .int .i64 S.kerf, .slice a2 S.pieces.length cap2, .int .i64 S.wrong] 25) (.cells #[.int .i64 A, .int .i64 B, .int .i64 C, .int .i64 D] 28)).2
  obtain ⟨c0, c1, c2, c3⟩ := box4_of hs.blk
  obtain ⟨x0, x1, x2, x3⟩ := box4_of hq
  have HS0 := Lib.hid hs
  have HQ0 := Lib.hid hq
  clear hs hq hx hx' HA HC HA2 HC2
  cases hr : farB S
  case true =>
    have HR := Lib.hid hr
    clear hr
    go_enter Try.func11, Try.ntmps11
    go_wp2_with fail
    refine (Far_to HR.out HS0.out.st).mono ?_
    rintro e w1 ⟨rfl, hb⟩
    have HS1 := Lib.hid (HS0.out.next hb)
    have HQ1 := Lib.hid (HQ0.out.next hb)
    clear hb c0 c1 c2 c3 x0 x1 x2 x3
    obtain ⟨c0, c1, c2, c3⟩ := box4_of HS1.out.blk
    obtain ⟨x0, x1, x2, x3⟩ := box4_of HQ1.out
    go_wp2_with (go_at_call 15; refine (works_any _).mono ?_; rintro e wz ⟨rfl, hb⟩; have HB := Lib.hid ((HS1.out.next hb).b); clear hb)
    go_ret
    exact ⟨rfl, HB.out⟩
  have hFew := farB_few hr
  have HR := Lib.hid hr
  have HFEW := Lib.hid hFew
  clear hr hFew
  go_enter Try.func11, Try.ntmps11
  go_wp2_with fail
  refine (Far_to HR.out HS0.out.st).mono ?_
  rintro e w1 ⟨rfl, hb⟩
  have HS1 := Lib.hid (HS0.out.next hb)
  have HQ1 := Lib.hid (HQ0.out.next hb)
  clear hb c0 c1 c2 c3 x0 x1 x2 x3
  obtain ⟨c0, c1, c2, c3⟩ := box4_of HS1.out.blk
  obtain ⟨x0, x1, x2, x3⟩ := box4_of HQ1.out
  go_wp2_with fail
  refine (Copy_any _ S _ HS1.out.st HFEW.out).mono ?_
  rintro e w2 ⟨u, rfl, hcp, hb⟩
  obtain ⟨bv, pv, hs, rfl, h1, h2, h3, h4, h5, h6, h7⟩ := hcp
  obtain ⟨bA, bcap, rfl, _⟩ := own_form h1
  obtain ⟨pA, pcap, rfl, _⟩ := own_form h2
  have HE2 := Lib.hid (Ed.first (CopyAt.of_parts h1 h2 h3 ⟨h4, h5, h6, h7⟩) hb)
  clear h1 h2 h3 h4 h5 h6 h7
  have HS2 := Lib.hid (HS1.out.next hb)
  have HQ2 := Lib.hid (HQ1.out.next hb)
  clear hb c0 c1 c2 c3 x0 x1 x2 x3
  obtain ⟨c0, c1, c2, c3⟩ := box4_of HS2.out.blk
  obtain ⟨x0, x1, x2, x3⟩ := box4_of HQ2.out
  have hba := (Below.refl w2.heap.size w2).alloc (Nat.le_refl _) (.cells #[.slice bA S.bars.length bcap, .int .i64 S.kerf, .slice pA S.pieces.length pcap, .int .i64 S.wrong] 25)
  have gHS := HS2.out.next hba
  have gHQ := HQ2.out.next hba
  have gHO := HE2.out.stat HS1.out.b
  clear c0 c1 c2 c3 x0 x1 x2 x3
  obtain ⟨c0, c1, c2, c3⟩ := box4_of gHS.blk
  obtain ⟨x0, x1, x2, x3⟩ := box4_of gHQ
  obtain ⟨o0, o1, o2, o3⟩ := box4_of gHO.blk
  go_wp2_with fail
  generalize w2.alloc (.cells #[.slice bA S.bars.length bcap, .int .i64 S.kerf, .slice pA S.pieces.length pcap, .int .i64 S.wrong] 25) = W3 at hba gHS gHQ gHO c0 c1 c2 c3 x0 x1 x2 x3 o0 o1 o2 o3 ⊢
  clear hba
  have HS3 := Lib.hid gHS
  have HQ3 := Lib.hid gHQ
  have HO3 := Lib.hid gHO
  clear gHS gHQ gHO
  refine (Alike_all _ S A B _ HO3.out.st).mono ?_
  rintro e w4 ⟨rfl, hb⟩
  have HS4 := Lib.hid (HS3.out.next hb)
  have HQ4 := Lib.hid (HQ3.out.next hb)
  have HO4 := Lib.hid (HO3.out.next hb)
  clear hb c0 c1 c2 c3 x0 x1 x2 x3 o0 o1 o2 o3
  obtain ⟨c0, c1, c2, c3⟩ := box4_of HS4.out.blk
  obtain ⟨x0, x1, x2, x3⟩ := box4_of HQ4.out
  obtain ⟨o0, o1, o2, o3⟩ := box4_of HO4.out.blk
  go_wp2_with fail
  refine (rAlike_all _ S A B _ HS4.out.st).mono ?_
  rintro e w5 ⟨rfl, hb⟩
  have HS5 := Lib.hid (HS4.out.next hb)
  have HQ5 := Lib.hid (HQ4.out.next hb)
  have HO5 := Lib.hid (HO4.out.next hb)
  clear hb c0 c1 c2 c3 x0 x1 x2 x3 o0 o1 o2 o3
  obtain ⟨c0, c1, c2, c3⟩ := box4_of HS5.out.blk
  obtain ⟨x0, x1, x2, x3⟩ := box4_of HQ5.out
  obtain ⟨o0, o1, o2, o3⟩ := box4_of HO5.out.blk
  go_wp2_with fail
  refine (Rest_all _ S C _ HO5.out.st).mono ?_
  rintro e w6 ⟨rfl, hb⟩
  have HS6 := Lib.hid (HS5.out.next hb)
  have HQ6 := Lib.hid (HQ5.out.next hb)
  have HO6 := Lib.hid (HO5.out.next hb)
  clear hb c0 c1 c2 c3 x0 x1 x2 x3 o0 o1 o2 o3
  obtain ⟨c0, c1, c2, c3⟩ := box4_of HS6.out.blk
  obtain ⟨x0, x1, x2, x3⟩ := box4_of HQ6.out
  obtain ⟨o0, o1, o2, o3⟩ := box4_of HO6.out.blk
  have hba := (Below.refl w6.heap.size w6).alloc (Nat.le_refl _) (.cells #[.int .i64 (restT S C).1, .int .i64 (restT S C).2.1] 43)
  have gHS := HS6.out.next hba
  have gHQ := HQ6.out.next hba
  have gHO := HO6.out.next hba
  have gHY := (show BlkAt (w6.alloc (.cells #[.int .i64 (restT S C).1, .int .i64 (restT S C).2.1] 43)) w6.heap.size (.cells #[.int .i64 (restT S C).1, .int .i64 (restT S C).2.1] 43) from heap_new _ _)
  clear c0 c1 c2 c3 x0 x1 x2 x3 o0 o1 o2 o3
  obtain ⟨c0, c1, c2, c3⟩ := box4_of gHS.blk
  obtain ⟨x0, x1, x2, x3⟩ := box4_of gHQ
  obtain ⟨o0, o1, o2, o3⟩ := box4_of gHO.blk
  obtain ⟨y0, y1⟩ := box2_of gHY
  go_wp2_with fail
  generalize w6.alloc (.cells #[.int .i64 (restT S C).1, .int .i64 (restT S C).2.1] 43) = W7 at hba gHS gHQ gHO gHY c0 c1 c2 c3 x0 x1 x2 x3 o0 o1 o2 o3 y0 y1 ⊢
  clear hba
  have HS7 := Lib.hid gHS
  have HQ7 := Lib.hid gHQ
  have HO7 := Lib.hid gHO
  have HY7 := Lib.hid gHY
  clear gHS gHQ gHO gHY
  refine (rRest_all _ S C _ HS7.out.st).mono ?_
  rintro e w8 ⟨rfl, hb⟩
  have HS8 := Lib.hid (HS7.out.next hb)
  have HQ8 := Lib.hid (HQ7.out.next hb)
  have HO8 := Lib.hid (HO7.out.next hb)
  have HY8 := Lib.hid (HY7.out.next hb)
  clear hb c0 c1 c2 c3 x0 x1 x2 x3 o0 o1 o2 o3 y0 y1
  obtain ⟨c0, c1, c2, c3⟩ := box4_of HS8.out.blk
  obtain ⟨x0, x1, x2, x3⟩ := box4_of HQ8.out
  obtain ⟨o0, o1, o2, o3⟩ := box4_of HO8.out.blk
  obtain ⟨y0, y1⟩ := box2_of HY8.out
  have hba := (Below.refl w8.heap.size w8).alloc (Nat.le_refl _) (.cells #[.int .i64 (restT S C).1, .int .i64 (restT S C).2.1] 43)
  have gHS := HS8.out.next hba
  have gHQ := HQ8.out.next hba
  have gHO := HO8.out.next hba
  have gHY := HY8.out.next hba
  have gHZ := (show BlkAt (w8.alloc (.cells #[.int .i64 (restT S C).1, .int .i64 (restT S C).2.1] 43)) w8.heap.size (.cells #[.int .i64 (restT S C).1, .int .i64 (restT S C).2.1] 43) from heap_new _ _)
  clear c0 c1 c2 c3 x0 x1 x2 x3 o0 o1 o2 o3 y0 y1
  obtain ⟨c0, c1, c2, c3⟩ := box4_of gHS.blk
  obtain ⟨x0, x1, x2, x3⟩ := box4_of gHQ
  obtain ⟨o0, o1, o2, o3⟩ := box4_of gHO.blk
  obtain ⟨y0, y1⟩ := box2_of gHY
  obtain ⟨z0, z1⟩ := box2_of gHZ
  go_wp2_with fail
  generalize w8.alloc (.cells #[.int .i64 (restT S C).1, .int .i64 (restT S C).2.1] 43) = W9 at hba gHS gHQ gHO gHY gHZ c0 c1 c2 c3 x0 x1 x2 x3 o0 o1 o2 o3 y0 y1 z0 z1 ⊢
  clear hba
  have HS9 := Lib.hid gHS
  have HQ9 := Lib.hid gHQ
  have HO9 := Lib.hid gHO
  have HY9 := Lib.hid gHY
  have HZ9 := Lib.hid gHZ
  clear gHS gHQ gHO gHY gHZ
  refine (Room_all _ S D _ HO9.out.st).mono ?_
  rintro e w10 ⟨rfl, hb⟩
  have HS10 := Lib.hid (HS9.out.next hb)
  have HQ10 := Lib.hid (HQ9.out.next hb)
  have HO10 := Lib.hid (HO9.out.next hb)
  have HY10 := Lib.hid (HY9.out.next hb)
  have HZ10 := Lib.hid (HZ9.out.next hb)
  clear hb c0 c1 c2 c3 x0 x1 x2 x3 o0 o1 o2 o3 y0 y1 z0 z1
  obtain ⟨c0, c1, c2, c3⟩ := box4_of HS10.out.blk
  obtain ⟨x0, x1, x2, x3⟩ := box4_of HQ10.out
  obtain ⟨o0, o1, o2, o3⟩ := box4_of HO10.out.blk
  obtain ⟨y0, y1⟩ := box2_of HY10.out
  obtain ⟨z0, z1⟩ := box2_of HZ10.out
  go_wp2_with fail
  refine (rRoom_all _ S D _ HS10.out.st).mono ?_
  rintro e w11 ⟨rfl, hb⟩
  have HS11 := Lib.hid (HS10.out.next hb)
  have HQ11 := Lib.hid (HQ10.out.next hb)
  have HO11 := Lib.hid (HO10.out.next hb)
  have HY11 := Lib.hid (HY10.out.next hb)
  have HZ11 := Lib.hid (HZ10.out.next hb)
  clear hb c0 c1 c2 c3 x0 x1 x2 x3 o0 o1 o2 o3 y0 y1 z0 z1
  obtain ⟨c0, c1, c2, c3⟩ := box4_of HS11.out.blk
  obtain ⟨x0, x1, x2, x3⟩ := box4_of HQ11.out
  obtain ⟨o0, o1, o2, o3⟩ := box4_of HO11.out.blk
  obtain ⟨y0, y1⟩ := box2_of HY11.out
  obtain ⟨z0, z1⟩ := box2_of HZ11.out
  go_wp2_with fail
  refine (same_eq _ _ S _ HO11.out.st HS11.out.st).mono ?_
  rintro e w12 ⟨rfl, hb⟩
  have HS12 := Lib.hid (HS11.out.next hb)
  have HQ12 := Lib.hid (HQ11.out.next hb)
  have HO12 := Lib.hid (HO11.out.next hb)
  have HY12 := Lib.hid (HY11.out.next hb)
  have HZ12 := Lib.hid (HZ11.out.next hb)
  clear hb c0 c1 c2 c3 x0 x1 x2 x3 o0 o1 o2 o3 y0 y1 z0 z1
  obtain ⟨c0, c1, c2, c3⟩ := box4_of HS12.out.blk
  obtain ⟨x0, x1, x2, x3⟩ := box4_of HQ12.out
  obtain ⟨o0, o1, o2, o3⟩ := box4_of HO12.out.blk
  obtain ⟨y0, y1⟩ := box2_of HY12.out
  obtain ⟨z0, z1⟩ := box2_of HZ12.out
  go_wp2_with (go_at_call 15; refine (works_any _).mono ?_; rintro e wz ⟨rfl, hb⟩; have HB := Lib.hid ((HS12.out.next hb).b); clear hb)
  go_ret
  exact ⟨rfl, HB.out⟩
end Go.Proofs.Ytjflpmhlodgadaa
