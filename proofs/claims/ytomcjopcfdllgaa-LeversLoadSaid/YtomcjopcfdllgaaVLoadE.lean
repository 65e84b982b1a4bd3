/-
  Levers: Load, of any machine, as the program answers and as the reference does.
-/
import Derived.Test.YtomcjopcfdllgaaVLoadR

namespace Go.Proofs.Ytomcjopcfdllgaa
open Go.RowKit Go.Shelf

set_option maxRecDepth 100000 in
set_option maxHeartbeats 4000000 in
theorem Load_er {v : Value} {M : Mach} {weight minutes : Int} (h : validMB M = false ∨ askB weight minutes 0 0 = false) (w : World) (hx : MachAt w.heap.size w v M) :
    Calls Try.prog 18 #[v, .int .i64 weight, .int .i64 minutes] w fun e w' => e = .returned (.tuple #[.agg #[.int .i64 0, .int .i64 0], .int .i64 (if validMB M = true then 1 else 30)]) ∧ Below w.heap.size w w' := by
  have HX := Lib.hid (fun W (hb : Below w.heap.size w W) => (hx.below hb).mono hb.size)
  obtain ⟨a, cap, a2, cap2, rfl⟩ := hx.form
  have HP := Lib.hid (fun W hb => open_er h W (HX.out W hb))
  have hr : (if validMB M = true then (1 : Int) else 30) = 1 ∨ (if validMB M = true then (1 : Int) else 30) = 30 := by split; exact .inl rfl; exact .inr rfl
  obtain ⟨er, her⟩ : ∃ er, (if validMB M = true then (1 : Int) else 30) = er := ⟨_, rfl⟩
  rw [her] at HP hr ⊢
  have HZ := Lib.hid (heap_new (((w.alloc (.cells #[.slice a M.levers.length cap, .int .i64 M.water, .int .i64 M.lkLo, .int .i64 M.lkHi, .slice a2 M.bals.length cap2, .int .i64 M.wrong] 27)).alloc (.cells #[.int .i64 weight] 3)).alloc (.cells #[.int .i64 minutes] 3)) (.cells #[.int .i64 0, .int .i64 0] 24))
  rw [World.size_alloc, World.size_alloc, World.size_alloc] at HZ
  clear hx her h
  rcases hr with rfl | rfl
  all_goals
    go_enter Try.func18, Try.ntmps18
    go_wp2_with fail
    refine (HP.out _ (by go_grown)).mono ?_
    rintro e w1 ⟨rfl, hb⟩
    have HB := Lib.hid ((show Below w.heap.size w _ by go_grown).trans (hb.mono (by simp; omega)))
    have HS := Lib.hid ((hb.block (w.heap.size + 1 + 1 + 1) (by simp)).trans HZ.out)
    clear hb
    have HS2 := Lib.hid ((Below.heap_alloc w1 (.cells #[.pointer none] 77) _ (heap_lt HS.out)).trans HS.out)
    obtain ⟨s0, s1⟩ := cells2S HS2.out
    have z0 := froz HS2.out 0
    have z1 := froz HS2.out 1
    go_wp2
    obtain ⟨y0, y1⟩ := cells2S (heap_setCell_same (o := 1) (v := .int .i64 0) (heap_setCell_same (o := 0) (v := .int .i64 0) HS2.out))
    have HFB := Lib.hid (below_setCell (o := 1) (v := .int .i64 0) (below_setCell (b := w.heap.size + 1 + 1 + 1) (o := 0) (v := .int .i64 0) (HB.out.alloc HB.out.size (.cells #[.pointer none] 77)) (by omega)) (b := w.heap.size + 1 + 1 + 1) (by omega))
    first
      | exact bodyPost_ret (v := .tuple #[.agg #[.int .i64 0, .int .i64 0], .int .i64 1]) (by simp [results, Try.results18, go_sem, y0, y1]) rfl ⟨rfl, HFB.out⟩
      | exact bodyPost_ret (v := .tuple #[.agg #[.int .i64 0, .int .i64 0], .int .i64 30]) (by simp [results, Try.results18, go_sem, y0, y1]) rfl ⟨rfl, HFB.out⟩
/-- What is answered of any machine. -/
def anyL (M : Mach) (b : Bool) (r : (Int × Int) × Int) : (Int × Int) × Int := if validMB M = true then (if b = true then r else ((0, 0), 1)) else ((0, 0), 30)
theorem lLoad_all (v : Value) (M : Mach) (weight minutes : Int) (w : World) (hx : MachAt w.heap.size w v M) :
    Calls Try.prog 18 #[v, .int .i64 weight, .int .i64 minutes] w fun e w' => e = .returned (.tuple #[.agg #[.int .i64 (anyL M (ask3 weight minutes 0) (loadA M weight minutes)).1.1, .int .i64 (anyL M (ask3 weight minutes 0) (loadA M weight minutes)).1.2], .int .i64 (anyL M (ask3 weight minutes 0) (loadA M weight minutes)).2]) ∧ Below w.heap.size w w' := by
  cases hv : validMB M
  · have h := Load_er (weight := weight) (minutes := minutes) (.inl hv) w hx
    simpa only [anyL, hv, Bool.false_eq_true, ↓reduceIte] using h
  · cases ha : ask3 weight minutes 0
    · have h := Load_er (weight := weight) (minutes := minutes) (.inr ((ask_same weight minutes 0).trans ha)) w hx
      simpa only [anyL, hv, Bool.false_eq_true, ↓reduceIte] using h
    · have h := Load_any v M weight minutes w hx hv ((ask_same weight minutes 0).trans ha)
      simpa only [anyL, hv, ↓reduceIte] using h
theorem span_all (M : Mach) (weight minutes : Int) : ((spanK M weight minutes (truthsM M) (truthsM M).length), noneE (truthsM M).length) = loadA M weight minutes := by
  cases h : truthsM M with
  | nil => rw [loadA, h]; rfl
  | cons s l => rw [loadA, h, if_neg (by simp), spanK, if_neg (by simp), List.take_length, loadLo, loadHi, h]; rfl
theorem uLoad_all (v : Value) (M : Mach) (weight minutes : Int) (w : World) (hx : MachAt w.heap.size w v M) :
    Calls Try.prog 49 #[v, .int .i64 weight, .int .i64 minutes] w fun e w' => e = .returned (.tuple #[.agg #[.int .i64 (anyL M (ask3 weight minutes 0) (loadA M weight minutes)).1.1, .int .i64 (anyL M (ask3 weight minutes 0) (loadA M weight minutes)).1.2], .int .i64 (anyL M (ask3 weight minutes 0) (loadA M weight minutes)).2]) ∧ Below w.heap.size w w' := by
  have HX := fun W (hb : Below w.heap.size w W) => (hx.below hb).mono hb.size
  cases hv : validMB M
  · have h := rLoad_gen (weight := weight) (minutes := minutes) (xs := []) rfl (fun h => absurd rfl h) (fun s hs => by cases hs) (by simp) v w hx (fun W hb => truths_bad hv v _ W (HX W hb))
    simp only [anyL, hv, Bool.false_eq_true, ↓reduceIte]
    exact h
  · cases ha : ask3 weight minutes 0
    · have h := rLoad_gen (xs := []) ha (fun h => absurd rfl h) (fun s hs => by cases hs) (by simp) v w hx (fun W hb => truths_arg hv v W (HX W hb))
      simp only [anyL, hv, Bool.false_eq_true, ↓reduceIte]
      exact h
    · have hV := validM_iff.1 hv
      have hq := ask3_iff.1 ha
      have h := rLoad_gen (xs := truthsM M) ha (fun _ => ⟨hV, hq.1, hq.2.1⟩) (fun s hs => inSet_of hV (truth_set hs)) (truths_len hV) v w hx (fun W hb => truths_ok hv v W (HX W hb))
      have e := span_all M weight minutes
      simp only [anyL, hv, ↓reduceIte, ← e]
      exact h
end Go.Proofs.Ytomcjopcfdllgaa
