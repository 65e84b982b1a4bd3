/-
  Levers: Weight and Until, of any machine, as the program answers and as the reference does.
-/
import Derived.Test.YtomcjopcfdllgaaVUntilR
import Derived.Test.YtomcjopcfdllgaaVErrL
import Derived.Test.YtomcjopcfdllgaaVUntil
import Derived.Test.YtomcjopcfdllgaaVWeight

namespace Go.Proofs.Ytomcjopcfdllgaa
open Go.RowKit Go.Shelf

theorem ask_same (x y z : Int) : askB x y z 0 = ask3 x y z := by
  rw [Bool.eq_iff_iff, askB_iff, ask3_iff]
  constructor
  · exact fun ⟨h1, h2, h3, _⟩ => ⟨h1, h2, h3⟩
  · exact fun ⟨h1, h2, h3⟩ => ⟨h1, h2, h3, by decide, by decide⟩
/-- What is answered of any machine. -/
def anyA (M : Mach) (b : Bool) (r : Int × Int) : Int × Int := if validMB M = true then (if b = true then r else (0, 1)) else (0, 30)
theorem lWeight_all (v : Value) (M : Mach) (minutes load : Int) (w : World) (hx : MachAt w.heap.size w v M) :
    Calls Try.prog 35 #[v, .int .i64 minutes, .int .i64 load] w fun e w' => e = .returned (.tuple #[.int .i64 (anyA M (ask3 0 minutes load) (weightA M minutes load)).1, .int .i64 (anyA M (ask3 0 minutes load) (weightA M minutes load)).2]) ∧ Below w.heap.size w w' := by
  cases hv : validMB M
  · have h := Weight_er (minutes := minutes) (load := load) (.inl hv) w hx
    simpa only [anyA, hv, Bool.false_eq_true, ↓reduceIte] using h
  · cases ha : ask3 0 minutes load
    · have h := Weight_er (minutes := minutes) (load := load) (.inr ((ask_same 0 minutes load).trans ha)) w hx
      simpa only [anyA, hv, Bool.false_eq_true, ↓reduceIte] using h
    · have h := Weight_any v M minutes load w hx hv ((ask_same 0 minutes load).trans ha)
      simpa only [anyA, hv, Bool.false_eq_true, ↓reduceIte] using h
theorem lUntil_all (v : Value) (M : Mach) (weight load : Int) (w : World) (hx : MachAt w.heap.size w v M) :
    Calls Try.prog 36 #[v, .int .i64 weight, .int .i64 load] w fun e w' => e = .returned (.tuple #[.int .i64 (anyA M (ask3 weight 0 load) (untilA M weight load)).1, .int .i64 (anyA M (ask3 weight 0 load) (untilA M weight load)).2]) ∧ Below w.heap.size w w' := by
  cases hv : validMB M
  · have h := Until_er (weight := weight) (load := load) (.inl hv) w hx
    simpa only [anyA, hv, Bool.false_eq_true, ↓reduceIte] using h
  · cases ha : ask3 weight 0 load
    · have h := Until_er (weight := weight) (load := load) (.inr ((ask_same weight 0 load).trans ha)) w hx
      simpa only [anyA, hv, Bool.false_eq_true, ↓reduceIte] using h
    · have h := Until_any v M weight load w hx hv ((ask_same weight 0 load).trans ha)
      simpa only [anyA, hv, Bool.false_eq_true, ↓reduceIte] using h
theorem truths_none {M : Mach} (hv : validMB M = true) (hn : truthsM M = []) (v : Value) (w : World) (hx : MachAt w.heap.size w v M) : Calls Try.prog 70 #[v, .bool true] w (GaveT [] 3 w) := by
  have h := truths_ok hv v w hx
  rwa [hn] at h
theorem uWeight_all (v : Value) (M : Mach) (minutes load : Int) (w : World) (hx : MachAt w.heap.size w v M) :
    Calls Try.prog 51 #[v, .int .i64 minutes, .int .i64 load] w fun e w' => e = .returned (.tuple #[.int .i64 (anyA M (ask3 0 minutes load) (weightA M minutes load)).1, .int .i64 (anyA M (ask3 0 minutes load) (weightA M minutes load)).2]) ∧ Below w.heap.size w w' := by
  have HX := fun W (hb : Below w.heap.size w W) => (hx.below hb).mono hb.size
  cases hv : validMB M
  · have h := rWeight_er (minutes := minutes) (load := load) rfl (show (30 : Int) ≠ 0 by decide) v w hx (fun W hb => truths_bad hv v _ W (HX W hb))
    simpa only [anyA, hv, Bool.false_eq_true, ↓reduceIte] using h
  · cases ha : ask3 0 minutes load
    · have h := rWeight_er ha (show (1 : Int) ≠ 0 by decide) v w hx (fun W hb => truths_arg hv v W (HX W hb))
      simpa only [anyA, hv, Bool.false_eq_true, ↓reduceIte] using h
    · by_cases hn : truthsM M = []
      · have h := rWeight_er ha (show (3 : Int) ≠ 0 by decide) v w hx (fun W hb => truths_none hv hn v W (HX W hb))
        have e : weightA M minutes load = (0, 3) := by rw [weightA, if_pos (.inl (by rw [hn]; rfl))]
        simpa only [anyA, hv, ↓reduceIte, e] using h
      · have h := rWeight_ok hv ha hn v w hx
        simpa only [anyA, hv, Bool.false_eq_true, ↓reduceIte] using h
theorem uUntil_all (v : Value) (M : Mach) (weight load : Int) (w : World) (hx : MachAt w.heap.size w v M) :
    Calls Try.prog 52 #[v, .int .i64 weight, .int .i64 load] w fun e w' => e = .returned (.tuple #[.int .i64 (anyA M (ask3 weight 0 load) (untilA M weight load)).1, .int .i64 (anyA M (ask3 weight 0 load) (untilA M weight load)).2]) ∧ Below w.heap.size w w' := by
  have HX := fun W (hb : Below w.heap.size w W) => (hx.below hb).mono hb.size
  cases hv : validMB M
  · have h := rUntil_er (weight := weight) (load := load) rfl (show (30 : Int) ≠ 0 by decide) v w hx (fun W hb => truths_bad hv v _ W (HX W hb))
    simpa only [anyA, hv, Bool.false_eq_true, ↓reduceIte] using h
  · cases ha : ask3 weight 0 load
    · have h := rUntil_er ha (show (1 : Int) ≠ 0 by decide) v w hx (fun W hb => truths_arg hv v W (HX W hb))
      simpa only [anyA, hv, Bool.false_eq_true, ↓reduceIte] using h
    · by_cases hn : truthsM M = []
      · have h := rUntil_er ha (show (3 : Int) ≠ 0 by decide) v w hx (fun W hb => truths_none hv hn v W (HX W hb))
        have e : untilA M weight load = (0, 3) := by rw [untilA, if_pos (.inl (by rw [hn]; rfl))]
        simpa only [anyA, hv, ↓reduceIte, e] using h
      · have h := rUntil_ok hv ha hn v w hx
        simpa only [anyA, hv, Bool.false_eq_true, ↓reduceIte] using h
end Go.Proofs.Ytomcjopcfdllgaa
