/-
  Levers: what is answered of a machine, or an argument, that is wrong.
-/
import Derived.Test.YtomcjopcfdllgaaVOpen

namespace Go.Proofs.Ytomcjopcfdllgaa
open Go.RowKit Go.Shelf

theorem open_er {v : Value} {M : Mach} {x y z : Int} (h : validMB M = false ∨ askB x y z 0 = false) (w : World) (hx : MachAt w.heap.size w v M) :
    Calls Try.prog 58 #[v, .int .i64 x, .int .i64 y, .int .i64 z] w fun e w' => e = .returned (.tuple #[.pointer none, .int .i64 (if validMB M = true then 1 else 30)]) ∧ Below w.heap.size w w' := by
  cases hv : validMB M
  · exact open_bad v M x y z w hx hv
  · rcases h with h | h
    · rw [hv] at h; cases h
    · exact open_arg v M x y z w hx hv h
set_option maxRecDepth 100000 in
set_option maxHeartbeats 4000000 in
theorem Weight_er {v : Value} {M : Mach} {minutes load : Int} (h : validMB M = false ∨ askB 0 minutes load 0 = false) (w : World) (hx : MachAt w.heap.size w v M) :
    Calls Try.prog 35 #[v, .int .i64 minutes, .int .i64 load] w fun e w' => e = .returned (.tuple #[.int .i64 0, .int .i64 (if validMB M = true then 1 else 30)]) ∧ Below w.heap.size w w' := by
  have HX := Lib.hid (fun W (hb : Below w.heap.size w W) => (hx.below hb).mono hb.size)
  obtain ⟨a, cap, a2, cap2, rfl⟩ := hx.form
  have HP := Lib.hid (fun W hb => open_er h W (HX.out W hb))
  have hr : (if validMB M = true then (1 : Int) else 30) = 1 ∨ (if validMB M = true then (1 : Int) else 30) = 30 := by split; exact .inl rfl; exact .inr rfl
  obtain ⟨er, her⟩ : ∃ er, (if validMB M = true then (1 : Int) else 30) = er := ⟨_, rfl⟩
  rw [her] at HP hr ⊢
  clear hx her h
  rcases hr with rfl | rfl
  all_goals
    go_enter Try.func35, Try.ntmps35
    go_wp2_with (go_at_call 58; refine (HP.out _ (by go_grown)).mono ?_; rintro e w1 ⟨rfl, hb⟩; have HB := Lib.hid ((show Below w.heap.size w _ by go_grown).trans (hb.mono (by simp; omega))); clear hb)
    go_ret2
    exact ⟨rfl, HB.out.alloc HB.out.size _⟩
set_option maxRecDepth 100000 in
set_option maxHeartbeats 4000000 in
theorem Until_er {v : Value} {M : Mach} {weight load : Int} (h : validMB M = false ∨ askB weight 0 load 0 = false) (w : World) (hx : MachAt w.heap.size w v M) :
    Calls Try.prog 36 #[v, .int .i64 weight, .int .i64 load] w fun e w' => e = .returned (.tuple #[.int .i64 0, .int .i64 (if validMB M = true then 1 else 30)]) ∧ Below w.heap.size w w' := by
  have HX := Lib.hid (fun W (hb : Below w.heap.size w W) => (hx.below hb).mono hb.size)
  obtain ⟨a, cap, a2, cap2, rfl⟩ := hx.form
  have HP := Lib.hid (fun W hb => open_er h W (HX.out W hb))
  have hr : (if validMB M = true then (1 : Int) else 30) = 1 ∨ (if validMB M = true then (1 : Int) else 30) = 30 := by split; exact .inl rfl; exact .inr rfl
  obtain ⟨er, her⟩ : ∃ er, (if validMB M = true then (1 : Int) else 30) = er := ⟨_, rfl⟩
  rw [her] at HP hr ⊢
  clear hx her h
  rcases hr with rfl | rfl
  all_goals
    go_enter Try.func36, Try.ntmps36
    go_wp2_with (go_at_call 58; refine (HP.out _ (by go_grown)).mono ?_; rintro e w1 ⟨rfl, hb⟩; have HB := Lib.hid ((show Below w.heap.size w _ by go_grown).trans (hb.mono (by simp; omega))); clear hb)
    go_ret2
    exact ⟨rfl, HB.out.alloc HB.out.size _⟩
set_option maxRecDepth 100000 in
set_option maxHeartbeats 4000000 in
theorem Pulled_er {v : Value} {M : Mach} {weight minutes load : Int} (h : validMB M = false ∨ askB weight minutes load 0 = false) (w : World) (hx : MachAt w.heap.size w v M) :
    Calls Try.prog 19 #[v, .int .i64 weight, .int .i64 minutes, .int .i64 load] w fun e w' => e = .returned (.tuple #[.int .i64 0, .int .i64 (if validMB M = true then 1 else 30)]) ∧ Below w.heap.size w w' := by
  have HX := Lib.hid (fun W (hb : Below w.heap.size w W) => (hx.below hb).mono hb.size)
  obtain ⟨a, cap, a2, cap2, rfl⟩ := hx.form
  have HP := Lib.hid (fun W hb => open_er h W (HX.out W hb))
  have hr : (if validMB M = true then (1 : Int) else 30) = 1 ∨ (if validMB M = true then (1 : Int) else 30) = 30 := by split; exact .inl rfl; exact .inr rfl
  obtain ⟨er, her⟩ : ∃ er, (if validMB M = true then (1 : Int) else 30) = er := ⟨_, rfl⟩
  rw [her] at HP hr ⊢
  clear hx her h
  rcases hr with rfl | rfl
  all_goals
    go_enter Try.func19, Try.ntmps19
    go_wp2_with (go_at_call 58; refine (HP.out _ (by go_grown)).mono ?_; rintro e w1 ⟨rfl, hb⟩; have HB := Lib.hid ((show Below w.heap.size w _ by go_grown).trans (hb.mono (by simp; omega))); clear hb)
    go_ret2
    exact ⟨rfl, HB.out.alloc HB.out.size _⟩
end Go.Proofs.Ytomcjopcfdllgaa
