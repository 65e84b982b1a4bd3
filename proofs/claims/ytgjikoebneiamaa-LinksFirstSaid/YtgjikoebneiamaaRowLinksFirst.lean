/-
  PROVED: whatever input comes in, LinksFirst returns true, does not panic, and its arguments read behind the call as before it. (The first sight with which no ends make all sights so far right, and the place whose mark should be read, P2.10, P2.11.) CONDITIONS: none.
-/
import Derived.Test.YtgjikoebneiamaaLFirstB
import Derived.Test.YtgjikoebneiamaaLOwn
namespace Go.Proofs.Ytgjikoebneiamaa
open Go.ChangeShapes Go.WideShapes Go.ChangeAt Go.RowKit

set_option maxHeartbeats 1000000 in
set_option maxRecDepth 100000 in
theorem linksFirst_lifted (os : Os) (started : os.Started) (H : Type) (enc : TypeId × Value → H) :
    ReturnsInHanded {} Try.checked os 5 .any (Rows.linksFirstSpec.pre6 enc Try.prog Try.f5 Rows.linksFirstRow.domain false) (Rows.linksFirstSpec.post enc Try.prog Try.f5 false true false false) := by
  refine returnsInHanded_of_change (C := Try.checked) Try.own started (by kernel_rfl) Try.func5
    (ChangeSpec.witness6 (enc := enc) (C := Try.checked) false ⟨#[], #[.agg #[.slice none 0 0, .slice none 0 0, .int .i64 0]], []⟩ 8 (by kernel_rfl) (by kernel_rfl) (by kernel_rfl) (by kernel_rfl)) ?_
  intro W base args ds gs before hval0 hW _ _
  have hval : ∀ (j : Nat) t v, Try.f5.params[j]? = some t → args[j]? = some v → Value.okWide Try.prog W .any base t v := hval0
  have hW' := hW
  obtain ⟨p, q, hA0, hVz, rfl, _, _⟩ := hW
  have hAz : DataW.TrodAll enc Try.prog W 0 (fun _ => true) true Try.f5.params.toList args.toList ds p := hA0
  rw [Try.params5] at hAz hval
  obtain ⟨v0, d0, rfl, rfl, h0⟩ := trodAll_one hAz
  obtain ⟨rfl, rfl⟩ := trodVars_none hVz
  clear hA0 hval0
  simp only [List.append_nil] at hW'
  have hlt : ∀ x ∈ p, x.block < W.heap.size := fun x hx => by simpa using hW'.lt x hx
  obtain ⟨C, hC⟩ := openChain (hval 0 25 v0 rfl rfl) h0
  refine (LinksFirst_any v0 C W hC).mono fun e W' ⟨he, hb⟩ => ?_
  subst he
  have a0 := Below.trod Try.laidOut (by kernel_rfl) (of_decide_eq_true (by kernel_rfl)) h0 hb (fun x hx => hlt x hx)
  refine ⟨_, rfl, _, _, _, [], p, [], hW', ?_, ?_, rfl, hb.frame _, fun h => by cases h⟩
  · exact trodAll_mk1 (shut_bool Try.underlying4 _)
  · exact trodAll_mk1 a0

theorem LinksFirst_holds : Rows.LinksFirstSaid :=
  OpenClaim.holds_of_wide 5 Try.f5 rfl rfl rfl rfl rfl rfl rfl ⟨rfl, rfl, rfl, rfl, rfl⟩ rfl rfl rfl rfl rfl (by kernel_rfl) Try.func5 (by kernel_rfl)
    (of_decide_eq_true (by kernel_rfl)) (by unfold Func.isWrapper; first | (rw [if_pos (by decide +kernel)]; kernel_rfl) | (rw [if_neg (by decide +kernel)]; exact ⟨rfl, rfl⟩))
    (fun os started H enc _ => linksFirst_lifted os started H enc)

#print axioms LinksFirst_holds
end Go.Proofs.Ytgjikoebneiamaa
