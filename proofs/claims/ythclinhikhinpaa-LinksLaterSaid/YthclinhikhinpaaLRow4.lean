/-
  Links: a chain in a variable whose rows are the call's own, behind a region whose operations have taken another row.
-/
import Derived.Test.YthclinhikhinpaaLRow3
import Derived.Test.YthclinhikhinpaaLRows
import Derived.Test.YthclinhikhinpaaLLin
namespace Go.Proofs.Ythclinhikhinpaa
open Go.RowKit

theorem wf_plus {C : Chain} {d : Deed} (h : Wf C) (hd : DI64 d) : Wf (plusD C d) := by
  refine ⟨fun i hi => ?_, h.sights, h.wrong⟩
  show DI64 (dnth (C.deeds ++ [d]) i)
  have hi : i < C.deeds.length + 1 := by rw [← plus_len (ds := C.deeds) (d := d)]; exact hi
  by_cases e : i < C.deeds.length
  · rw [plus_old e]; exact h.deeds i e
  · obtain rfl : i = C.deeds.length := by omega
    rw [plus_new]; exact hd
def fiveL (d : Deed) : List Value := [.int .i64 d.what, .int .i64 d.at_, .int .i64 d.from_, .int .i64 d.bar, .int .i64 d.smith]
theorem dcells_two (ds : List Deed) (d e : Deed) : dcells (ds ++ [d] ++ [e]) (ds ++ [d] ++ [e]).length = dcells ds ds.length ++ fiveL d ++ fiveL e := by
  rw [plus_len, dcells_snoc, plus_len, dcells_snoc]; rfl
theorem dcells_one_more (ds : List Deed) (d : Deed) : dcells (ds ++ [d]) (ds ++ [d]).length = dcells ds ds.length ++ fiveL d := by
  rw [plus_len, dcells_snoc]; rfl
theorem Row3.okKept {ok : Nat → Prop} {lo b : Nat} {Z W : World} {dv sv : Value} {C : Chain} (h : Row3 lo Z b dv sv C) (hk : OkKept ok Z W) (hb : ¬ ok b) (hd : ∀ g, dv.ownBlock = some g → ¬ ok g) (hs : ∀ g, sv.ownBlock = some g → ¬ ok g) : Row3 lo W b dv sv C :=
  ⟨(hk.block _ (heap_lt h.blk) hb).trans h.blk, own_okKept h.rd hk hd, own_okKept h.rs hk hs, h.wf⟩
theorem Row3.put {ok : Nat → Prop} {lo b : Nat} {Z W : World} {dv sv q : Value} {C D : Chain} (h : Row3 lo Z b dv sv C) (hk : OkKept ok Z W) (hb : ¬ ok b) (hs : ∀ g, sv.ownBlock = some g → ¬ ok g)
    (hr : W.ownsRow lo 55 5 q D.deeds.length (dcells D.deeds D.deeds.length)) (hD : D.sights = C.sights) (hDw : D.wrong = C.wrong) (hw : Wf D) : Row3 lo (W.setCell ⟨b, 0, none⟩ q) b q sv D := by
  have hb2 := (hk.block _ (heap_lt h.blk) hb).trans h.blk
  refine ⟨?_, own_setBox hr hb2 (by decide), ?_, hw⟩
  · rw [heap_setCell_same hb2, hDw]; rfl
  · have := own_setBox (o := 0) (u := q) (own_okKept h.rs hk hs) hb2 (by decide)
    rw [hD]; exact this
/-- Rows of other kinds, and variables, are not taken. -/
theorem not_ok {Z : World} {base n b size : Nat} {e t : TypeId} {v : Value} {xs : List Value} {cs : Array Value} (h : Z.ownsRow base e size v n xs) (hb : Z.heap[b]? = some (.cells cs t)) (hne : e ≠ t) : ¬ (v.ownBlock = some b ∨ Z.heap.size ≤ b) := by
  rintro (h1 | h1)
  · exact own_ne_type h hb hne h1
  · have := heap_lt hb; omega
theorem not_ok_row {Z : World} {base base' n n' size size' : Nat} {e e' : TypeId} {v v' : Value} {xs xs' : List Value} (h : Z.ownsRow base e size v n xs) (h' : Z.ownsRow base' e' size' v' n' xs') (hne : e ≠ e') : ∀ g, v'.ownBlock = some g → ¬ (v.ownBlock = some g ∨ Z.heap.size ≤ g) := fun g hg => by
  rcases h'.2 with ⟨rfl, _⟩ | ⟨k, cap, cur, rfl, _, hh, _⟩
  · cases hg
  · have : k = g := by simpa [Value.ownBlock] using hg
    subst this
    exact not_ok h hh hne
theorem not_ok_apart {Z : World} {base n size : Nat} {e : TypeId} {v v' : Value} {xs : List Value} (h' : Z.ownsRow base e size v' n xs) (ha : ∀ g, v.ownBlock = some g → v'.ownBlock ≠ some g) : ∀ g, v'.ownBlock = some g → ¬ (v.ownBlock = some g ∨ Z.heap.size ≤ g) := fun g hg => by
  rintro (h1 | h1)
  · exact ha g h1 hg
  · have := (h'.lt g hg).2; omega
theorem Row3.last {lo b : Nat} {W : World} {qa : Option Addr} {m qc : Nat} {sv : Value} {C : Chain} {d : Deed} (hm : m = C.deeds.length + 1) (h : Row3 lo W b (.slice qa m qc) sv (plusD C d)) :
    ∃ g, qa = some ⟨g, 0, none⟩ ∧ lo ≤ g ∧ g < W.heap.size ∧ Five W g (C.deeds.length * 5) d.what d.at_ d.from_ d.bar d.smith := by
  subst hm
  have hl : (plusD C d).deeds.length = C.deeds.length + 1 := plus_len
  have hD := deeds_of_own h.rd h.wf.deeds
  rcases h.rd.2 with ⟨e, h0⟩ | ⟨g, cap, cur, e, hlo, hh, _⟩
  · omega
  · injection e with e1 _ _
    subst e1
    refine ⟨g, rfl, hlo, heap_lt hh, ?_⟩
    obtain ⟨a', cap', b', off', hv, _, _, ha, hc, _⟩ := hD
    injection hv with hv _ _
    obtain ⟨ha1, _⟩ := ha (by omega)
    rw [ha1] at hv
    injection hv with hv
    injection hv with hv1 hv2 _
    subst hv1 hv2
    have := hc C.deeds.length (by omega)
    rw [show dnth (plusD C d).deeds C.deeds.length = d from plus_new, Nat.zero_add] at this
    exact this
theorem OkKept.below {ok : Nat → Prop} {B : Nat} {z Z W : World} (h : OkKept ok Z W) (hz : Below B z Z) (hB : B ≤ Z.heap.size) (hok : ∀ b, b < B → ¬ ok b) : Below B z W :=
  ⟨h.os.trans hz.os, h.tape.trans hz.tape, h.output.trans hz.output, Nat.le_trans hz.size h.size, fun k hk => (h.block k (by omega) (hok k hk)).trans (hz.block k hk)⟩

end Go.Proofs.Ythclinhikhinpaa
