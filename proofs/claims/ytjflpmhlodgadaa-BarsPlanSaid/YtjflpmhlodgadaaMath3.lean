/-
  Plain facts: a store with one more piece whose mark can stand for all heats.
-/
import Derived.Test.YtjflpmhlodgadaaMath2
namespace Go.Proofs.Ytjflpmhlodgadaa
open Go.RowKit

theorem pnth_append_left {ps qs : List Piece} {i : Nat} (h : i < ps.length) : pnth (ps ++ qs) i = pnth ps i := by
  simp [pnth, List.getElem?_append_left h]
theorem pnth_append_right {ps : List Piece} {p : Piece} : pnth (ps ++ [p]) ps.length = p := by simp [pnth]
theorem bnth_lt {bs : List Bar} {i : Nat} (h : i < bs.length) : bnth bs i = bs[i] := by simp [bnth, h]
theorem pnth_lt {ps : List Piece} {i : Nat} (h : i < ps.length) : pnth ps i = ps[i] := by simp [pnth, h]

theorem sumTo_congr {S O : Store} {L : List Int} {c : Int} : ∀ {k : Nat}, (∀ i, i < k → (pnth O.pieces i).long = (pnth S.pieces i).long) → sumTo O L c k = sumTo S L c k
  | 0, _ => rfl
  | k + 1, h => by simp only [sumTo]; rw [sumTo_congr (fun i hi => h i (by omega)), h k (by omega)]
theorem wrongsTo_congr {S O : Store} {L : List Int} : ∀ {k : Nat}, (∀ i, i < k → wrongAt O i (nth L i).toNat = wrongAt S i (nth L i).toNat) → wrongsTo O L k = wrongsTo S L k
  | 0, _ => rfl
  | k + 1, h => by simp only [wrongsTo]; rw [wrongsTo_congr (fun i hi => h i (by omega)), h k (by omega)]

/-- The store with one more piece. -/
def more (S : Store) (p : Piece) : Store := ⟨S.bars, S.kerf, S.pieces ++ [p], S.wrong⟩
theorem more_len (S : Store) (p : Piece) : (more S p).pieces.length = S.pieces.length + 1 := by simp [more]
theorem more_rest {S : Store} {p : Piece} {x : List Int} (h : x.length ≤ S.pieces.length) (c : Int) : restS (more S p) x c = restS S x c := by
  have e := sumTo_congr (S := S) (O := more S p) (L := x) (c := c) (k := x.length) (fun i hi => by simp only [more]; rw [pnth_append_left (by omega)])
  simp only [restS, e]
  rfl
theorem more_wrongAt {S : Store} {p : Piece} {i b : Nat} (h : i < S.pieces.length) : wrongAt (more S p) i b = wrongAt S i b := by
  simp only [wrongAt, more]; rw [pnth_append_left h]
theorem more_wrongs {S : Store} {p : Piece} {x : List Int} (h : x.length ≤ S.pieces.length) : wrongs (more S p) x = wrongs S x :=
  wrongsTo_congr fun i hi => more_wrongAt (by omega)
theorem more_restS {S : Store} {p : Piece} {x : List Int} (h : x.length = S.pieces.length) (b : Int) : restS (more S p) (x ++ [b]) b = restS S x b - p.long - (if inB x b = true then S.kerf else 0) := by
  rw [restS_same, more_rest (by omega)]
  have : (pnth (more S p).pieces x.length).long = p.long := by simp only [more]; rw [h, pnth_append_right]
  rw [this]
  rfl
theorem ok_take {S : Store} {x : List Int} (h : OkBars S x) {k : Nat} : OkBars S (x.take k) := by
  refine ⟨by have := h.1; rw [List.length_take]; omega, fun i hi => ?_⟩
  rw [List.length_take] at hi
  rw [nth_take (by omega)]
  exact h.2 i (by omega)
theorem snoc_take {x : List Int} {n : Nat} (h : x.length = n + 1) : x = x.take n ++ [nth x n] := by
  rw [← take_nth (by omega), List.take_of_length_le (by omega)]

/-- A truth of the store with one more piece is one of the store, with a bar for the piece. -/
theorem more_truth {S : Store} {p : Piece} (hV : Valid (more S p)) {y : List Int} (h : truthB (more S p) y = true) :
    ∃ (x : List Int) (b : Nat), y = x ++ [(b : Int)] ∧ b < S.bars.length ∧ truthB S x = true ∧ roomAt S x p.long b = true := by
  obtain ⟨⟨h1, h2⟩, h3, h4⟩ := truthB_iff.1 h
  rw [more_len] at h2
  have hs := snoc_take h2
  obtain ⟨o1, o2⟩ := h1.2 S.pieces.length (by omega)
  obtain ⟨b, hb⟩ := Int.eq_ofNat_of_zero_le o1
  have hbb : b < S.bars.length := by have : (more S p).bars.length = S.bars.length := rfl; omega
  rw [hb] at hs
  have hxl : (y.take S.pieces.length).length = S.pieces.length := by rw [List.length_take]; omega
  refine ⟨y.take S.pieces.length, b, hs, hbb, truthB_iff.2 ⟨⟨⟨by omega, fun i hi => ?_⟩, hxl⟩, fun c hc => ?_, ?_⟩, ?_⟩
  · have := (ok_take h1 (k := S.pieces.length)).2 i hi
    exact this
  · rw [← more_rest (p := p) (by omega)]
    exact Int.le_trans (h3 c hc) (restS_take hV c (by rw [more_len]; exact h2) (by omega))
  · rw [← more_wrongs (p := p) (by omega)]
    have e : wrongs (more S p) y = wrongs (more S p) (y.take S.pieces.length ++ [(b : Int)]) := by rw [← hs]
    rw [wrongs_snoc] at e
    have : (more S p).wrong = S.wrong := rfl
    split at e <;> omega
  · have h5 := h3 b hbb
    rw [hs, more_restS hxl] at h5
    simp only [roomAt, decide_eq_true_eq]
    omega
theorem truth_more {S : Store} {p : Piece} {x : List Int} {b : Nat} (hb : b < S.bars.length) (h : truthB S x = true) (hr : roomAt S x p.long b = true) (hw : inB p.heats (bnth S.bars b).heat = true) :
    truthB (more S p) (x ++ [(b : Int)]) = true := by
  obtain ⟨⟨h1, h2⟩, h3, h4⟩ := truthB_iff.1 h
  have hbars : (more S p).bars.length = S.bars.length := rfl
  refine truthB_iff.2 ⟨⟨⟨by rw [more_len]; simp; omega, fun i hi => ?_⟩, by rw [more_len]; simp; omega⟩, fun c hc => ?_, ?_⟩
  · simp only [List.length_append, List.length_cons, List.length_nil] at hi
    by_cases e : i = x.length
    · subst e; rw [nth_snoc]; omega
    · rw [nth_snoc_lt (by omega)]; exact h1.2 i (by omega)
  · by_cases e : (b : Int) = (c : Int)
    · rw [← e, more_restS h2]
      simp only [roomAt, decide_eq_true_eq] at hr
      omega
    · rw [restS_other e, more_rest (by omega)]
      exact h3 c hc
  · rw [wrongs_snoc, more_wrongs (by omega)]
    have hf : wrongAt (more S p) x.length (b : Int).toNat = false := by
      simp only [wrongAt, more]
      rw [h2, pnth_append_right, Int.toNat_natCast, hw]
      rfl
    rw [hf]
    have : (more S p).wrong = S.wrong := rfl
    simp
    omega

def allHeats : List Int := [0, 1, 2, 3, 4, 5, 6, 7, 8, 9]
theorem allHeats_in {h : Int} (h0 : 0 ≤ h) (h9 : h ≤ 9) : inB allHeats h = true := by
  have : h = 0 ∨ h = 1 ∨ h = 2 ∨ h = 3 ∨ h = 4 ∨ h = 5 ∨ h = 6 ∨ h = 7 ∨ h = 8 ∨ h = 9 := by omega
  rcases this with rfl | rfl | rfl | rfl | rfl | rfl | rfl | rfl | rfl | rfl <;> decide
theorem room_iff {S : Store} {long : Int} (hV : Valid S) (hO : Valid (more S ⟨long, allHeats⟩)) :
    (truthsL (more S ⟨long, allHeats⟩)).length ≠ 0 ↔ ∃ x ∈ truthsL S, roomB S x long = true := by
  constructor
  · intro h
    obtain ⟨y, hy⟩ : ∃ y, y ∈ truthsL (more S ⟨long, allHeats⟩) := List.exists_mem_of_ne_nil _ (fun e => h (by rw [e]; rfl))
    obtain ⟨x, b, _, hb, hx, hr⟩ := more_truth hO ((mem_truths hO).1 hy)
    exact ⟨x, (mem_truths hV).2 hx, roomB_yes hb hr⟩
  · rintro ⟨x, hx, hr⟩ h
    have hn : ¬ allTo (fun b => !roomAt S x long b) S.bars.length = true := by
      intro h; simp [roomB, h] at hr
    have ⟨b, hb, hra⟩ : ∃ b, b < S.bars.length ∧ roomAt S x long b = true := by
      refine Classical.byContradiction fun hc => hn (allTo_iff.2 fun j hj => ?_)
      cases e : roomAt S x long j
      · rfl
      · exact absurd ⟨j, hj, e⟩ hc
    have hh := hV.heat b hb
    have := (mem_truths hO).2 (truth_more (p := ⟨long, allHeats⟩) hb ((mem_truths hV).1 hx) hra (allHeats_in hh.1 hh.2))
    rw [List.length_eq_zero_iff.1 h] at this
    cases this
/-- What Room answers, in the words of the law. -/
theorem roomV_cases {S : Store} {long : Int} : ((truthsL S).length = 0 ∧ roomV S long = (0, 3)) ∨
    ((truthsL S).length ≠ 0 ∧ (roomV S long).2 = 0 ∧ (((roomV S long).1 = 1 ∨ (roomV S long).1 = 3) ↔ ∃ x ∈ truthsL S, roomB S x long = true)) := by
  unfold roomV
  rw [knownV_of]
  by_cases h0 : (truthsL S).length = 0
  · rw [if_pos h0]; exact .inl ⟨h0, rfl⟩
  · rw [if_neg h0]
    refine .inr ⟨h0, ?_⟩
    obtain ⟨y, hy⟩ : ∃ y, y ∈ truthsL S := List.exists_mem_of_ne_nil _ (fun e => h0 (by rw [e]; rfl))
    by_cases h1 : ∀ x ∈ truthsL S, roomB S x long = true
    · rw [if_pos h1]; exact ⟨rfl, ⟨fun _ => ⟨y, hy, h1 y hy⟩, fun _ => .inl rfl⟩⟩
    · rw [if_neg h1]
      by_cases h2 : ∀ x ∈ truthsL S, roomB S x long = false
      · rw [if_pos h2]
        refine ⟨rfl, ⟨fun h => ?_, fun ⟨x, hx, h⟩ => ?_⟩⟩
        · exfalso; simp at h
        · rw [h2 x hx] at h; cases h
      · rw [if_neg h2]
        refine ⟨rfl, ⟨fun _ => ?_, fun _ => .inr rfl⟩⟩
        refine Classical.byContradiction fun hc => h2 fun x hx => ?_
        cases e : roomB S x long
        · rfl
        · exact absurd ⟨x, hx, e⟩ hc
end Go.Proofs.Ytjflpmhlodgadaa
