/- A store of versions of int with one key: plain facts. -/
import Derived.Test.YtdlacjdddjebgaaVPruneVI
namespace Go.Proofs.Ytdlacjdddjebgaa
open Go.RowKit

theorem verSVI_nil (key : List UInt8) : verSVI key [] = [] := rfl
theorem verSVI_one (key : List UInt8) (v : Value) (l : List VerVI) : verSVI key [(key, (v, l))] = l := by simp [verSVI, getB, bl_irr]
theorem insBVI_one (key : List UInt8) (y y' : ChVI) : insB key y [(key, y')] = [(key, y)] := by simp [insB, bl_irr]
theorem insBVI_nil (key : List UInt8) (y : ChVI) : insB key y [] = [(key, y)] := rfl
theorem lastTVI_snoc (l : List VerVI) (v : VerVI) : lastTVI (l ++ [v]) = v.1 := by simp [lastTVI]
theorem chsVI_one (key : List UInt8) (v : Value) (l : List VerVI) : chsVI [(key, (v, l))] = [(key, l)] := rfl
theorem pruDVI_one (lw : Int) (key : List UInt8) (l : List VerVI) : pruDVI lw [(key, l)] = dropNVI l lw := by simp [pruDVI]
/-- The blocks of a store lie behind what lay. -/
theorem StVI.down {W W' X : World} {B s mb : Nat} {t : Tr} {S : ChsVI} {cnt low : Int} {k : Nat} (h : StVI W B s mb t S cnt low k) (hf : Frm (BlkVI s mb S) W W') (hX : Below X.heap.size X W) (hB : X.heap.size ≤ B) : Below X.heap.size X W' :=
  hX.trans (hf.below hX.size (fun k hk => Nat.le_trans hB (h.blk k hk).1))
/-- A store whose chains are C. -/
def StCVI (X W : World) (s mb : Nat) (C : List (List UInt8 × List VerVI)) (cnt low : Int) (k : Nat) : Prop := ∃ t S, StVI W X.heap.size s mb t S cnt low k ∧ chsVI S = C ∧ Below X.heap.size X W
theorem StCVI.below {X W W' : World} {s mb : Nat} {C : List (List UInt8 × List VerVI)} {cnt low : Int} {k : Nat} (h : StCVI X W s mb C cnt low k) (hb : Below W.heap.size W W') : StCVI X W' s mb C cnt low k := by
  obtain ⟨t, S, h1, h2, h3⟩ := h
  exact ⟨t, S, h1.below hb, h2, h3.trans (hb.mono h3.size)⟩
theorem chsVI_nil {S : ChsVI} (h : chsVI S = []) : S = [] := by unfold chsVI at h; exact List.map_eq_nil_iff.1 h
theorem chsVI_single {S : ChsVI} {key : List UInt8} {l : List VerVI} (h : chsVI S = [(key, l)]) : ∃ v, S = [(key, (v, l))] := by
  match S, h with
  | [(k', (v, l'))], h =>
    simp only [chsVI, List.map_cons, List.map_nil, List.cons.injEq, Prod.mk.injEq, and_true] at h
    obtain ⟨rfl, rfl⟩ := h
    exact ⟨v, rfl⟩
/-- How a store with the one key, or without it, goes on. -/
def oneVI (key : List UInt8) (l : List VerVI) : List (List UInt8 × List VerVI) := if l.length = 0 then [] else [(key, l)]
theorem oneVI_ver {S : ChsVI} {key : List UInt8} {l : List VerVI} (h : chsVI S = oneVI key l) : verSVI key S = l ∧ ∀ y, insB key y S = [(key, y)] := by
  unfold oneVI at h
  split at h
  · next h0 =>
    obtain rfl := chsVI_nil h
    obtain rfl := List.eq_nil_of_length_eq_zero h0
    exact ⟨rfl, fun y => rfl⟩
  · obtain ⟨v, rfl⟩ := chsVI_single h
    exact ⟨verSVI_one key v l, fun y => insBVI_one key y _⟩
theorem putVI_one {X W : World} {s mb : Nat} {key : List UInt8} {l : List VerVI} {cnt low : Int} {k : Nat} (h : StCVI X W s mb (oneVI key l) cnt low k) (hk : k ≤ 10000) (hc : 0 ≤ cnt ∧ cnt ≤ 1000000) (at1 : Int) (x : Int) (hC : addCVI l low (at1, x, false) = 0) :
    Calls Try.prog 35 #[.pointer (some ⟨s, 0, none⟩), .int .i64 at1, str key, Value.int .i64 x] W fun e W' => e = .returned (.int .i64 0) ∧ StCVI X W' s mb (oneVI key (l ++ [(at1, x, false)])) (cnt + 1) low (k + 1) := by
  obtain ⟨t, S, h1, h2, h3⟩ := h
  obtain ⟨e1, e2⟩ := oneVI_ver h2
  have h4 := putVI_st h1 (by omega) (by omega) key at1 x h3.size
  rw [e1, hC] at h4
  refine h4.mono ?_
  rintro e W' ⟨rfl, _, h5⟩
  obtain ⟨t', v', h6, h7, _⟩ := h5 rfl
  rw [e1, e2] at h6
  refine ⟨rfl, t', _, h6, ?_, h1.down h7 h3 (Nat.le_refl _)⟩
  unfold oneVI
  rw [if_neg (by simp)]
  rfl
theorem clashVI_one {X W : World} {s mb : Nat} {key : List UInt8} {l : List VerVI} {cnt low : Int} {k : Nat} (h : StCVI X W s mb (oneVI key l) cnt low k) (hk : k ≤ 10000) (hc : 0 ≤ cnt ∧ cnt ≤ 1000000) (at1 : Int) (x : Int) (c : Int) (hC : addCVI l low (at1, x, false) = c) (hc0 : c ≠ 0) :
    Calls Try.prog 35 #[.pointer (some ⟨s, 0, none⟩), .int .i64 at1, str key, Value.int .i64 x] W fun e W' => e = .returned (.int .i64 c) ∧ StCVI X W' s mb (oneVI key l) cnt low k := by
  have hh := h
  obtain ⟨t, S, h1, h2, h3⟩ := h
  obtain ⟨e1, e2⟩ := oneVI_ver h2
  have h4 := putVI_st h1 (by omega) (by omega) key at1 x h3.size
  rw [e1, hC] at h4
  refine h4.mono ?_
  rintro e W' ⟨rfl, h5, _⟩
  exact ⟨rfl, hh.below (h5 hc0)⟩
theorem newVI_one (W : World) (key : List UInt8) : Calls Try.prog 34 #[] W fun e W' => ∃ s mb, e = .returned (.pointer (some ⟨s, 0, none⟩)) ∧ StCVI W W' s mb (oneVI key []) 0 0 0 :=
  (newVI_st W).mono (by
    rintro e W' ⟨s, mb, rfl, h1, h2, _⟩
    exact ⟨s, mb, rfl, .nil, [], h1, rfl, h2⟩)
theorem getVI_one {X W : World} {s mb : Nat} {key : List UInt8} {l : List VerVI} {cnt low : Int} {k : Nat} (h : StCVI X W s mb (oneVI key l) cnt low k) (hk : k ≤ 10000) (at1 : Int) (r : Option Int) (hr : seenVI l at1 = r) :
    Calls Try.prog 39 #[.pointer (some ⟨s, 0, none⟩), str key, .int .i64 at1] W fun e W' => e = seenEVI r ∧ StCVI X W' s mb (oneVI key l) cnt low k := by
  have hh := h
  obtain ⟨t, S, h1, h2, h3⟩ := h
  obtain ⟨e1, e2⟩ := oneVI_ver h2
  have h4 := getVI_st h1 (by omega) key at1
  rw [e1, hr] at h4
  exact h4.mono (by rintro e W' ⟨rfl, hb⟩; exact ⟨rfl, hh.below hb⟩)
theorem pruneVI_one {X W : World} {s mb : Nat} {key : List UInt8} {l : List VerVI} {cnt low : Int} {k : Nat} (h : StCVI X W s mb (oneVI key l) cnt low k) (hk : k ≤ 10000) (hc : 0 ≤ cnt ∧ cnt ≤ 1000000) (lw : Int) (h1 : low < lw) (h2 : lw ≤ 1099511627776) :
    Calls Try.prog 38 #[.pointer (some ⟨s, 0, none⟩), .int .i64 lw] W fun e W' => e = .returned (.int .i64 (dropNVI l lw : Int)) ∧ StCVI X W' s mb (oneVI key (l.drop (dropNVI l lw))) (cnt - (dropNVI l lw : Int)) lw (k + k) := by
  obtain ⟨t, S, h3, h4, h5⟩ := h
  have hone : chsVI S = [] ∧ l = [] ∨ ∃ v, S = [(key, (v, l))] := by
    unfold oneVI at h4
    split at h4
    · next h0 => exact .inl ⟨h4, List.eq_nil_of_length_eq_zero h0⟩
    · exact .inr (chsVI_single h4)
  have hpd : pruDVI lw (chsVI S) = dropNVI l lw ∧ pruCVI lw (chsVI S) = oneVI key (l.drop (dropNVI l lw)) := by
    rcases hone with ⟨e, rfl⟩ | ⟨v, rfl⟩
    · rw [e]; exact ⟨rfl, rfl⟩
    · rw [chsVI_one, pruDVI_one]
      refine ⟨rfl, ?_⟩
      unfold pruCVI oneVI keptVVI
      by_cases h0 : (l.drop (dropNVI l lw)).length = 0
      · rw [if_pos h0]; simp only [List.filterMap_cons, h0, if_true, List.filterMap_nil]
      · rw [if_neg h0]; simp only [List.filterMap_cons, h0, if_false, List.filterMap_nil]
  refine (pruneYVI_any h3 hk (by omega) lw h1 h2 h5.size).mono ?_
  rintro e W' ⟨rfl, ⟨t', S', h6, h7, _⟩, h8⟩
  rw [hpd.1] at h6
  rw [hpd.2] at h7
  rw [hpd.1]
  exact ⟨rfl, t', S', h6.wide (by have := h3.hk.2.1; omega), h7, h3.down h8 h5 (Nat.le_refl _)⟩
end Go.Proofs.Ytdlacjdddjebgaa
