/- A store of versions of string with one key: plain facts. -/
import Derived.Test.YtdlacjdddjebgaaVPruneVS
namespace Go.Proofs.Ytdlacjdddjebgaa
open Go.RowKit

theorem verSVS_nil (key : List UInt8) : verSVS key [] = [] := rfl
theorem verSVS_one (key : List UInt8) (v : Value) (l : List VerVS) : verSVS key [(key, (v, l))] = l := by simp [verSVS, getB, bl_irr]
theorem insBVS_one (key : List UInt8) (y y' : ChVS) : insB key y [(key, y')] = [(key, y)] := by simp [insB, bl_irr]
theorem insBVS_nil (key : List UInt8) (y : ChVS) : insB key y [] = [(key, y)] := rfl
theorem lastTVS_snoc (l : List VerVS) (v : VerVS) : lastTVS (l ++ [v]) = v.1 := by simp [lastTVS]
theorem chsVS_one (key : List UInt8) (v : Value) (l : List VerVS) : chsVS [(key, (v, l))] = [(key, l)] := rfl
theorem pruDVS_one (lw : Int) (key : List UInt8) (l : List VerVS) : pruDVS lw [(key, l)] = dropNVS l lw := by simp [pruDVS]
/-- The blocks of a store lie behind what lay. -/
theorem StVS.down {W W' X : World} {B s mb : Nat} {t : Tr} {S : ChsVS} {cnt low : Int} {k : Nat} (h : StVS W B s mb t S cnt low k) (hf : Frm (BlkVS s mb S) W W') (hX : Below X.heap.size X W) (hB : X.heap.size ≤ B) : Below X.heap.size X W' :=
  hX.trans (hf.below hX.size (fun k hk => Nat.le_trans hB (h.blk k hk).1))
/-- A store whose chains are C. -/
def StCVS (X W : World) (s mb : Nat) (C : List (List UInt8 × List VerVS)) (cnt low : Int) (k : Nat) : Prop := ∃ t S, StVS W X.heap.size s mb t S cnt low k ∧ chsVS S = C ∧ Below X.heap.size X W
theorem StCVS.below {X W W' : World} {s mb : Nat} {C : List (List UInt8 × List VerVS)} {cnt low : Int} {k : Nat} (h : StCVS X W s mb C cnt low k) (hb : Below W.heap.size W W') : StCVS X W' s mb C cnt low k := by
  obtain ⟨t, S, h1, h2, h3⟩ := h
  exact ⟨t, S, h1.below hb, h2, h3.trans (hb.mono h3.size)⟩
theorem chsVS_nil {S : ChsVS} (h : chsVS S = []) : S = [] := by unfold chsVS at h; exact List.map_eq_nil_iff.1 h
theorem chsVS_single {S : ChsVS} {key : List UInt8} {l : List VerVS} (h : chsVS S = [(key, l)]) : ∃ v, S = [(key, (v, l))] := by
  match S, h with
  | [(k', (v, l'))], h =>
    simp only [chsVS, List.map_cons, List.map_nil, List.cons.injEq, Prod.mk.injEq, and_true] at h
    obtain ⟨rfl, rfl⟩ := h
    exact ⟨v, rfl⟩
/-- How a store with the one key, or without it, goes on. -/
def oneVS (key : List UInt8) (l : List VerVS) : List (List UInt8 × List VerVS) := if l.length = 0 then [] else [(key, l)]
theorem oneVS_ver {S : ChsVS} {key : List UInt8} {l : List VerVS} (h : chsVS S = oneVS key l) : verSVS key S = l ∧ ∀ y, insB key y S = [(key, y)] := by
  unfold oneVS at h
  split at h
  · next h0 =>
    obtain rfl := chsVS_nil h
    obtain rfl := List.eq_nil_of_length_eq_zero h0
    exact ⟨rfl, fun y => rfl⟩
  · obtain ⟨v, rfl⟩ := chsVS_single h
    exact ⟨verSVS_one key v l, fun y => insBVS_one key y _⟩
theorem putVS_one {X W : World} {s mb : Nat} {key : List UInt8} {l : List VerVS} {cnt low : Int} {k : Nat} (h : StCVS X W s mb (oneVS key l) cnt low k) (hk : k ≤ 10000) (hc : 0 ≤ cnt ∧ cnt ≤ 1000000) (at1 : Int) (x : (List UInt8)) (hC : addCVS l low (at1, x, false) = 0) :
    Calls Try.prog 11 #[.pointer (some ⟨s, 0, none⟩), .int .i64 at1, str key, str x] W fun e W' => e = .returned (.int .i64 0) ∧ StCVS X W' s mb (oneVS key (l ++ [(at1, x, false)])) (cnt + 1) low (k + 1) := by
  obtain ⟨t, S, h1, h2, h3⟩ := h
  obtain ⟨e1, e2⟩ := oneVS_ver h2
  have h4 := putVS_st h1 (by omega) (by omega) key at1 x h3.size
  rw [e1, hC] at h4
  refine h4.mono ?_
  rintro e W' ⟨rfl, _, h5⟩
  obtain ⟨t', v', h6, h7, _⟩ := h5 rfl
  rw [e1, e2] at h6
  refine ⟨rfl, t', _, h6, ?_, h1.down h7 h3 (Nat.le_refl _)⟩
  unfold oneVS
  rw [if_neg (by simp)]
  rfl
theorem clashVS_one {X W : World} {s mb : Nat} {key : List UInt8} {l : List VerVS} {cnt low : Int} {k : Nat} (h : StCVS X W s mb (oneVS key l) cnt low k) (hk : k ≤ 10000) (hc : 0 ≤ cnt ∧ cnt ≤ 1000000) (at1 : Int) (x : (List UInt8)) (c : Int) (hC : addCVS l low (at1, x, false) = c) (hc0 : c ≠ 0) :
    Calls Try.prog 11 #[.pointer (some ⟨s, 0, none⟩), .int .i64 at1, str key, str x] W fun e W' => e = .returned (.int .i64 c) ∧ StCVS X W' s mb (oneVS key l) cnt low k := by
  have hh := h
  obtain ⟨t, S, h1, h2, h3⟩ := h
  obtain ⟨e1, e2⟩ := oneVS_ver h2
  have h4 := putVS_st h1 (by omega) (by omega) key at1 x h3.size
  rw [e1, hC] at h4
  refine h4.mono ?_
  rintro e W' ⟨rfl, h5, _⟩
  exact ⟨rfl, hh.below (h5 hc0)⟩
theorem newVS_one (W : World) (key : List UInt8) : Calls Try.prog 9 #[] W fun e W' => ∃ s mb, e = .returned (.pointer (some ⟨s, 0, none⟩)) ∧ StCVS W W' s mb (oneVS key []) 0 0 0 :=
  (newVS_st W).mono (by
    rintro e W' ⟨s, mb, rfl, h1, h2, _⟩
    exact ⟨s, mb, rfl, .nil, [], h1, rfl, h2⟩)
theorem getVS_one {X W : World} {s mb : Nat} {key : List UInt8} {l : List VerVS} {cnt low : Int} {k : Nat} (h : StCVS X W s mb (oneVS key l) cnt low k) (hk : k ≤ 10000) (at1 : Int) (r : Option (List UInt8)) (hr : seenVS l at1 = r) :
    Calls Try.prog 27 #[.pointer (some ⟨s, 0, none⟩), str key, .int .i64 at1] W fun e W' => e = seenEVS r ∧ StCVS X W' s mb (oneVS key l) cnt low k := by
  have hh := h
  obtain ⟨t, S, h1, h2, h3⟩ := h
  obtain ⟨e1, e2⟩ := oneVS_ver h2
  have h4 := getVS_st h1 (by omega) key at1
  rw [e1, hr] at h4
  exact h4.mono (by rintro e W' ⟨rfl, hb⟩; exact ⟨rfl, hh.below hb⟩)
theorem pruneVS_one {X W : World} {s mb : Nat} {key : List UInt8} {l : List VerVS} {cnt low : Int} {k : Nat} (h : StCVS X W s mb (oneVS key l) cnt low k) (hk : k ≤ 10000) (hc : 0 ≤ cnt ∧ cnt ≤ 1000000) (lw : Int) (h1 : low < lw) (h2 : lw ≤ 1099511627776) :
    Calls Try.prog 15 #[.pointer (some ⟨s, 0, none⟩), .int .i64 lw] W fun e W' => e = .returned (.int .i64 (dropNVS l lw : Int)) ∧ StCVS X W' s mb (oneVS key (l.drop (dropNVS l lw))) (cnt - (dropNVS l lw : Int)) lw (k + k) := by
  obtain ⟨t, S, h3, h4, h5⟩ := h
  have hone : chsVS S = [] ∧ l = [] ∨ ∃ v, S = [(key, (v, l))] := by
    unfold oneVS at h4
    split at h4
    · next h0 => exact .inl ⟨h4, List.eq_nil_of_length_eq_zero h0⟩
    · exact .inr (chsVS_single h4)
  have hpd : pruDVS lw (chsVS S) = dropNVS l lw ∧ pruCVS lw (chsVS S) = oneVS key (l.drop (dropNVS l lw)) := by
    rcases hone with ⟨e, rfl⟩ | ⟨v, rfl⟩
    · rw [e]; exact ⟨rfl, rfl⟩
    · rw [chsVS_one, pruDVS_one]
      refine ⟨rfl, ?_⟩
      unfold pruCVS oneVS keptVVS
      by_cases h0 : (l.drop (dropNVS l lw)).length = 0
      · rw [if_pos h0]; simp only [List.filterMap_cons, h0, if_true, List.filterMap_nil]
      · rw [if_neg h0]; simp only [List.filterMap_cons, h0, if_false, List.filterMap_nil]
  refine (pruneYVS_any h3 hk (by omega) lw h1 h2 h5.size).mono ?_
  rintro e W' ⟨rfl, ⟨t', S', h6, h7, _⟩, h8⟩
  rw [hpd.1] at h6
  rw [hpd.2] at h7
  rw [hpd.1]
  exact ⟨rfl, t', S', h6.wide (by have := h3.hk.2.1; omega), h7, h3.down h8 h5 (Nat.le_refl _)⟩
end Go.Proofs.Ytdlacjdddjebgaa
