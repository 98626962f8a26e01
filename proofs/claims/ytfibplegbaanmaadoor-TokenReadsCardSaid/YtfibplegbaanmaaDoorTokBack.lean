/- TokenBack: what Parse tells of told, cut, longer, turned texts; the walk's plain ways. -/
import Derived.Test.YtfibplegbaanmaaDoorTokMath
namespace Go.Proofs.YtfibplegbaanmaaDoor
open Go.RowKit

theorem parse_told (u k : List UInt8) (f t : Int) (w : World) (hm : mayB u f t k = true) (hT : Tab w) :
    Calls Tryd.prog 10 #[str (textT u f.toNat t.toNat k)] w fun e w' => e = .returned (.tuple #[tok u f t k, .int .i64 0]) ∧ Below w.heap.size w w' := by
  obtain ⟨b1, b2, b3, b4, b5, b6, b7⟩ := mayB_bounds hm
  have hlen : (textT u f.toNat t.toNat k).length ≤ 1000 := by
    rw [textT, hexL_length, List.length_append, putL_length]
    unfold bodyT
    have v1 : (varL f.toNat).length ≤ 8 := varL_len 7 _ (by omega)
    have v2 : (varL t.toNat).length ≤ 8 := varL_len 7 _ (by omega)
    have v3 : (varL u.length).length ≤ 8 := varL_len 7 u.length (by omega)
    have v4 : (varL k.length).length ≤ 8 := varL_len 7 k.length (by omega)
    simp only [List.length_append]; omega
  refine (parse_any _ w (by omega) hT).mono ?_
  rintro e w' ⟨hb, l, hul, hp⟩
  obtain rfl := UL_hex _ l hul
  have htok := tokOf_body u k (putL (crcN (bodyT u f.toNat t.toNat k)) 4) f.toNat t.toNat (by omega) (by omega) (by omega) (by omega)
  rw [htok] at hp
  have ef : ((f.toNat : Nat) : Int) = f := by omega
  have et : ((t.toNat : Nat) : Int) = t := by omega
  unfold ParseP at hp
  simp only [ef, et] at hp
  rcases hp with ⟨_, _, he⟩ | ⟨hno, _⟩
  · exact ⟨he, hb⟩
  · exact absurd ⟨hm, trivial⟩ hno
theorem parse_none (s : List UInt8) (w : World) (hl : s.length ≤ 1099511627776) (hT : Tab w) (hno : ∀ (u k : List UInt8) (f t : Nat), mayB u (f : Int) (t : Int) k = true → textT u f t k ≠ s) :
    Calls Tryd.prog 10 #[str s] w fun e w' => e = .returned (.tuple #[tok [] 0 0 [], .int .i64 14]) ∧ Below w.heap.size w w' := by
  refine (parse_any s w hl hT).mono ?_
  rintro e w' ⟨hb, l, _, hp⟩
  rcases hp with ⟨h1, h2, _⟩ | ⟨_, he⟩
  · exact absurd h2 (hno _ _ _ _ h1)
  · exact ⟨he, hb⟩
theorem parse_cut (u k : List UInt8) (f t : Int) (c : Nat) (w : World) (hm : mayB u f t k = true) (hT : Tab w) (hc : c < (textT u f.toNat t.toNat k).length) (hl : (textT u f.toNat t.toNat k).length ≤ 1000) :
    Calls Tryd.prog 10 #[str ((textT u f.toNat t.toNat k).take c)] w fun e w' => e = .returned (.tuple #[tok [] 0 0 [], .int .i64 14]) ∧ Below w.heap.size w w' := by
  obtain ⟨b1, b2, b3, b4, b5, b6, b7⟩ := mayB_bounds hm
  refine parse_none _ w (by rw [List.length_take]; omega) hT fun u2 k2 f2 t2 h2 => ?_
  obtain ⟨c1, c2, c3, c4, c5, c6, c7⟩ := mayB_bounds h2
  exact no_cut (by omega) (by omega) (by omega) (by omega) (by omega) (by omega) (by omega) (by omega) hc
theorem parse_more (u k : List UInt8) (f t : Int) (w : World) (hm : mayB u f t k = true) (hT : Tab w) (hl : (textT u f.toNat t.toNat k).length ≤ 1000) :
    Calls Tryd.prog 10 #[str (textT u f.toNat t.toNat k ++ [48, 48])] w fun e w' => e = .returned (.tuple #[tok [] 0 0 [], .int .i64 14]) ∧ Below w.heap.size w w' := by
  obtain ⟨b1, b2, b3, b4, b5, b6, b7⟩ := mayB_bounds hm
  refine parse_none _ w (by rw [List.length_append]; simp; omega) hT fun u2 k2 f2 t2 h2 => ?_
  obtain ⟨c1, c2, c3, c4, c5, c6, c7⟩ := mayB_bounds h2
  exact no_more (by omega) (by omega) (by omega) (by omega) (by omega) (by omega) (by omega) (by omega)
theorem parse_turn (u k : List UInt8) (f t : Int) (i : Nat) (d : UInt8) (w : World) (hT : Tab w) (hi : i < (textT u f.toNat t.toNat k).length) (hd : (textT u f.toNat t.toNat k)[i]? ≠ some d) (hl : (textT u f.toNat t.toNat k).length ≤ 1000) :
    Calls Tryd.prog 10 #[str ((textT u f.toNat t.toNat k).set i d)] w fun e w' => e = .returned (.tuple #[tok [] 0 0 [], .int .i64 14]) ∧ Below w.heap.size w w' := by
  refine parse_none _ w (by rw [List.length_set]; omega) hT fun u2 k2 f2 t2 _ => ?_
  exact no_turn hi hd
end Go.Proofs.YtfibplegbaanmaaDoor
