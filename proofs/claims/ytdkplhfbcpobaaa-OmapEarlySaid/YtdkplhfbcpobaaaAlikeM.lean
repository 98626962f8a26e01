/- hbllaw2's alike: words and contracts. -/
import Derived.Test.YtdkplhfbcpobaaaTakesMath
import Derived.Test.YtdkplhfbcpobaaaBackIS
import Derived.Test.YtdkplhfbcpobaaaRFrom
namespace Go.Proofs.Ytdkplhfbcpobaaa
open Go.RowKit

/-- A row as a pair of a map. -/
def encP (p : Int × List UInt8) : Value × Value := (.int .i64 p.1, str p.2)
/-- Two slices that read as the keys and the texts of rows. -/
def TwoV (w : World) (va vb : Value) (l : List (Int × List UInt8)) : Prop := RdV w va (l.map fun p => Value.int .i64 p.1) ∧ RdV w vb (l.map fun p => str p.2)
theorem TwoV.below {w w' : World} {va vb : Value} {l : List (Int × List UInt8)} (h : TwoV w va vb l) (hb : Below w.heap.size w w') : TwoV w' va vb l := ⟨h.1.below hb (Nat.le_refl _), h.2.below hb (Nat.le_refl _)⟩
/-- What tells two such slices. -/
def TwoE (w : World) (l : List (Int × List UInt8)) (e : Ending) (w' : World) : Prop := ∃ va vb, e = .returned (.tuple #[va, vb]) ∧ TwoV w' va vb l ∧ Below w.heap.size w w'
theorem two_pairs {w : World} {L : List (Value × Value)} {l : List (Int × List UInt8)} (hl : L = l.map encP) {e : Ending} {w' : World} (h : PairsP w L e w') : TwoE w l e w' := by
  subst hl
  obtain ⟨va, vb, rfl, ra, rb, hb⟩ := h
  have e1 : (l.map encP).map (·.1) = l.map (fun p => Value.int .i64 p.1) := by simp [encP]
  have e2 : (l.map encP).map (·.2) = l.map (fun p => str p.2) := by simp [encP]
  rw [e1, List.length_map] at ra
  rw [e2, List.length_map] at rb
  exact ⟨va, vb, rfl, ⟨RdV.of_row (by rw [List.length_map]; exact ra), RdV.of_row (by rw [List.length_map]; exact rb)⟩, hb⟩
theorem two_from {w : World} {l : List (Int × List UInt8)} {e : Ending} {w' : World} (h : FromP w l e w') : TwoE w l e w' := by
  obtain ⟨va, vb, rfl, ra, rb, hb⟩ := h
  exact ⟨va, vb, rfl, ⟨RdV.of_row (by rw [List.length_map]; exact ra), RdV.of_row (by rw [List.length_map]; exact rb)⟩, hb⟩
/-- A span of a map's pairs is the span of the rows. -/
theorem span_enc (lo hi : Int) : ∀ l : List (Int × List UInt8), (l.map encP).filter (fun p => !lessV p.1 (.int .i64 lo) && lessV p.1 (.int .i64 hi)) = (l.filter (selR lo hi false)).map encP
  | [] => rfl
  | p :: t => by
    have e : (!lessV (encP p).1 (.int .i64 lo) && lessV (encP p).1 (.int .i64 hi)) = selR lo hi false p := by
      simp only [encP, lessV, selR, Bool.false_or]
      congr 1
      by_cases q : p.1 < lo
      · have : ¬ lo ≤ p.1 := by omega
        simp [q, this]
      · have : lo ≤ p.1 := by omega
        simp [q, this]
    simp only [List.map_cons, List.filter_cons, e, span_enc lo hi t]
    cases selR lo hi false p <;> simp
section
variable {w : World} {b k : Nat} {t : Tr} {L : List (Int × List UInt8)}
/-- All pairs of a map. -/
theorem pairs_all (h : TInv w b k t) (hk : k ≤ 1000000) (hp : prs t = L.map encP) :
    ∀ w1, w1 = w.alloc (.cells #[.pointer (some ⟨b, 0, none⟩)] 24) →
      Calls Try.prog 20 #[.func (.func 48) #[] #[.pointer (some ⟨w.heap.size, 0, none⟩)], .int .i64 1048576] w1 (TwoE w1 L) := by
  rintro w1 rfl
  refine (pairs_any (xs := prs t) (gf := 48) (lb := #[.pointer (some ⟨w.heap.size, 0, none⟩)]) 1048576 (by omega) (by have := h.len; omega) (fun p hp => ws_keys h.ws p hp) (enters_of Try.func48 (by kernel_rfl) rfl)
    (fun W hW => NK.of_below hW) (fun W hW => range_all h.mp W (by simpa using hW))).mono (fun e w' he => ?_)
  rw [List.take_of_length_le (by have := h.len; omega)] at he
  exact two_pairs hp he
/-- All pairs, falling. -/
theorem pairs_back (h : TInv w b k t) (hk : k ≤ 1000000) (hp : prs t = L.map encP) :
    ∀ w1, w1 = w.alloc (.cells #[.pointer (some ⟨b, 0, none⟩)] 24) →
      Calls Try.prog 20 #[.func (.func 67) #[] #[.pointer (some ⟨w.heap.size, 0, none⟩)], .int .i64 1048576] w1 (TwoE w1 L.reverse) := by
  rintro w1 rfl
  have hr := rprs_eq t
  have hl : (rprs t).length ≤ 1000000 := by rw [hr, List.length_reverse]; have := h.len; omega
  refine (pairs_any (Ok := NK (w.alloc (.cells #[.pointer (some ⟨b, 0, none⟩)] 24))) (xs := rprs t) (gf := 67) (lb := #[.pointer (some ⟨w.heap.size, 0, none⟩)]) 1048576 (by omega) (by omega) (fun p hp => ws_keys h.ws p (by rw [hr] at hp; simpa using hp)) (enters_of Try.func67 (by kernel_rfl) rfl)
    (fun W hW => NK.of_below hW) (fun W hW => ?_)).mono (fun e w' he => ?_)
  · refine backsIS_any (h.mp.below (below_alloc w _)) ?_ (by simpa using hW)
    exact (Boxed.new w 24 (.pointer (some ⟨b, 0, none⟩))).cell
  · rw [List.take_of_length_le (by have : Int.toNat 1048576 = 1048576 := rfl; omega), hr, hp] at he
    exact two_pairs (by rw [List.map_reverse]) he
/-- The pairs of a span. -/
theorem pairs_span (h : TInv w b k t) (hk : k ≤ 1000000) (hp : prs t = L.map encP) {lo hi : Int} (hlo : KSIS (.int .i64 lo)) (hhi : KSIS (.int .i64 hi)) :
    ∀ w1, w1 = spanWIS w b (.int .i64 lo) (.int .i64 hi) →
      Calls Try.prog 20 #[.func (.func 60) #[] #[.pointer (some ⟨w.heap.size, 0, none⟩), .pointer (some ⟨w.heap.size + 1, 0, none⟩), .pointer (some ⟨w.heap.size + 2, 0, none⟩)], .int .i64 1048576] w1 (TwoE w1 (L.filter (selR lo hi false))) := by
  rintro w1 rfl
  have he0 := btwIS_filter ordIS (lo := .int .i64 lo) (hi := .int .i64 hi) hlo hhi h.ws h.rs
  have hl : (btwIS (.int .i64 lo) (.int .i64 hi) t).length ≤ 1000000 := by
    rw [he0]
    have := List.length_filter_le (fun p : Value × Value => !lessV p.1 (.int .i64 lo) && lessV p.1 (.int .i64 hi)) (prs t)
    have := h.len
    omega
  have b0 := Boxed.new w 24 (.pointer (some ⟨b, 0, none⟩))
  have b1 := Boxed.new (w.alloc (.cells #[.pointer (some ⟨b, 0, none⟩)] 24)) 3 (.int .i64 lo)
  have b2 := Boxed.new ((w.alloc (.cells #[.pointer (some ⟨b, 0, none⟩)] 24)).alloc (.cells #[.int .i64 lo] 3)) 3 (.int .i64 hi)
  have hsz : (spanWIS w b (.int .i64 lo) (.int .i64 hi)).heap.size = w.heap.size + 3 := by simp [spanWIS]
  have hbs : Below w.heap.size w (spanWIS w b (.int .i64 lo) (.int .i64 hi)) := (((Below.refl _ w).alloc (Nat.le_refl _) _).alloc (by simp) _).alloc (by simp; omega) _
  simp only [World.size_alloc] at b1 b2
  refine (pairs_any (Ok := NK (spanWIS w b (.int .i64 lo) (.int .i64 hi))) (xs := btwIS (.int .i64 lo) (.int .i64 hi) t) (gf := 60) (lb := #[.pointer (some ⟨w.heap.size, 0, none⟩), .pointer (some ⟨w.heap.size + 1, 0, none⟩), .pointer (some ⟨w.heap.size + 2, 0, none⟩)]) 1048576 (by omega) (by omega)
    (fun p hp => ws_keys h.ws p (by rw [he0] at hp; exact (List.mem_filter.1 hp).1)) (enters_of Try.func60 (by kernel_rfl) rfl)
    (fun W hW => NK.of_below hW) (fun W hW => ?_)).mono (fun e w' he => ?_)
  · refine spansIS_any (h.mp.below hbs) h.ws hlo hhi ?_ ?_ ?_ hW
    · exact ((b0.alloc _).alloc _).cell
    · exact (b1.alloc _).cell
    · exact b2.cell
  · rw [List.take_of_length_le (by have : Int.toNat 1048576 = 1048576 := rfl; omega), he0, hp, span_enc] at he
    exact two_pairs rfl he
end
end Go.Proofs.Ytdkplhfbcpobaaa
