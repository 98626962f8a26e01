/- VersStays: what is scanned rises, each tells what Get tells; a list's beginning. -/
import Derived.Test.YtdlacjdddjebgaaV11Put
namespace Go.Proofs.Ytdlacjdddjebgaa
open Go.RowKit

theorem getB_in {Y : Type} {k : List UInt8} {y : Y} : ∀ {l : List (List UInt8 × Y)}, RisB l → (k, y) ∈ l → getB k l = some y
  | (k', y') :: t, hr, h => by
    obtain ⟨r1, r2⟩ := List.pairwise_cons.1 hr
    rcases List.mem_cons.1 h with e | h
    · simp only [Prod.mk.injEq] at e
      obtain ⟨rfl, rfl⟩ := e
      simp [getB, bl_irr]
    · have h1 : Op.bytesLess k' k = true := r1 (k, y) h
      have h2 : Op.bytesLess k k' = false := by
        cases e : Op.bytesLess k k' with
        | false => rfl
        | true => have := bl_tr _ _ _ e h1; rw [bl_irr] at this; cases this
      simp only [getB, h1, h2, Bool.false_eq_true, if_false, if_true]
      exact getB_in r2 h
theorem scan_at {C : ChC} {at1 : Int} (hr : RisB C) {p : PairT} (hp : p ∈ scanC at1 C) : seenVS (verC p.1 C) at1 = some p.2 := by
  obtain ⟨q, hq, e⟩ := List.mem_filterMap.1 hp
  obtain ⟨r, hr2, e2⟩ := Option.map_eq_some_iff.1 e
  subst e2
  dsimp only
  unfold verC
  rw [getB_in hr (show (q.1, q.2) ∈ C from hq)]
  exact hr2
theorem scan_ris {at1 : Int} : ∀ {C : ChC}, RisB C → RisB (scanC at1 C)
  | [], _ => List.Pairwise.nil
  | (k, l) :: t, hr => by
    obtain ⟨r1, r2⟩ := List.pairwise_cons.1 hr
    have ih := scan_ris (at1 := at1) r2
    unfold scanC at ih ⊢
    rw [List.filterMap_cons]
    cases e : seenVS l at1 with
    | none => simpa [e] using ih
    | some v =>
      simp only [Option.map_some]
      refine List.pairwise_cons.2 ⟨fun q hq => ?_, ih⟩
      obtain ⟨z, hz, e3⟩ := List.mem_filterMap.1 hq
      obtain ⟨r, _, rfl⟩ := Option.map_eq_some_iff.1 e3
      exact r1 z hz
theorem scan_len (at1 : Int) (C : ChC) : (scanC at1 C).length ≤ C.length := List.length_filterMap_le _ _
theorem RdP.take {w : World} {a : Option Addr} {n cap : Nat} {l : List PairT} (h : RdP w (.slice a n cap) l) (m : Nat) (hm : m ≤ l.length) : RdP w (.slice a m cap) (l.take m) := by
  obtain ⟨a', c', he, h1, h2, h3, h4⟩ := h
  simp only [Value.slice.injEq] at he
  obtain ⟨rfl, _, rfl⟩ := he
  rw [List.length_map] at h1 h2
  have el : ((l.take m).map cellsP).length = m := by rw [List.length_map, List.length_take]; omega
  refine ⟨a, cap, by rw [el], by rw [el]; omega, by rw [el]; omega, h3, fun hne => ?_⟩
  obtain ⟨b, off, ha, hc⟩ := h4 (by
    intro e
    rw [List.map_eq_nil_iff] at e
    subst e
    simp at hne)
  refine ⟨b, off, ha, fun i hi j u hu => ?_⟩
  rw [el] at hi
  have hi2 : i < (l.map cellsP).length := by rw [List.length_map]; omega
  refine hc i hi2 j u ?_
  rw [← hu]
  simp
theorem take_min {α : Type} (l : List α) (n : Nat) : l.take (min n l.length) = l.take n := by
  by_cases h : n ≤ l.length
  · rw [Nat.min_eq_left h]
  · rw [Nat.min_eq_right (by omega), List.take_length, List.take_of_length_le (by omega)]
theorem scannedB {X W : World} {K : Nat → Prop} {s mb : Nat} {C : ChC} {low : Int} {n b : Nat} (h : SG X K W s mb C low n) (hn : n ≤ 10000) (at1 m : Int) (hm : 1 ≤ m) (hb : ScB W b (b + 1) (b + 2) (b + 3) s [] [] at1) :
    Calls Try.prog 30 #[.func (.func 52) #[] #[.pointer (some ⟨b, 0, none⟩), .pointer (some ⟨b + 1, 0, none⟩), .pointer (some ⟨b + 2, 0, none⟩), .pointer (some ⟨b + 3, 0, none⟩)], .int .i64 m] W (PrsP W ((scanC at1 C).take m.toNat)) := by
  obtain ⟨t, S, h1, h2, h3, h4, h5⟩ := h
  have hl : (scanL [] at1 S).length ≤ 1000000 := by
    have := List.length_filterMap_le (scan1 [] at1) S
    have := h1.hk.2.1
    unfold scanL; omega
  have := v11pairs_any (Ok := fun W2 => Below W.heap.size W W2) m hm hl (enters_of Try.func52 (by kernel_rfl) rfl) (fun W' h => h) (fun W' hW' => scanAll_any h1 (by omega) hb hW' (by decide))
  rw [scanL_nil, h2] at this
  exact this
theorem prs_read {W W' : World} {L : List PairT} {e : Ending} (h : PrsP W L e W') : ∃ a c, e = .returned (.slice a L.length c) ∧ RdP W' (.slice a L.length c) L ∧ Below W.heap.size W W' := by
  obtain ⟨v, rfl, h1, h2⟩ := h
  have hr : RdP W' v L := RdF.of_row (fun r hr => by obtain ⟨p, _, rfl⟩ := List.mem_map.1 hr; rfl) (by simpa using h1)
  obtain ⟨a, c, rfl, _⟩ := hr.form
  exact ⟨a, c, rfl, hr, h2⟩
end Go.Proofs.Ytdlacjdddjebgaa
