import Derived.Test.YtcgjiddiegepkaaV11Pairs
/- VersGone: plain facts; Kill, Scan, Low. -/
namespace Go.Proofs.Ytcgjiddiegepkaa
open Go.RowKit

theorem killVS_st {W : World} {B s mb : Nat} {t : Tr} {S : ChsVS} {cnt low : Int} {k : Nat} (h : StVS W B s mb t S cnt low k) (hk : k ≤ 100000) (hc : 0 ≤ cnt ∧ cnt ≤ 1000000000) (key : List UInt8) (at1 : Int) (hB : B ≤ W.heap.size) :
    Calls Try.prog 27 #[.pointer (some ⟨s, 0, none⟩), .int .i64 at1, str key] W (AddPVS W B s mb S cnt low k key (at1, [], true) (addCVS (verSVS key S) low (at1, [], true))) := by
  have C := Lib.hid (addVS_any h hk hc key (at1, [], true) hB)
  obtain ⟨c, hcc⟩ : ∃ c, c = addCVS (verSVS key S) low (at1, [], true) := ⟨_, rfl⟩
  rw [← hcc] at C ⊢
  clear h hcc
  go_enter Try.func27, Try.ntmps27
  go_wp2_with fail
  refine C.out.mono ?_
  rintro e w5 ⟨rfl, h1, h2⟩
  have HX := Lib.hid (And.intro h1 h2)
  clear h1 h2 C
  go_wp2_with fail
  go_ret
  exact ⟨rfl, HX.out.1, HX.out.2⟩
/-- Where Scan's boxes lie. -/
def scanW (W : World) (s : Nat) (lo hi : List UInt8) (at1 : Int) : World := (((W.alloc (.cells #[.pointer (some ⟨s, 0, none⟩)] 25)).alloc (.cells #[str lo] 9)).alloc (.cells #[str hi] 9)).alloc (.cells #[.int .i64 at1] 3)
theorem scan_any (W : World) (s : Nat) (lo hi : List UInt8) (at1 : Int) :
    Calls Try.prog 36 #[.pointer (some ⟨s, 0, none⟩), str lo, str hi, .int .i64 at1] W fun e W' => e = .returned (.func (.func 56) #[] #[.pointer (some ⟨W.heap.size, 0, none⟩), .pointer (some ⟨W.heap.size + 1, 0, none⟩), .pointer (some ⟨W.heap.size + 2, 0, none⟩), .pointer (some ⟨W.heap.size + 3, 0, none⟩)]) ∧ W' = scanW W s lo hi at1 := by
  go_enter Try.func36, Try.ntmps36
  go_wp2_with fail
  go_ret
  exact ⟨rfl, rfl⟩
theorem scanW_box (W : World) (s : Nat) (lo hi : List UInt8) (at1 : Int) : ScB (scanW W s lo hi at1) W.heap.size (W.heap.size + 1) (W.heap.size + 2) (W.heap.size + 3) s lo hi at1 ∧ Below W.heap.size W (scanW W s lo hi at1) := by
  constructor
  · have g0 := Boxed.new W 25 (.pointer (some ⟨s, 0, none⟩))
    have g1 := Boxed.new (W.alloc (.cells #[.pointer (some ⟨s, 0, none⟩)] 25)) 9 (str lo)
    have g2 := Boxed.new ((W.alloc (.cells #[.pointer (some ⟨s, 0, none⟩)] 25)).alloc (.cells #[str lo] 9)) 9 (str hi)
    have g3 := Boxed.new (((W.alloc (.cells #[.pointer (some ⟨s, 0, none⟩)] 25)).alloc (.cells #[str lo] 9)).alloc (.cells #[str hi] 9)) 3 (.int .i64 at1)
    simp only [World.size_alloc] at g1 g2 g3
    exact ⟨(((g0.alloc _).alloc _).alloc _).cell, ((g1.alloc _).alloc _).cell, (g2.alloc _).cell, g3.cell⟩
  · unfold scanW
    exact ((((Below.refl _ W).alloc (Nat.le_refl _) _).alloc (by simp) _).alloc (by simp; omega) _).alloc (by simp; omega) _
/-- Scanned from nothing on: how many of the first n there are. -/
theorem scanned_any {X W : World} {s mb : Nat} {t : Tr} {S : ChsVS} {cnt low : Int} {k : Nat} (h : StVS W X.heap.size s mb t S cnt low k) (hk : k ≤ 100000) (at1 : Int) (n : Int) (hn : 1 ≤ n) :
    Calls Try.prog 21 #[.func (.func 56) #[] #[.pointer (some ⟨W.heap.size, 0, none⟩), .pointer (some ⟨W.heap.size + 1, 0, none⟩), .pointer (some ⟨W.heap.size + 2, 0, none⟩), .pointer (some ⟨W.heap.size + 3, 0, none⟩)], .int .i64 n] (scanW W s [] [] at1) (PrsP (scanW W s [] [] at1) ((scanL [] at1 S).take n.toNat)) := by
  obtain ⟨hb, hbl⟩ := scanW_box W s [] [] at1
  have hl : (scanL [] at1 S).length ≤ 1000000 := by
    have := List.length_filterMap_le (scan1 [] at1) S
    have := h.hk.2.1
    unfold scanL; omega
  exact v11pairs_any (Ok := fun W2 => Below (scanW W s [] [] at1).heap.size (scanW W s [] [] at1) W2) n hn hl (enters_of Try.func56 (by kernel_rfl) rfl) (fun W' h => h) (fun W' hW' => scanAll_any (h.below hbl) hk hb hW' (by decide))
end Go.Proofs.Ytcgjiddiegepkaa

/- VersStays: plain facts: what is to be seen at a time stays. -/
namespace Go.Proofs.Ytcgjiddiegepkaa
open Go.RowKit

abbrev ChC := List (List UInt8 × List VerVS)
/-- What is to be seen at a time. -/
def scanC (at1 : Int) (C : ChC) : List PairT := C.filterMap (fun p => (seenVS p.2 at1).map (fun r => (p.1, r)))
theorem less_nil : ∀ a : List UInt8, Op.bytesLess a [] = false
  | [] => rfl
  | _ :: _ => rfl
theorem scanL_nil (at1 : Int) (S : ChsVS) : scanL [] at1 S = scanC at1 (chsVS S) := by
  unfold scanL scanC chsVS
  rw [List.filterMap_map]
  congr 1
  funext x
  unfold scan1
  rw [less_nil]
  rfl
theorem ins_map2 {Y Z : Type} (f : Y → Z) (k : List UInt8) (y : Y) : ∀ l : List (List UInt8 × Y), (insB k y l).map (fun x => (x.1, f x.2)) = insB k (f y) (l.map (fun x => (x.1, f x.2)))
  | [] => rfl
  | (k', y') :: t => by
    have ih := ins_map2 f k y t
    cases h1 : Op.bytesLess k k' with
    | true => simp [insB, h1]
    | false =>
      cases h2 : Op.bytesLess k' k with
      | true => simp only [List.map_cons, insB, h1, h2, Bool.false_eq_true, if_false, if_true, ih]
      | false => simp [insB, h1, h2]
theorem get_map2 {Y Z : Type} (f : Y → Z) (k : List UInt8) : ∀ l : List (List UInt8 × Y), getB k (l.map (fun x => (x.1, f x.2))) = (getB k l).map f
  | [] => rfl
  | (k', y') :: t => by
    have ih := get_map2 f k t
    cases h1 : Op.bytesLess k k' with
    | true => simp [getB, h1]
    | false =>
      cases h2 : Op.bytesLess k' k with
      | true => simp only [List.map_cons, getB, h1, h2, Bool.false_eq_true, if_false, if_true, ih]
      | false => simp [getB, h1, h2]
theorem chs_ins (key : List UInt8) (v : Value) (l : List VerVS) (S : ChsVS) : chsVS (insB key (v, l) S) = insB key l (chsVS S) := ins_map2 (fun y : ChVS => y.2) key (v, l) S
theorem ver_chs (key : List UInt8) (S : ChsVS) : verSVS key S = (getB key (chsVS S)).getD [] := by
  unfold verSVS chsVS
  rw [get_map2 (fun y : ChVS => y.2) key S]
theorem seen_snoc (l : List VerVS) (v : VerVS) (at1 : Int) (h : at1 < v.1) : seenVS (l ++ [v]) at1 = seenVS l at1 := by
  have e : upN (timesVS (l ++ [v])) at1 = upN (timesVS l) at1 := by
    unfold upN timesVS
    rw [List.map_append, List.filter_append]
    have : List.filter (fun a => decide (a ≤ at1)) (List.map (fun v : VerVS => v.1) [v]) = [] := by
      simp; omega
    rw [this, List.append_nil]
  have hn : upN (timesVS l) at1 ≤ l.length := Nat.le_trans (upN_le _ _) (by unfold timesVS; simp)
  unfold seenVS lastVS
  rw [e, List.take_append_of_le_length hn]
theorem scan_put (key : List UInt8) (v : VerVS) (at1 : Int) (hv : at1 < v.1) : ∀ (C : ChC), scanC at1 (insB key ((getB key C).getD [] ++ [v]) C) = scanC at1 C
  | [] => by
    have := seen_snoc [] v at1 hv
    have h0 : seenVS [] at1 = none := rfl
    simp only [getB, Option.getD_none, insB, scanC, List.filterMap_cons, this, h0, Option.map_none, List.filterMap_nil]
  | (k', y') :: t => by
    have ih := scan_put key v at1 hv t
    unfold scanC at ih ⊢
    cases h1 : Op.bytesLess key k' with
    | true =>
      have := seen_snoc [] v at1 hv
      have h0 : seenVS [] at1 = none := rfl
      simp only [getB, h1, if_true, Option.getD_none, insB, List.filterMap_cons, this, h0, Option.map_none]
    | false =>
      cases h2 : Op.bytesLess k' key with
      | true => simp only [getB, insB, h1, h2, Bool.false_eq_true, if_false, if_true, List.filterMap_cons, ih]
      | false =>
        have e : key = k' := bl_tot key k' h1 h2
        subst e
        simp only [getB, insB, h1, Bool.false_eq_true, if_false, Option.getD_some, List.filterMap_cons, seen_snoc y' v at1 hv]
theorem upN_cons (a t : Int) (l : List Int) : upN (a :: l) t = (if a ≤ t then 1 else 0) + upN l t := by
  unfold upN
  by_cases h : a ≤ t
  · simp [h]; omega
  · simp [h]
theorem upN_mono : ∀ (l : List Int) {s t : Int}, s ≤ t → upN l s ≤ upN l t
  | [], _, _, _ => Nat.le_refl _
  | a :: l, s, t, h => by
    have := upN_mono l h
    rw [upN_cons, upN_cons]
    split <;> split <;> omega
end Go.Proofs.Ytcgjiddiegepkaa
