/- VersGone: plain facts; Kill, Scan, Low. -/
import Derived.Test.YtdlacjdddjebgaaV11Pairs
import Derived.Test.YtdlacjdddjebgaaV11First
namespace Go.Proofs.Ytdlacjdddjebgaa
open Go.RowKit

theorem killVS_st {W : World} {B s mb : Nat} {t : Tr} {S : ChsVS} {cnt low : Int} {k : Nat} (h : StVS W B s mb t S cnt low k) (hk : k ≤ 100000) (hc : 0 ≤ cnt ∧ cnt ≤ 1000000000) (key : List UInt8) (at1 : Int) (hB : B ≤ W.heap.size) :
    Calls Try.prog 13 #[.pointer (some ⟨s, 0, none⟩), .int .i64 at1, str key] W (AddPVS W B s mb S cnt low k key (at1, [], true) (addCVS (verSVS key S) low (at1, [], true))) := by
  have C := Lib.hid (addVS_any h hk hc key (at1, [], true) hB)
  obtain ⟨c, hcc⟩ : ∃ c, c = addCVS (verSVS key S) low (at1, [], true) := ⟨_, rfl⟩
  rw [← hcc] at C ⊢
  clear h hcc
  go_enter Try.func13, Try.ntmps13
  go_wp2_with fail
  refine C.out.mono ?_
  rintro e w5 ⟨rfl, h1, h2⟩
  have HX := Lib.hid (And.intro h1 h2)
  clear h1 h2 C
  go_wp2_with fail
  go_ret
  exact ⟨rfl, HX.out.1, HX.out.2⟩
theorem killVS_one {X W : World} {s mb : Nat} {key : List UInt8} {l : List VerVS} {cnt low : Int} {k : Nat} (h : StCVS X W s mb (oneVS key l) cnt low k) (hk : k ≤ 10000) (hc : 0 ≤ cnt ∧ cnt ≤ 1000000) (at1 : Int) (hC : addCVS l low (at1, [], true) = 0) :
    Calls Try.prog 13 #[.pointer (some ⟨s, 0, none⟩), .int .i64 at1, str key] W fun e W' => e = .returned (.int .i64 0) ∧ StCVS X W' s mb (oneVS key (l ++ [(at1, [], true)])) (cnt + 1) low (k + 1) := by
  obtain ⟨t, S, h1, h2, h3⟩ := h
  obtain ⟨e1, e2⟩ := oneVS_ver h2
  have h4 := killVS_st h1 (by omega) (by omega) key at1 h3.size
  rw [e1, hC] at h4
  refine h4.mono ?_
  rintro e W' ⟨rfl, _, h5⟩
  obtain ⟨t', v', h6, h7, _⟩ := h5 rfl
  rw [e1, e2] at h6
  refine ⟨rfl, t', _, h6, ?_, h1.down h7 h3 (Nat.le_refl _)⟩
  unfold oneVS
  rw [if_neg (by simp)]
  rfl
theorem killVS_clash {X W : World} {s mb : Nat} {key : List UInt8} {l : List VerVS} {cnt low : Int} {k : Nat} (h : StCVS X W s mb (oneVS key l) cnt low k) (hk : k ≤ 10000) (hc : 0 ≤ cnt ∧ cnt ≤ 1000000) (at1 : Int) (c : Int) (hC : addCVS l low (at1, [], true) = c) (hc0 : c ≠ 0) :
    Calls Try.prog 13 #[.pointer (some ⟨s, 0, none⟩), .int .i64 at1, str key] W fun e W' => e = .returned (.int .i64 c) ∧ StCVS X W' s mb (oneVS key l) cnt low k := by
  have hh := h
  obtain ⟨t, S, h1, h2, h3⟩ := h
  obtain ⟨e1, e2⟩ := oneVS_ver h2
  have h4 := killVS_st h1 (by omega) (by omega) key at1 h3.size
  rw [e1, hC] at h4
  refine h4.mono ?_
  rintro e W' ⟨rfl, h5, _⟩
  exact ⟨rfl, hh.below (h5 hc0)⟩
theorem countVS_one {X W : World} {s mb : Nat} {C : List (List UInt8 × List VerVS)} {cnt low : Int} {k : Nat} (h : StCVS X W s mb C cnt low k) :
    Calls Try.prog 20 #[.pointer (some ⟨s, 0, none⟩)] W fun e W' => e = .returned (.int .i64 cnt) ∧ W = W' := by
  obtain ⟨t, S, h1, _, _⟩ := h
  exact countVS_st h1
theorem lowVS_one {X W : World} {s mb : Nat} {C : List (List UInt8 × List VerVS)} {cnt low : Int} {k : Nat} (h : StCVS X W s mb C cnt low k) :
    Calls Try.prog 19 #[.pointer (some ⟨s, 0, none⟩)] W fun e W' => e = .returned (.int .i64 low) ∧ W = W' := by
  obtain ⟨t, S, h1, _, _⟩ := h
  obtain ⟨_, _, c2, _⟩ := h1.cells
  clear h1
  go_enter Try.func19, Try.ntmps19
  go_wp2_with fail
  go_ret
  exact ⟨rfl, rfl⟩
theorem lastVS_one {X W : World} {s mb : Nat} {key : List UInt8} {l : List VerVS} {cnt low : Int} {k : Nat} (h : StCVS X W s mb (oneVS key l) cnt low k) (hk : k ≤ 10000) :
    Calls Try.prog 18 #[.pointer (some ⟨s, 0, none⟩), str key] W fun e W' => e = .returned (.int .i64 (lastTVS l)) ∧ W = W' := by
  obtain ⟨t, S, h1, h2, _⟩ := h
  have := lastVS_any h1 (by omega) key
  rw [(oneVS_ver h2).1] at this
  exact this
/-- Where Scan's boxes lie. -/
def scanW (W : World) (s : Nat) (lo hi : List UInt8) (at1 : Int) : World := (((W.alloc (.cells #[.pointer (some ⟨s, 0, none⟩)] 24)).alloc (.cells #[str lo] 9)).alloc (.cells #[str hi] 9)).alloc (.cells #[.int .i64 at1] 3)
theorem scan_any (W : World) (s : Nat) (lo hi : List UInt8) (at1 : Int) :
    Calls Try.prog 31 #[.pointer (some ⟨s, 0, none⟩), str lo, str hi, .int .i64 at1] W fun e W' => e = .returned (.func (.func 52) #[] #[.pointer (some ⟨W.heap.size, 0, none⟩), .pointer (some ⟨W.heap.size + 1, 0, none⟩), .pointer (some ⟨W.heap.size + 2, 0, none⟩), .pointer (some ⟨W.heap.size + 3, 0, none⟩)]) ∧ W' = scanW W s lo hi at1 := by
  go_enter Try.func31, Try.ntmps31
  go_wp2_with fail
  go_ret
  exact ⟨rfl, rfl⟩
theorem scanW_box (W : World) (s : Nat) (lo hi : List UInt8) (at1 : Int) : ScB (scanW W s lo hi at1) W.heap.size (W.heap.size + 1) (W.heap.size + 2) (W.heap.size + 3) s lo hi at1 ∧ Below W.heap.size W (scanW W s lo hi at1) := by
  constructor
  · have g0 := Boxed.new W 24 (.pointer (some ⟨s, 0, none⟩))
    have g1 := Boxed.new (W.alloc (.cells #[.pointer (some ⟨s, 0, none⟩)] 24)) 9 (str lo)
    have g2 := Boxed.new ((W.alloc (.cells #[.pointer (some ⟨s, 0, none⟩)] 24)).alloc (.cells #[str lo] 9)) 9 (str hi)
    have g3 := Boxed.new (((W.alloc (.cells #[.pointer (some ⟨s, 0, none⟩)] 24)).alloc (.cells #[str lo] 9)).alloc (.cells #[str hi] 9)) 3 (.int .i64 at1)
    simp only [World.size_alloc] at g1 g2 g3
    exact ⟨(((g0.alloc _).alloc _).alloc _).cell, ((g1.alloc _).alloc _).cell, (g2.alloc _).cell, g3.cell⟩
  · unfold scanW
    exact ((((Below.refl _ W).alloc (Nat.le_refl _) _).alloc (by simp) _).alloc (by simp; omega) _).alloc (by simp; omega) _
/-- Scanned from nothing on: how many of the first n there are. -/
theorem scanned_any {X W : World} {s mb : Nat} {t : Tr} {S : ChsVS} {cnt low : Int} {k : Nat} (h : StVS W X.heap.size s mb t S cnt low k) (hk : k ≤ 100000) (at1 : Int) (n : Int) (hn : 1 ≤ n) :
    Calls Try.prog 30 #[.func (.func 52) #[] #[.pointer (some ⟨W.heap.size, 0, none⟩), .pointer (some ⟨W.heap.size + 1, 0, none⟩), .pointer (some ⟨W.heap.size + 2, 0, none⟩), .pointer (some ⟨W.heap.size + 3, 0, none⟩)], .int .i64 n] (scanW W s [] [] at1) (PrsP (scanW W s [] [] at1) ((scanL [] at1 S).take n.toNat)) := by
  obtain ⟨hb, hbl⟩ := scanW_box W s [] [] at1
  have hl : (scanL [] at1 S).length ≤ 1000000 := by
    have := List.length_filterMap_le (scan1 [] at1) S
    have := h.hk.2.1
    unfold scanL; omega
  exact v11pairs_any (Ok := fun W2 => Below (scanW W s [] [] at1).heap.size (scanW W s [] [] at1) W2) n hn hl (enters_of Try.func52 (by kernel_rfl) rfl) (fun W' h => h) (fun W' hW' => scanAll_any (h.below hbl) hk hb hW' (by decide))
theorem scan_none {S : ChsVS} {key : List UInt8} {l : List VerVS} {at1 : Int} (h : chsVS S = oneVS key l) (hs : seenVS l at1 = none) : scanL [] at1 S = [] := by
  unfold oneVS at h
  split at h
  · obtain rfl := chsVS_nil h; rfl
  · obtain ⟨v, rfl⟩ := chsVS_single h
    unfold scanL scan1
    simp [hs]
/-- The three versions. -/
abbrev gone3 (x y z : Int) (v w : List UInt8) : List VerVS := [] ++ [(x, v, false)] ++ [(y, [], true)] ++ [(z, w, false)]
theorem gone_up (x y z t : Int) (v w : List UInt8) (n : Nat) (hn : n ≤ 3) (_ : x < y) (_ : y < z) (a0 : 0 < n → x ≤ t) (a1 : 1 < n → y ≤ t) (a2 : 2 < n → z ≤ t) (b0 : n = 0 → t < x) (b1 : n ≤ 1 → t < y) (b2 : n ≤ 2 → t < z) : upN (timesVS (gone3 x y z v w)) t = n := by
  refine upN_is (by simpa [timesVS] using hn) (fun p hp hpn => ?_) (fun p hp hpn => ?_)
  · have hp' : p < 3 := by simpa [timesVS] using hp
    match p, hp' with
    | 0, _ => simpa [timesVS] using a0 (by omega)
    | 1, _ => simpa [timesVS] using a1 (by omega)
    | 2, _ => simpa [timesVS] using a2 (by omega)
  · have hp' : p < 3 := by simpa [timesVS] using hp
    match p, hp' with
    | 0, _ => simpa [timesVS] using b0 (by omega)
    | 1, _ => simpa [timesVS] using b1 (by omega)
    | 2, _ => simpa [timesVS] using b2 (by omega)
end Go.Proofs.Ytdlacjdddjebgaa
