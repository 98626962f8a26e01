/- pack.Read, token.Parse by their contracts. -/
import Derived.Test.YtfibplegbaanmaaDoorPackText
import Derived.Test.YtfibplegbaanmaaDoorPlain
import Derived.Test.YtfibplegbaanmaaDoorUnhex
namespace Go.Proofs.YtfibplegbaanmaaDoor
open Go.RowKit

theorem rv_lt : ∀ (f : Nat) (t : List UInt8) (p i acc : Nat), acc < 128 ^ i → (rv f t p i acc).1 < 128 ^ (i + f)
  | 0, t, p, i, acc, h => by simp only [rv]; exact Nat.pow_pos (by omega)
  | f + 1, [], p, i, acc, h => by simp only [rv]; exact Nat.pow_pos (by omega)
  | f + 1, c :: t, p, i, acc, h => by
    rw [rv]
    have h1 := acc_lt acc i (c.toNat % 128) (by omega) h
    split
    · have := rv_lt f t (p + 1) (i + 1) _ h1
      rwa [show i + 1 + f = i + (f + 1) by omega] at this
    split
    · exact Nat.pow_pos (by omega)
    · exact Nat.lt_of_lt_of_le h1 (Nat.pow_le_pow_right (by omega) (by omega))
theorem numR_lt (l : List UInt8) (p : Nat) (bad : Bool) : (numR l p bad).1 ≤ 72057594037927935 := by
  unfold numR
  split
  · simp
  · have := rv_lt 8 (l.drop p) p 0 0 (by simp)
    simp only at this ⊢
    have h2 : 128 ^ (0 + 8) = 72057594037927936 := by decide
    omega
theorem textR_len (l : List UInt8) (p : Nat) (bad : Bool) : (textR l p bad).1.length ≤ l.length := by
  unfold textR
  split
  · simp
  · simp; omega

theorem TK.fr {w : World} {b : Nat} {u k : List UInt8} {f t : Int} (h : TK w b u f t k) (j : Nat) : w.frozen? ⟨b, j, none⟩ = false := by
  obtain ⟨T, h⟩ := h; exact frozen_of_row w b j _ T h

theorem four_set {w : World} {b : Nat} {x0 x1 x2 x3 u : Value} {t : TypeId} (h : w.heap[b]? = some (.cells #[x0, x1, x2, x3] t (0, 0))) :
    (w.setCell ⟨b, 0, none⟩ u).heap[b]? = some (.cells #[u, x1, x2, x3] t (0, 0)) ∧ (w.setCell ⟨b, 1, none⟩ u).heap[b]? = some (.cells #[x0, u, x2, x3] t (0, 0)) ∧
    (w.setCell ⟨b, 2, none⟩ u).heap[b]? = some (.cells #[x0, x1, u, x3] t (0, 0)) ∧ (w.setCell ⟨b, 3, none⟩ u).heap[b]? = some (.cells #[x0, x1, x2, u] t (0, 0)) := by
  have hlt := (Array.getElem?_eq_some_iff.1 h).1
  have h' : w.heap[b] = .cells #[x0, x1, x2, x3] t (0, 0) := by simpa [Array.getElem?_eq_getElem hlt] using h
  refine ⟨?_, ?_, ?_, ?_⟩
  all_goals
    show (w.heap.modify b _)[b]? = _
    rw [Array.getElem?_eq_getElem (by simpa using hlt), Array.getElem_modify_self, h']
    rfl
theorem TK.set4 {w : World} {b : Nat} {u0 k0 : List UInt8} {f0 t0 : Int} (h : TK w b u0 f0 t0 k0) (u k : List UInt8) (f t : Int) :
    TK ((((w.setCell ⟨b, 0, none⟩ (str u)).setCell ⟨b, 1, none⟩ (.int .i64 f)).setCell ⟨b, 2, none⟩ (.int .i64 t)).setCell ⟨b, 3, none⟩ (str k)) b u f t k := by
  obtain ⟨T, h⟩ := h
  exact ⟨T, (four_set (four_set (four_set (four_set h).1).2.1).2.2.1).2.2.2⟩
theorem below_set4 {B : Nat} {w w' : World} {b : Nat} (h : Below B w w') (hb : B ≤ b) (x0 x1 x2 x3 : Value) :
    Below B w ((((w'.setCell ⟨b, 0, none⟩ x0).setCell ⟨b, 1, none⟩ x1).setCell ⟨b, 2, none⟩ x2).setCell ⟨b, 3, none⟩ x3) :=
  Below.setCell (p := ⟨b, 3, none⟩) (Below.setCell (p := ⟨b, 2, none⟩) (Below.setCell (p := ⟨b, 1, none⟩) (Below.setCell (p := ⟨b, 0, none⟩) h hb _) hb _) hb _) hb _

theorem read_any (v : Value) (l : List UInt8) (w : World) (base : Nat) (h : Own 5 w base v l) :
    Calls Tryd.prog 24 #[v] w fun e w' => e = .returned (.pointer (some ⟨w.heap.size, 0, none⟩)) ∧ PR w' w.heap.size v l 0 false ∧ Below w.heap.size w w' := by
  have hlt := h.base
  have hrd := h.rd
  obtain ⟨a0, n0, cap0, rfl⟩ : ∃ a n c, v = .slice a n c := by
    obtain ⟨a, cap, hv, _⟩ := h.rd
    exact ⟨a, _, cap, hv⟩
  have HO := Lib.hid h
  have HL := Lib.hid hlt
  have HR := Lib.hid hrd
  clear h hlt hrd
  go_enter Tryd.func24, Tryd.ntmps24
  go_wp2_with fail
  go_ret
  refine ⟨rfl, ⟨⟨_, heap_alloc_new w _⟩, HR.out.alloc _, fun a n c hv => ?_, Nat.zero_le _⟩, below_alloc _ _⟩
  simp only [Value.slice.injEq] at hv
  exact (HL.out a.block (by rw [hv.1]; rfl)).2

/-- The bytes of a text of digits of 16; none, if it is none. -/
def UL (t l : List UInt8) : Prop := (t.length % 2 = 0 ∧ hexOkK t (t.length / 2) ∧ l = unhexK t (t.length / 2)) ∨ ((t.length % 2 = 1 ∨ ¬ hexOkK t (t.length / 2)) ∧ l = [])
def tokOf (l : List UInt8) : List UInt8 × Nat × Nat × List UInt8 :=
  let a := numR l 0 false
  let b := numR l a.2.1 a.2.2
  let c := textR l b.2.1 b.2.2
  let d := textR l c.2.1 c.2.2
  (c.1, a.1, b.1, d.1)
def ParseP (s : List UInt8) (r : List UInt8 × Nat × Nat × List UInt8) (e : Ending) : Prop :=
  (mayB r.1 r.2.1 r.2.2.1 r.2.2.2 = true ∧ textT r.1 r.2.1 r.2.2.1 r.2.2.2 = s ∧ e = .returned (.tuple #[tok r.1 r.2.1 r.2.2.1 r.2.2.2, .int .i64 0])) ∨
  (¬ (mayB r.1 r.2.1 r.2.2.1 r.2.2.2 = true ∧ textT r.1 r.2.1 r.2.2.1 r.2.2.2 = s) ∧ e = .returned (.tuple #[tok [] 0 0 [], .int .i64 14]))
def ParsePost (s : List UInt8) (w : World) (e : Ending) (w' : World) : Prop := Below w.heap.size w w' ∧ ∃ l, UL s l ∧ ParseP s (tokOf l) e

set_option maxRecDepth 100000 in
set_option maxHeartbeats 6400000 in
theorem parse_any (s : List UInt8) (w : World) (hl : s.length ≤ 1099511627776) (hT : Tab w) : Calls Tryd.prog 10 #[str s] w (ParsePost s w) := by
  have HTab := Lib.hid hT
  have hA := below_alloc w (.cells #[str [], .int .i64 0, .int .i64 0, str []] 23)
  have hK := TK.made w [] [] 0 0 23
  clear hT
  go_enter Tryd.func10, Tryd.ntmps10
  go_wp2_with fail
  refine (unhex_any s _ (by omega)).mono ?_
  rintro e w1 ⟨hb1, hu⟩
  have K1 := hK.below hb1 hK.lt
  have hW1 := hA.trans (hb1.mono hA.size)
  have hun : ∃ v l ok, e = .returned (.tuple #[v, .bool ok]) ∧ UL s l ∧ Own 5 w1 (w.heap.size + 1) v l ∧ l.length ≤ s.length := by
    rcases hu with ⟨v, rfl, h1, h2, ho⟩ | ⟨rfl, h⟩
    · exact ⟨v, _, true, rfl, .inl ⟨h1, h2, rfl⟩, ho.mono (by simp), by simp [unhexK]; omega⟩
    · exact ⟨_, [], false, rfl, .inr ⟨h, rfl⟩, Own.nil _ _ _, by simp⟩
  obtain ⟨v, l, ok, rfl, hul, hown, hll⟩ := hun
  obtain ⟨a0, n0, cap0, rfl⟩ : ∃ a n c, v = .slice a n c := by
    obtain ⟨a, cap, hv, _⟩ := hown.rd
    exact ⟨a, _, cap, hv⟩
  have HUL := Lib.hid hul
  clear hu hul hb1 hA hK
  go_wp2_with fail
  refine (read_any _ l _ _ hown).mono ?_
  rintro e w2 ⟨rfl, P2, hb2⟩
  obtain ⟨rb, hrb⟩ : ∃ rb, rb = w1.heap.size := ⟨_, rfl⟩
  have K2 := K1.below hb2 K1.lt
  have hW2 := hW1.trans (hb2.mono hW1.size)
  have hlt : w.heap.size < rb := by rw [hrb]; exact K1.lt
  rw [← hrb] at P2 ⊢
  clear hb2 K1 hW1 hown hrb
  obtain ⟨n1, p1, b1, e1⟩ : ∃ n p b, numR l 0 false = (n, p, b) := ⟨_, _, _, rfl⟩
  obtain ⟨n2, p2, b2, e2⟩ : ∃ n p b, numR l p1 b1 = (n, p, b) := ⟨_, _, _, rfl⟩
  obtain ⟨u, p3, b3, e3⟩ : ∃ n p b, textR l p2 b2 = (n, p, b) := ⟨_, _, _, rfl⟩
  obtain ⟨k, p4, b4, e4⟩ : ∃ n p b, textR l p3 b3 = (n, p, b) := ⟨_, _, _, rfl⟩
  have htok : tokOf l = (u, n1, n2, k) := by unfold tokOf; simp only [e1, e2, e3, e4]
  have i1 := numR_lt l 0 false
  have i2 := numR_lt l p1 b1
  have i3 := textR_len l p2 b2
  have i4 := textR_len l p3 b3
  rw [e1] at i1
  rw [e2] at i2
  rw [e3] at i3
  rw [e4] at i4
  simp only at i1 i2 i3 i4
  have E1 := Lib.hid e1
  have E2 := Lib.hid e2
  have E3 := Lib.hid e3
  have E4 := Lib.hid e4
  have HTOK := Lib.hid htok
  clear e1 e2 e3 e4 htok
  go_wp2_with fail
  refine (rnumber_any _ rb _ l 0 false P2 (by omega)).mono ?_
  rintro e w3 ⟨rfl, P3, hb3⟩
  rw [E1.out] at P3 ⊢
  simp only at P3 ⊢
  have K3 := K2.below hb3 hlt
  have hW3 := hW2.trans (hb3.mono (Nat.le_of_lt hlt))
  clear hb3 K2 hW2 P2
  go_wp2_with fail
  refine (rnumber_any _ rb _ l p1 b1 P3 (by omega)).mono ?_
  rintro e w4 ⟨rfl, P4, hb4⟩
  rw [E2.out] at P4 ⊢
  simp only at P4 ⊢
  have K4 := K3.below hb4 hlt
  have hW4 := hW3.trans (hb4.mono (Nat.le_of_lt hlt))
  clear hb4 K3 hW3 P3
  go_wp2_with fail
  refine (rtext_any _ rb _ l p2 b2 P4 (by omega)).mono ?_
  rintro e w5 ⟨rfl, P5, hb5⟩
  rw [E3.out] at P5 ⊢
  simp only at P5 ⊢
  have K5 := K4.below hb5 hlt
  have hW5 := hW4.trans (hb5.mono (Nat.le_of_lt hlt))
  clear hb5 K4 hW4 P4
  go_wp2_with fail
  refine (rtext_any _ rb _ l p3 b3 P5 (by omega)).mono ?_
  rintro e w6 ⟨rfl, P6, hb6⟩
  rw [E4.out] at P6 ⊢
  simp only at P6 ⊢
  have K6 := K5.below hb6 hlt
  have hW6 := hW5.trans (hb6.mono (Nat.le_of_lt hlt))
  clear hb6 K5 hW5 P5 P6
  obtain ⟨F, hF⟩ : ∃ F : Int, F = (n1 : Int) := ⟨_, rfl⟩
  obtain ⟨G, hG⟩ : ∃ G : Int, G = (n2 : Int) := ⟨_, rfl⟩
  rw [← hF, ← hG]
  have KN := TK.made w6 u k F G 23
  have hbN := below_alloc w6 (.cells #[str u, .int .i64 F, .int .i64 G, str k] 23)
  have hWN := hW6.trans (hbN.mono hW6.size)
  have K7 := K6.below hbN K6.lt
  have hsz7 := K6.lt
  have CP := Lib.hid (fun W h => print_any u k F G W (by omega) (by omega) (by omega) (by omega) h)
  have HF := Lib.hid hF
  have HG := Lib.hid hG
  clear hF hG
  have HTw := Lib.hid (HTab.out.below hWN (Nat.le_refl _))
  have x0 := KN.c0
  have x1 := KN.c1
  have x2 := KN.c2
  have x3 := KN.c3
  have KNH := Lib.hid KN
  have K7H := Lib.hid K7
  clear KN K7 K6 x0 x1 x2 x3
  have hpp : ∀ e, ParseP s (u, n1, n2, k) e → ParseP s (tokOf l) e := fun e h => by rw [HTOK.out]; exact h
  have HPP := Lib.hid hpp
  clear hpp
  have hF2 : F.toNat = n1 := by have := HF.out; omega
  have hG2 : G.toNat = n2 := by have := HG.out; omega
  by_cases hok : mayB u F G k = true ∧ textT u n1 n2 k = s
  · have hpe : printE u F G k = .returned (.tuple #[str s, .int .i64 0]) := by rw [printE, hok.1, hF2, hG2, hok.2]; rfl
    have HPE := Lib.hid hpe
    have HOK := Lib.hid hok
    clear hpe hok hF2 hG2
    go_wp2_with fail
    refine (CP.out _ HTw.out).mono ?_
    rintro e w8 ⟨rfl, hb8⟩
    rw [HPE.out]
    have K8 := K7H.out.below hb8 K7H.out.lt
    have N8 := KNH.out.below hb8 KNH.out.lt
    have hW8 := hWN.trans (hb8.mono hWN.size)
    have x0 := N8.c0
    have x1 := N8.c1
    have x2 := N8.c2
    have x3 := N8.c3
    have y0 := K8.c0
    have y1 := K8.c1
    have y2 := K8.c2
    have y3 := K8.c3
    have z0 := K8.fr 0
    have z1 := K8.fr 1
    have z2 := K8.fr 2
    have z3 := K8.fr 3
    go_wp2_with fail
    have hN := K8.set4 u k F G
    have hBN := below_set4 hW8 (Nat.le_refl _) (str u) (.int .i64 F) (.int .i64 G) (str k)
    clear x0 x1 x2 x3 y0 y1 y2 y3 z0 z1 z2 z3 K8 N8
    generalize ((((w8.setCell ⟨w.heap.size, 0, none⟩ (str u)).setCell ⟨w.heap.size, 1, none⟩ (.int .i64 F)).setCell ⟨w.heap.size, 2, none⟩ (.int .i64 G)).setCell ⟨w.heap.size, 3, none⟩ (str k)) = w9 at hN hBN ⊢
    have c0 := hN.c0
    have c1 := hN.c1
    have c2 := hN.c2
    have c3 := hN.c3
    refine bodyPost_ret (v := .tuple #[tok u F G k, .int .i64 0]) (by simp [results, Tryd.results10, go_sem, c0, c1, c2, c3]) rfl ⟨hBN, l, HUL.out, HPP.out _ (.inl ⟨?_, HOK.out.2, ?_⟩)⟩
    · show mayB u (n1 : Int) (n2 : Int) k = true
      rw [← HF.out, ← HG.out]; exact HOK.out.1
    · show _ = Ending.returned (.tuple #[tok u (n1 : Int) (n2 : Int) k, .int .i64 0])
      rw [HF.out, HG.out]
  · have HOK := Lib.hid hok
    have hpe : ∃ (X : List UInt8) (E : Int), printE u F G k = .returned (.tuple #[str X, .int .i64 E]) ∧ (E = 4 ∨ (E = 0 ∧ (X == s) = false)) := by
      cases hm : mayB u F G k
      · exact ⟨[], 4, by rw [printE, hm]; rfl, .inl rfl⟩
      · refine ⟨textT u n1 n2 k, 0, by rw [printE, hm, hF2, hG2]; rfl, .inr ⟨rfl, ?_⟩⟩
        rw [beq_eq_false_iff_ne]
        exact fun h => hok ⟨hm, h⟩
    obtain ⟨X, E, hpe, hE⟩ := hpe
    have HPE := Lib.hid hpe
    clear hpe hok hF2 hG2
    rcases hE with rfl | ⟨rfl, hne⟩
    all_goals
      go_wp2_with fail
      refine (CP.out _ HTw.out).mono ?_
      rintro e w8 ⟨rfl, hb8⟩
      rw [HPE.out]
      have K8 := K7H.out.below hb8 K7H.out.lt
      have N8 := KNH.out.below hb8 KNH.out.lt
      have hW8 := hWN.trans (hb8.mono hWN.size)
      have x0 := N8.c0
      have x1 := N8.c1
      have x2 := N8.c2
      have x3 := N8.c3
      have y0 := K8.c0
      have y1 := K8.c1
      have y2 := K8.c2
      have y3 := K8.c3
      have z0 := K8.fr 0
      have z1 := K8.fr 1
      have z2 := K8.fr 2
      have z3 := K8.fr 3
      go_wp2_with fail
      have hN := K8.set4 [] [] 0 0
      have hBN := below_set4 hW8 (Nat.le_refl _) (str []) (.int .i64 0) (.int .i64 0) (str [])
      clear x0 x1 x2 x3 y0 y1 y2 y3 z0 z1 z2 z3 K8 N8
      generalize ((((w8.setCell ⟨w.heap.size, 0, none⟩ (str [])).setCell ⟨w.heap.size, 1, none⟩ (.int .i64 0)).setCell ⟨w.heap.size, 2, none⟩ (.int .i64 0)).setCell ⟨w.heap.size, 3, none⟩ (str [])) = w9 at hN hBN ⊢
      have c0 := hN.c0
      have c1 := hN.c1
      have c2 := hN.c2
      have c3 := hN.c3
      refine bodyPost_ret (v := .tuple #[tok [] 0 0 [], .int .i64 14]) (by simp [results, Tryd.results10, go_sem, c0, c1, c2, c3]) rfl ⟨hBN, l, HUL.out, HPP.out _ (.inr ⟨?_, rfl⟩)⟩
      show ¬ (mayB u (n1 : Int) (n2 : Int) k = true ∧ textT u n1 n2 k = s)
      rw [← HF.out, ← HG.out]; exact HOK.out
end Go.Proofs.YtfibplegbaanmaaDoor
