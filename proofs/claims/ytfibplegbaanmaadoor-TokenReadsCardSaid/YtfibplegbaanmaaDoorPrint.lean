/- token.Print by its contract, and the statements' first look. -/
import Derived.Test.YtfibplegbaanmaaDoorToken
namespace Go.Proofs.YtfibplegbaanmaaDoor
open Go.RowKit

/-- A token in block b. -/
def TK (w : World) (b : Nat) (u : List UInt8) (f t : Int) (k : List UInt8) : Prop := ∃ T, w.heap[b]? = some (.cells #[str u, .int .i64 f, .int .i64 t, str k] T (0, 0))
theorem TK.made (w : World) (u k : List UInt8) (f t : Int) (T : TypeId) : TK (w.alloc (.cells #[str u, .int .i64 f, .int .i64 t, str k] T)) w.heap.size u f t k := ⟨T, heap_alloc_new w _⟩
theorem TK.lt {w : World} {b : Nat} {u k : List UInt8} {f t : Int} (h : TK w b u f t k) : b < w.heap.size := by
  obtain ⟨T, h⟩ := h
  exact (Array.getElem?_eq_some_iff.1 h).1
theorem TK.c0 {w : World} {b : Nat} {u k : List UInt8} {f t : Int} (h : TK w b u f t k) : w.cell? ⟨b, 0, none⟩ = some (str u) := by
  obtain ⟨T, h⟩ := h; simp [World.cell?, h]
theorem TK.c1 {w : World} {b : Nat} {u k : List UInt8} {f t : Int} (h : TK w b u f t k) : w.cell? ⟨b, 1, none⟩ = some (.int .i64 f) := by
  obtain ⟨T, h⟩ := h; simp [World.cell?, h]
theorem TK.c2 {w : World} {b : Nat} {u k : List UInt8} {f t : Int} (h : TK w b u f t k) : w.cell? ⟨b, 2, none⟩ = some (.int .i64 t) := by
  obtain ⟨T, h⟩ := h; simp [World.cell?, h]
theorem TK.c3 {w : World} {b : Nat} {u k : List UInt8} {f t : Int} (h : TK w b u f t k) : w.cell? ⟨b, 3, none⟩ = some (str k) := by
  obtain ⟨T, h⟩ := h; simp [World.cell?, h]
theorem TK.below {B : Nat} {w w' : World} {b : Nat} {u k : List UInt8} {f t : Int} (h : TK w b u f t k) (hb : Below B w w') (hB : b < B) : TK w' b u f t k := by
  obtain ⟨T, h⟩ := h
  exact ⟨T, by rw [hb.block b hB]; exact h⟩

/-- What is told of a token, and its text. -/
def bodyT (u : List UInt8) (f t : Nat) (k : List UInt8) : List UInt8 := varL f ++ varL t ++ (varL u.length ++ u) ++ (varL k.length ++ k)
def textT (u : List UInt8) (f t : Nat) (k : List UInt8) : List UInt8 := hexL (bodyT u f t k ++ putL (crcN (bodyT u f t k)) 4)
def printE (u : List UInt8) (f t : Int) (k : List UInt8) : Ending := .returned (.tuple #[if mayB u f t k = true then str (textT u f.toNat t.toNat k) else str [], if mayB u f t k = true then .int .i64 0 else .int .i64 4])
theorem mayB_bounds {u k : List UInt8} {f t : Int} (h : mayB u f t k = true) : 0 ≤ f ∧ f ≤ 1099511627776 ∧ 0 ≤ t ∧ t ≤ 1099511627776 ∧ 1 ≤ u.length ∧ u.length ≤ 20 ∧ k.length ≤ 100 := by
  unfold mayB at h
  simp only [Bool.and_eq_true, decide_eq_true_eq] at h
  obtain ⟨⟨h1, h2, h3⟩, h4⟩ := h
  have hn := nameB_len h1
  split at h4
  · next ht =>
    have : k = [] := by simpa using h4
    subst this; subst ht
    simp; omega
  · simp only [Bool.and_eq_true, decide_eq_true_eq] at h4
    omega

set_option maxRecDepth 100000 in
set_option maxHeartbeats 6400000 in
theorem print_any (u k : List UInt8) (f t : Int) (w : World) (hu : u.length ≤ 9223372036854775807) (hk : k.length ≤ 9223372036854775807) (hf : -9223372036854775808 ≤ f ∧ f ≤ 9223372036854775807) (ht : -9223372036854775808 ≤ t ∧ t ≤ 9223372036854775807) (hT : Tab w) :
    Calls Tryd.prog 7 #[tok u f t k] w fun e w' => e = printE u f t k ∧ Below w.heap.size w w' := by
  have HM := Lib.hid (fun W => may_any u k f t W hu hk hf ht)
  have hbx := below_alloc w (.cells #[str u, .int .i64 f, .int .i64 t, str k] 23)
  have htk := TK.made w u k f t 23
  have HTab := Lib.hid hT
  cases hm : mayB u f t k
  · have hv : printE u f t k = .returned (.tuple #[str [], .int .i64 4]) := by rw [printE, hm]; rfl
    have HV := Lib.hid hv
    have HB := Lib.hid hm
    clear hv hm hT
    go_enter Tryd.func7, Tryd.ntmps7
    go_wp2_with fail
    refine (HM.out _).mono ?_
    rintro e w1 ⟨rfl, hb1⟩
    rw [HB.out]
    go_wp2_with fail
    go_ret2
    exact ⟨by rw [HV.out]; rfl, hbx.trans (hb1.mono hbx.size)⟩
  have hv : printE u f t k = .returned (.tuple #[str (textT u f.toNat t.toNat k), .int .i64 0]) := by rw [printE, hm]; rfl
  obtain ⟨b1, b2, b3, b4, b5, b6, b7⟩ := mayB_bounds hm
  obtain ⟨fn, hfn⟩ : ∃ fn : Nat, (fn : Int) = f := ⟨f.toNat, by omega⟩
  obtain ⟨tn, htn⟩ : ∃ tn : Nat, (tn : Int) = t := ⟨t.toNat, by omega⟩
  have hfn2 : f.toNat = fn := by omega
  have htn2 : t.toNat = tn := by omega
  rw [hfn2, htn2] at hv
  have hfb : fn ≤ 72057594037927935 := by omega
  have htb : tn ≤ 72057594037927935 := by omega
  have v1 : (varL fn).length ≤ 8 := varL_len 7 fn (by omega)
  have v2 : (varL tn).length ≤ 8 := varL_len 7 tn (by omega)
  have v3 : (varL u.length).length ≤ 8 := varL_len 7 u.length (by omega)
  have v4 : (varL k.length).length ≤ 8 := varL_len 7 k.length (by omega)
  have HV := Lib.hid hv
  have HB := Lib.hid hm
  have NF := Lib.hid (fun (v : Value) (l : List UInt8) (W : World) (base : Nat) (h : Own 5 W base v l) (h2 : base ≤ W.heap.size) (h3 : l.length ≤ 70368744177664) => (show Calls Tryd.prog 14 #[v, .int .i64 f] W fun e w' => ∃ v', e = .returned v' ∧ Own 5 w' base v' (l ++ varL fn) ∧ Below base W w' by rw [← hfn]; exact number_any v l fn W base h h2 h3 hfb))
  have NT := Lib.hid (fun (v : Value) (l : List UInt8) (W : World) (base : Nat) (h : Own 5 W base v l) (h2 : base ≤ W.heap.size) (h3 : l.length ≤ 70368744177664) => (show Calls Tryd.prog 14 #[v, .int .i64 t] W fun e w' => ∃ v', e = .returned v' ∧ Own 5 w' base v' (l ++ varL tn) ∧ Below base W w' by rw [← htn]; exact number_any v l tn W base h h2 h3 htb))
  clear hv hm hT hfn2 htn2 hfn htn
  go_enter Tryd.func7, Tryd.ntmps7
  go_wp2_with fail
  refine (HM.out _).mono ?_
  rintro e w1 ⟨rfl, hb1⟩
  rw [HB.out]
  have hk1 := htk.below hb1 htk.lt
  have hB1 := hbx.trans (hb1.mono hbx.size)
  obtain ⟨B, hBe⟩ : ∃ B, B = w1.heap.size := ⟨_, rfl⟩
  have hBlt : w.heap.size < B := by rw [hBe]; exact hk1.lt
  have x1 := hk1.c1
  go_wp2_with fail
  refine (NF.out _ [] _ B (Own.nil _ _ _) (by rw [hBe]; exact Nat.le_refl _) (by simp)).mono ?_
  rintro e w2 ⟨v2, rfl, hown2, hb2⟩
  have hk2 := hk1.below hb2 hBlt
  have hB2 := hB1.trans (hb2.mono (Nat.le_of_lt hBlt))
  have hs2 : B ≤ w2.heap.size := by have := hb2.size; omega
  have x2 := hk2.c2
  clear x1
  obtain ⟨ad2, n2, cp2, rfl⟩ : ∃ a n c, v2 = .slice a n c := by
    obtain ⟨a, cap, hv, _⟩ := hown2.rd
    exact ⟨a, _, cap, hv⟩
  go_wp2_with fail
  refine (NT.out _ _ _ B hown2 hs2 (by simp; omega)).mono ?_
  rintro e w3 ⟨v3, rfl, hown3, hb3⟩
  have hk3 := hk2.below hb3 hBlt
  have hB3 := hB2.trans (hb3.mono (Nat.le_of_lt hBlt))
  have hs3 : B ≤ w3.heap.size := by have := hb3.size; omega
  have x3 := hk3.c0
  clear x2
  go_wp2_with fail
  refine (text_any _ _ u _ B hown3 hs3 (by simp; omega) (by omega)).mono ?_
  rintro e w4 ⟨v4, rfl, hown4, hb4⟩
  have hk4 := hk3.below hb4 hBlt
  have hB4 := hB3.trans (hb4.mono (Nat.le_of_lt hBlt))
  have hs4 : B ≤ w4.heap.size := by have := hb4.size; omega
  have x4 := hk4.c3
  clear x3
  go_wp2_with fail
  refine (text_any _ _ k _ B hown4 hs4 (by simp; omega) (by omega)).mono ?_
  rintro e w5 ⟨v5, rfl, hown5, hb5⟩
  have hB5 := hB4.trans (hb5.mono (Nat.le_of_lt hBlt))
  have hs5 : B ≤ w5.heap.size := by have := hb5.size; omega
  clear x4
  simp only [List.nil_append] at hown5
  obtain ⟨bd, hbd⟩ : ∃ bd, bd = bodyT u fn tn k := ⟨_, rfl⟩
  have hown5' : Own 5 w5 B v5 bd := by rw [hbd]; exact hown5
  have hlen : bd.length ≤ 200 := by rw [hbd]; unfold bodyT; simp; omega
  have HBD := Lib.hid hbd
  clear hown5 hbd hown2 hown3 hown4
  have hc := crcN_lt bd
  have hcw : IntKind.i64.wrap ((crcN bd : Nat) : Int) = ((crcN bd : Nat) : Int) := IntWalk.i64_in _ ⟨by omega, by omega⟩
  go_wp2_with fail
  refine (crc_any _ bd _ hown5'.rd (HTab.out.below hB5 (Nat.le_refl _))).mono ?_
  rintro e w6 ⟨rfl, rfl⟩
  obtain ⟨cc, hcc⟩ : ∃ cc, cc = crcN bd := ⟨_, rfl⟩
  rw [← hcc] at hc hcw ⊢
  have HCC := Lib.hid hcc
  clear hcc
  go_wp2_with fail
  refine (put_ok cc 4 _ (by omega) (by omega) (by omega)).mono ?_
  rintro e w7 ⟨v7, rfl, hown7, hb7⟩
  have hown57 := hown5'.below hb7 (Nat.le_refl _)
  have hB7 := hB5.trans (hb7.mono (Nat.le_trans (Nat.le_of_lt hBlt) hs5))
  have hs7 : B ≤ w7.heap.size := by have := hb7.size; omega
  have hpl := putL_length cc 4
  go_wp2_with (at_builtin; refine hold ?_)
  intro _
  refine bt.appendS rfl _ _ rfl B _ _ bd (putL cc 4) hown57 hown7.rd rfl rfl (by omega) hs7 ?_
  intro v8 w8 hown8 hg8
  have hB8 := hB7.grown hg8 (Nat.le_trans (Nat.le_of_lt hBlt) hs7) (fun b e => by have := (hown57.base b e).1; omega)
  have hs8 : B ≤ w8.heap.size := by have := hg8.size; omega
  go_wp2_with fail
  refine (hex_any _ _ _ hown8.rd (by simp; omega)).mono ?_
  rintro e w9 ⟨rfl, hb9⟩
  go_wp2_with fail
  go_ret2
  refine ⟨?_, hB8.trans (hb9.mono (Nat.le_trans (Nat.le_of_lt hBlt) hs8))⟩
  rw [HV.out, textT, ← HBD.out, ← HCC.out]
  rfl
end Go.Proofs.YtfibplegbaanmaaDoor
