/- Layer 22: the statements' first look, plain; unlike tokens have unlike texts. -/
import Derived.Test.YtfibplegbaanmaaDoorPrint
import Derived.Test.YtfibplegbaanmaaDoorVarMath
namespace Go.Proofs.YtfibplegbaanmaaDoor
open Go.RowKit

theorem str_of (s : ByteArray) : ∃ l : List UInt8, s = ⟨l.toArray⟩ := ⟨s.data.toList, by cases s; rfl⟩
theorem str_cut (t : List UInt8) (p n : Nat) : (ByteArray.mk t.toArray).extract p n = ByteArray.mk ((t.drop p).take (n - p)).toArray := by
  apply ByteArray.ext
  simp [ByteArray.data_extract, List.extract_toArray]
theorem below_undrew {B : Nat} {w w' : World} (h : Below B w.drew w') : Below B w w' := ⟨h.os, h.tape, h.output, h.size, h.block⟩

theorem hexL_app (a b : List UInt8) : hexL (a ++ b) = hexL a ++ hexL b := by simp [hexL]
theorem hexS_inj : ∀ a b : Fin 16, hexS a.val = hexS b.val → a = b := by decide
theorem hexL_inj : ∀ a b : List UInt8, hexL a = hexL b → a = b
  | [], [], _ => rfl
  | [], c :: t, h => by have := congrArg List.length h; rw [hexL_length, hexL_length] at this; simp at this
  | c :: t, [], h => by have := congrArg List.length h; rw [hexL_length, hexL_length] at this; simp at this
  | c :: t, d :: u, h => by
    have h' : hexS (c.toNat / 16) :: hexS (c.toNat % 16) :: hexL t = hexS (d.toNat / 16) :: hexS (d.toNat % 16) :: hexL u := h
    simp only [List.cons.injEq] at h'
    obtain ⟨h1, h2, h3⟩ := h'
    have hc := c.toNat_lt
    have hd := d.toNat_lt
    have e1 := hexS_inj ⟨c.toNat / 16, by omega⟩ ⟨d.toNat / 16, by omega⟩ h1
    have e2 := hexS_inj ⟨c.toNat % 16, by omega⟩ ⟨d.toNat % 16, by omega⟩ h2
    simp only [Fin.mk.injEq] at e1 e2
    rw [hexL_inj t u h3, UInt8.toNat_inj.1 (show c.toNat = d.toNat by omega)]
theorem hexS_dig : ∀ m : Fin 16, (48 ≤ (hexS m.val).toNat ∧ (hexS m.val).toNat ≤ 57) ∨ (97 ≤ (hexS m.val).toNat ∧ (hexS m.val).toNat ≤ 102) := by decide
theorem hexL_dig (l : List UInt8) : ∀ b ∈ hexL l, (48 ≤ b.toNat ∧ b.toNat ≤ 57) ∨ (97 ≤ b.toNat ∧ b.toNat ≤ 102) := by
  intro b hb
  simp only [hexL, List.mem_flatMap, List.mem_cons, List.not_mem_nil, or_false] at hb
  obtain ⟨c, _, hb⟩ := hb
  have hc := c.toNat_lt
  rcases hb with rfl | rfl
  · exact hexS_dig ⟨c.toNat / 16, by omega⟩
  · exact hexS_dig ⟨c.toNat % 16, by omega⟩
theorem varL_cat (a b : Nat) (x y : List UInt8) (ha : a ≤ 72057594037927935) (hb : b ≤ 72057594037927935) (h : varL a ++ x = varL b ++ y) : a = b ∧ x = y := by
  have la : (varL a).length ≤ 8 := varL_len 7 a (by omega)
  have lb : (varL b).length ≤ 8 := varL_len 7 b (by omega)
  have key : a = b := by
    rcases Nat.le_total (varL a).length (varL b).length with hl | hl
    · apply varL_prefix a b la lb
      have := congrArg (List.take (varL a).length) h
      rw [List.take_left, List.take_append_of_le_length hl] at this
      exact this.symm
    · apply Eq.symm
      apply varL_prefix b a lb la
      have := congrArg (List.take (varL b).length) h
      rw [List.take_left, List.take_append_of_le_length hl] at this
      exact this
  subst key
  exact ⟨rfl, List.append_cancel_left h⟩
theorem body_inj {u u2 k k2 : List UInt8} {f f2 t t2 : Nat} (hf : f ≤ 72057594037927935) (hf2 : f2 ≤ 72057594037927935) (ht : t ≤ 72057594037927935) (ht2 : t2 ≤ 72057594037927935) (hu : u.length ≤ 1000) (hu2 : u2.length ≤ 1000) (hk : k.length ≤ 1000) (hk2 : k2.length ≤ 1000)
    (h : bodyT u f t k = bodyT u2 f2 t2 k2) : u = u2 ∧ f = f2 ∧ t = t2 ∧ k = k2 := by
  unfold bodyT at h
  simp only [List.append_assoc] at h
  obtain ⟨e1, h⟩ := varL_cat _ _ _ _ hf hf2 h
  obtain ⟨e2, h⟩ := varL_cat _ _ _ _ ht ht2 h
  obtain ⟨e3, h⟩ := varL_cat _ _ _ _ (by omega) (by omega) h
  obtain ⟨e4, h⟩ := List.append_inj h e3
  obtain ⟨e5, h⟩ := varL_cat _ _ _ _ (by omega) (by omega) h
  exact ⟨e4, e1, e2, h⟩
theorem text_inj {u u2 k k2 : List UInt8} {f f2 t t2 : Nat} (hf : f ≤ 72057594037927935) (hf2 : f2 ≤ 72057594037927935) (ht : t ≤ 72057594037927935) (ht2 : t2 ≤ 72057594037927935) (hu : u.length ≤ 1000) (hu2 : u2.length ≤ 1000) (hk : k.length ≤ 1000) (hk2 : k2.length ≤ 1000)
    (h : textT u f t k = textT u2 f2 t2 k2) : u = u2 ∧ f = f2 ∧ t = t2 ∧ k = k2 := by
  have h1 := hexL_inj _ _ h
  have h2 := (List.append_inj' h1 (by rw [putL_length, putL_length])).1
  exact body_inj hf hf2 ht ht2 hu hu2 hk hk2 h2

theorem first_text : ∃ x : List UInt8, printE [117] 0 0 [] = .returned (.tuple #[str x, .int .i64 0]) ∧ x.length = 18 ∧ (x.drop 0).take (10 - 0) = [48, 48, 48, 48, 48, 49, 55, 53, 48, 48] := by
  have hm : mayB [117] 0 0 [] = true := by decide
  have hb : bodyT [117] 0 0 [] = [0, 0, 1, 117, 0] := by
    unfold bodyT
    rw [show ([117] : List UInt8).length = 1 from rfl, show ([] : List UInt8).length = 0 from rfl, varL_small 0 (by omega), varL_small 1 (by omega)]
    rfl
  refine ⟨textT [117] 0 0 [], by rw [printE, hm]; rfl, ?_, ?_⟩
  · unfold textT
    rw [hb, hexL_length, List.length_append, putL_length]; rfl
  · unfold textT
    rw [hb, hexL_app, List.drop_zero, List.take_append_of_le_length (by rw [hexL_length]; decide)]
    decide
theorem kfirst_any (w : World) (hT : Tab w) : Calls Tryd.prog 6 #[] w fun e w' => e = .returned (.bool true) ∧ Below w.heap.size w w' := by
  obtain ⟨x, hx, hl, hc⟩ := first_text
  have hp := print_any [117] [] 0 0 w (by decide) (by decide) (by decide) (by decide) hT
  rw [hx] at hp
  have hcut : (ByteArray.mk x.toArray).extract 0 10 = ByteArray.mk [48, 48, 48, 48, 48, 49, 55, 53, 48, 48].toArray := by rw [str_cut, hc]
  have HP := Lib.hid hp
  clear hx hc hp hT
  go_enter Tryd.func6, Tryd.ntmps6
  go_wp2_with fail
  refine (HP.out).mono ?_
  rintro e w1 ⟨rfl, hb1⟩
  go_wp2_with fail
  go_ret
  exact ⟨rfl, hb1⟩

theorem plain_any (u k : List UInt8) (f t : Int) (w : World) : Calls Tryd.prog 8 #[tok u f t k] w fun e w' => e = .returned (tok u f t k) ∧ Below w.heap.size w w' := by
  go_enter Tryd.func8, Tryd.ntmps8
  go_wp2_with fail
  refine bodyPost_ret (v := tok u f t k) (by simp [results, Tryd.results8, go_sem]) rfl ⟨rfl, ?_⟩
  exact ((Below.refl _ _).alloc (Nat.le_refl _) _).alloc (by simp) _
end Go.Proofs.YtfibplegbaanmaaDoor
