import Derived.Test.YtegblhmcfemfgaaGreatDoorJPrn
import Derived.Test.YtegblhmcfemfgaaGreatDoorJParM
import Derived.Deep.CutRange
import Derived.Deep.CutBlock
namespace Go.Proofs.YtegblhmcfemfgaaGreatDoor
open Go.RowKit
mutual
def cntV : JV → Int → Nat → Int
 | .mk _ _ s l o, n, d => if d = 0 then 0 else cntM o (cntL l (n - 1 - min (s.length : Int) 1048576) d) d
def cntL : List JV → Int → Nat → Int
 | [], n, _ => n
 | v :: t, n, d => if 0 < n then cntL t (cntV v n (d - 1)) d else n
def cntM : List (List UInt8 × JV) → Int → Nat → Int
 | [], n, _ => n
 | (nm, v) :: t, n, d => if 0 < n then cntM t (cntV v (n - min (nm.length : Int) 1048576) (d - 1)) d else n
end
mutual
def szV : JV → Nat
 | .mk _ _ s l o => 1 + s.length + szL l + szM o
def szL : List JV → Nat
 | [] => 0
 | v :: t => szV v + szL t
def szM : List (List UInt8 × JV) → Nat
 | [] => 0
 | (nm, v) :: t => nm.length + szV v + szM t
end
mutual
theorem cntV_pos : ∀ (v : JV) (n : Int) (d : Nat), n ≤ 1000000 → 0 < cntV v n d → 0 < n ∧ cntV v n d = n - szV v
 | .mk k m s l o, n, d, hn, h => by
   rw [cntV] at h ⊢
   by_cases hd : d = 0
   · rw [if_pos hd] at h; omega
   rw [if_neg hd] at h ⊢
   have h1 := cntM_pos o _ d ?_ h
   · have h2 := cntL_pos l _ d (by omega) h1.1
     rw [h1.2, h2.2, szV]
     have := h2.1
     omega
   by_cases hc : 0 < cntL l (n - 1 - min (s.length : Int) 1048576) d
   · have h2 := cntL_pos l _ d (by omega) hc
     omega
   omega
theorem cntL_pos : ∀ (l : List JV) (n : Int) (d : Nat), n ≤ 1000000 → 0 < cntL l n d → 0 < n ∧ cntL l n d = n - szL l
 | [], n, d, _, h => by rw [cntL] at h ⊢; rw [szL]; omega
 | v :: t, n, d, hn, h => by
   rw [cntL] at h ⊢
   by_cases h0 : 0 < n
   · rw [if_pos h0] at h ⊢
     have h1 := cntL_pos t _ d ?_ h
     · have h2 := cntV_pos v n (d - 1) hn h1.1
       rw [h1.2, h2.2, szL]
       omega
     by_cases hc : 0 < cntV v n (d - 1)
     · have := cntV_pos v n (d - 1) hn hc
       omega
     omega
   rw [if_neg h0] at h; omega
theorem cntM_pos : ∀ (l : List MemT) (n : Int) (d : Nat), n ≤ 1000000 → 0 < cntM l n d → 0 < n ∧ cntM l n d = n - szM l
 | [], n, d, _, h => by rw [cntM] at h ⊢; rw [szM]; omega
 | (nm, v) :: t, n, d, hn, h => by
   rw [cntM] at h ⊢
   by_cases h0 : 0 < n
   · rw [if_pos h0] at h ⊢
     have h1 := cntM_pos t _ d ?_ h
     · have h2 := cntV_pos v (n - min (nm.length : Int) 1048576) (d - 1) (by omega) h1.1
       rw [h1.2, h2.2, szM]
       have := h2.1
       omega
     by_cases hc : 0 < cntV v (n - min (nm.length : Int) 1048576) (d - 1)
     · have := cntV_pos v (n - min (nm.length : Int) 1048576) (d - 1) (by omega) hc
       omega
     omega
   rw [if_neg h0] at h; omega
end
mutual
theorem cntV_lo : ∀ (v : JV) (n : Int) (d : Nat), -1048576 ≤ n → n ≤ 1000000 → -4194304 ≤ cntV v n d ∧ cntV v n d ≤ 1000000
 | .mk k m s l o, n, d, h1, h2 => by
   rw [cntV]
   split
   · omega
   have h3 := cntL_lo l (n - 1 - min (s.length : Int) 1048576) d (by omega) (by omega)
   exact cntM_lo o _ d h3.1 h3.2
theorem cntL_lo : ∀ (l : List JV) (n : Int) (d : Nat), -4194304 ≤ n → n ≤ 1000000 → -4194304 ≤ cntL l n d ∧ cntL l n d ≤ 1000000
 | [], n, d, h1, h2 => by rw [cntL]; omega
 | v :: t, n, d, h1, h2 => by
   rw [cntL]
   split
   · have h3 := cntV_lo v n (d - 1) (by omega) (by omega)
     exact cntL_lo t _ d h3.1 h3.2
   omega
theorem cntM_lo : ∀ (l : List MemT) (n : Int) (d : Nat), -4194304 ≤ n → n ≤ 1000000 → -4194304 ≤ cntM l n d ∧ cntM l n d ≤ 1000000
 | [], n, d, h1, h2 => by rw [cntM]; omega
 | (nm, v) :: t, n, d, h1, h2 => by
   rw [cntM]
   split
   · have h3 := cntV_lo v (n - min (nm.length : Int) 1048576) (d - 1) (by omega) (by omega)
     exact cntM_lo t _ d h3.1 h3.2
   omega
end
mutual
theorem prV_len : ∀ (v : JV) (d : Nat), mayV v d = true → (prV v).length + 5 ≤ 30 * szV v
 | .mk k n s l m, d, h => by
   simp only [mayV, fitV, Bool.and_eq_true, decide_eq_true_eq] at h
   obtain ⟨⟨⟨⟨⟨hd, hk1⟩, hk7⟩, ⟨⟨⟨⟨⟨⟨hn, hn1⟩, hn2⟩, hS⟩, ht⟩, hl⟩, hm⟩⟩, hL⟩, hM⟩ := h
   have hk : k = 1 ∨ k = 2 ∨ k = 3 ∨ k = 4 ∨ k = 5 ∨ k = 6 ∨ k = 7 := by omega
   rw [szV]
   rcases hk with rfl | rfl | rfl | rfl | rfl | rfl | rfl
   · show 4 + 5 ≤ _; omega
   · show 5 + 5 ≤ _; omega
   · show 4 + 5 ≤ _; omega
   · show (Lib.itoa n).length + 5 ≤ _
     have := itoa_len (n := n) (by omega)
     omega
   · show (quo s).length + 5 ≤ _
     have := qbL_len s
     simp only [quo, List.length_cons, List.length_append, List.length_nil]
     omega
   · show (91 :: ((prT l).drop 1 ++ [93])).length + 5 ≤ _
     have := prT_len l (d - 1) hL
     simp only [List.length_cons, List.length_append, List.length_nil, List.length_drop]
     omega
   show (123 :: ((prU m).drop 1 ++ [125])).length + 5 ≤ _
   have := prU_len m none (d - 1) hM
   simp only [List.length_cons, List.length_append, List.length_nil, List.length_drop]
   omega
theorem prT_len : ∀ (l : List JV) (d : Nat), mayL l d = true → (prT l).length ≤ 30 * szL l
 | [], _, _ => by simp [prT]
 | v :: t, d, h => by
   rw [mayL, Bool.and_eq_true] at h
   have h1 := prV_len v d h.1
   have h2 := prT_len t d h.2
   rw [prT, szL]
   simp only [List.length_cons, List.length_append]
   omega
theorem prU_len : ∀ (l : List MemT) (p : Option (List UInt8)) (d : Nat), mayM l p d = true → (prU l).length ≤ 30 * szM l
 | [], _, _, _ => by simp [prU]
 | (nm, v) :: t, p, d, h => by
   simp only [mayM, Bool.and_eq_true] at h
   have h1 := prV_len v d h.1.2
   have h2 := prU_len t (some nm) d h.2
   have h3 := qbL_len nm
   rw [prU, szM]
   simp only [quo, List.length_cons, List.length_append, List.length_nil]
   omega
end
end Go.Proofs.YtegblhmcfemfgaaGreatDoor
