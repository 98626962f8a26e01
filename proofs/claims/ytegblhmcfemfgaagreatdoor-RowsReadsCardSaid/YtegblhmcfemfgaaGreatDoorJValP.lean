import Derived.Test.YtegblhmcfemfgaaGreatDoorJObj
namespace Go.Proofs.YtegblhmcfemfgaaGreatDoor
open Go.RowKit
theorem entP_ge {t : List UInt8} {c : UInt8} {p : Nat} {d : Bool} {q : Nat} (h : entP t c p = .ok d q) : p < q := by
 unfold entP at h
 have := skp_ge t (p + 1)
 split at h
 · cases h
 split at h
 · cases h; omega
 cases h; omega
theorem itsP_ge {f : Nat → JR JV} {t : List UInt8} (hf : ∀ q v q1, f q = .ok v q1 → q ≤ q1) : ∀ (n p : Nat) (acc l : List JV) (q : Nat), itsP f t n p acc = .ok l q → p ≤ q
 | 0, p, acc, l, q, h => by simp [itsP] at h
 | n + 1, p, acc, l, q, h => by
   rw [itsP] at h
   split at h
   · cases h
   next v q1 h1 =>
   have g1 := hf _ _ _ h1
   split at h
   · cases h
   · next r h2 =>
     have := behP_lt h2
     cases h; omega
   next r h2 =>
   have := behP_lt h2
   have := itsP_ge hf n r _ l q h
   omega
theorem mesP_ge {f : Nat → JR JV} {t : List UInt8} (hf : ∀ q v q1, f q = .ok v q1 → q ≤ q1) : ∀ (n p : Nat) (acc l : List MemT) (q : Nat), mesP f t n p acc = .ok l q → p ≤ q
 | 0, p, acc, l, q, h => by simp [mesP] at h
 | n + 1, p, acc, l, q, h => by
   rw [mesP] at h
   split at h
   · cases h
   next v q1 h1 =>
   obtain ⟨_, p1, v1, hv, hp⟩ := memP_new h1
   have g1 := hf _ _ _ hv
   split at h
   · cases h
   · next r h2 =>
     have := behP_lt h2
     cases h; omega
   next r h2 =>
   have := behP_lt h2
   have := mesP_ge hf n r _ l q h
   omega
theorem lstP_ge {f : Nat → JR JV} {t : List UInt8} (hf : ∀ q v q1, f q = .ok v q1 → q ≤ q1) {p : Nat} {l : List JV} {q : Nat} (h : lstP f t p = .ok l q) : p < q := by
 unfold lstP at h
 split at h
 · cases h
 · next h1 => have := entP_ge h1; cases h; omega
 next h1 =>
 have := entP_ge h1
 have := itsP_ge hf _ _ _ _ _ h
 omega
theorem objP_ge {f : Nat → JR JV} {t : List UInt8} (hf : ∀ q v q1, f q = .ok v q1 → q ≤ q1) {p : Nat} {l : List MemT} {q : Nat} (h : objP f t p = .ok l q) : p < q := by
 unfold objP at h
 split at h
 · cases h
 · next h1 => have := entP_ge h1; cases h; omega
 next h1 =>
 have := entP_ge h1
 split at h
 · cases h
 next h2 =>
 have := mesP_ge hf _ _ _ _ _ h2
 cases h; omega
theorem digP_ge {t : List UInt8} {sg : Int} {p : Nat} {v : Int} {q : Nat} (h : digP t sg p = .ok v q) : p < q := by
 unfold digP at h
 split at h
 · cases h
 split at h
 · cases h
 next h1 =>
 split at h
 · cases h
 split at h
 · cases h
 cases h
 have : (dgs (t.drop p)).length ≠ 0 := fun e => h1 (.inl e)
 omega
theorem numP_ge {t : List UInt8} {p : Nat} {v : Int} {q : Nat} (h : numP t p = .ok v q) : p < q := by
 unfold numP at h
 split at h
 · have := digP_ge h; omega
 exact digP_ge h
theorem casP_ge {lst : Nat → JR (List JV)} {obj : Nat → JR (List MemT)} {t : List UInt8} {c : UInt8} {p : Nat} {v : JV} {q : Nat} (h1 : ∀ l q, lst p = .ok l q → p < q) (h2 : ∀ l q, obj p = .ok l q → p < q) (h : casP lst obj t c p = .ok v q) : p < q := by
 unfold casP at h
 split at h
 · cases hx : lst p with
   | err e => rw [hx] at h; cases h
   | ok l r => rw [hx] at h; cases h; exact h1 _ _ hx
 split at h
 · cases hx : obj p with
   | err e => rw [hx] at h; cases h
   | ok l r => rw [hx] at h; cases h; exact h2 _ _ hx
 split at h
 · cases hx : txtP t p with
   | err e => rw [hx] at h; cases h
   | ok l r => rw [hx] at h; cases h; exact txtP_ge hx
 split at h
 · cases hx : numP t p with
   | err e => rw [hx] at h; cases h
   | ok l r => rw [hx] at h; cases h; exact numP_ge hx
 split at h
 · split at h
   · cases h; omega
   cases h
 split at h
 · split at h
   · cases h; omega
   cases h
 split at h
 · split at h
   · cases h; omega
   cases h
 cases h
theorem valP_ge (t : List UInt8) : ∀ (d p : Nat) (v : JV) (q : Nat), valP t d p = .ok v q → p ≤ q
 | 0, p, v, q, h => by
   rw [valP] at h
   split at h
   · cases h
   split at h <;> cases h
 | d + 1, p, v, q, h => by
   rw [valP] at h
   split at h
   · cases h
   have hs := skp_ge t p
   have := casP_ge (fun l q h => lstP_ge (valP_ge t d) h) (fun l q h => objP_ge (valP_ge t d) h) h
   omega
end Go.Proofs.YtegblhmcfemfgaaGreatDoor
