import Derived.Test.YtegblhmcfemfgaaGreatDoorJPar
import Derived.Lib.ItoaNum
namespace Go.Proofs.YtegblhmcfemfgaaGreatDoor
open Go.RowKit
def dvF : List UInt8 → Nat → Nat
 | [], n => n
 | c :: t, n => dvF t (10 * n + (c.toNat - 48))
theorem dvF_ge : ∀ (l : List UInt8) (n : Nat), n ≤ dvF l n
 | [], n => Nat.le_refl _
 | c :: t, n => by
   rw [dvF]
   have := dvF_ge t (10 * n + (c.toNat - 48))
   omega
theorem dvF_app : ∀ (l : List UInt8) (c : UInt8) (n : Nat), dvF (l ++ [c]) n = 10 * dvF l n + (c.toNat - 48)
 | [], c, n => rfl
 | x :: t, c, n => by
   simp only [List.cons_append, dvF]
   exact dvF_app t c _
theorem capF_dv : ∀ (l : List UInt8) (n : Nat), (dvF l n ≤ 9007199254740991 → capF l n = dvF l n) ∧ (9007199254740991 < dvF l n → 9007199254740991 < capF l n)
 | [], n => ⟨fun _ => rfl, fun h => h⟩
 | c :: t, n => by
   rw [capF, dvF]
   by_cases h : n ≤ 9007199254740991
   · rw [if_pos h]
     exact capF_dv t _
   rw [if_neg h]
   have h1 := dvF_ge t (10 * n + (c.toNat - 48))
   refine ⟨fun h2 => by omega, fun _ => ?_⟩
   have h2 := dvF_ge t n
   exact (capF_dv t n).2 (by omega)
theorem dg_byte (k : Nat) (h : k < 10) : (UInt8.ofNat (48 + k)).toNat = 48 + k := by rw [UInt8.toNat_ofNat']; omega
theorem dgJ_byte (k : Nat) (h : k < 10) : dgJ (UInt8.ofNat (48 + k)) = true := by
 unfold dgJ
 rw [dg_byte k h]
 simp; omega
theorem dec_dv : ∀ (u : Nat), dvF (Lib.decDigits u) 0 = u := by
 intro u
 induction u using Nat.strongRecOn with
 | ind u ih =>
  by_cases h : u < 10
  · rw [Lib.decDigits_one h]
    simp only [dvF, dg_byte u h]
    omega
  rw [Lib.decDigits, dif_neg h, dvF_app, ih (u / 10) (by omega), dg_byte _ (by omega)]
  omega
theorem dec_dg : ∀ (u : Nat), ∀ c ∈ Lib.decDigits u, dgJ c = true := by
 intro u
 induction u using Nat.strongRecOn with
 | ind u ih =>
  by_cases h : u < 10
  · rw [Lib.decDigits_one h]
    intro c hc
    rw [List.mem_singleton] at hc
    rw [hc]
    exact dgJ_byte u h
  rw [Lib.decDigits, dif_neg h]
  intro c hc
  rcases List.mem_append.1 hc with hc | hc
  · exact ih (u / 10) (by omega) c hc
  rw [List.mem_singleton] at hc
  rw [hc]
  exact dgJ_byte _ (by omega)
theorem dec_ne (u : Nat) : 0 < (Lib.decDigits u).length := by
 rw [Lib.decDigits_length]
 exact Lib.nDigits_pos u
theorem dec_zero : ∀ (u : Nat), (Lib.decDigits u)[0]? = some 48 → (Lib.decDigits u).length = 1 := by
 intro u
 induction u using Nat.strongRecOn with
 | ind u ih =>
  by_cases h : u < 10
  · rw [Lib.decDigits_one h]
    intro _; rfl
  rw [Lib.decDigits, dif_neg h]
  intro h2
  have hp := dec_ne (u / 10)
  rw [List.getElem?_append_left hp] at h2
  have h3 := ih (u / 10) (by omega) h2
  exfalso
  have h4 := dec_dv (u / 10)
  obtain ⟨c, hc⟩ := List.length_eq_one_iff.1 h3
  rw [hc] at h2 h4
  simp only [List.getElem?_cons_zero, Option.some.injEq] at h2
  subst h2
  simp [dvF] at h4
  omega
theorem dgs_all : ∀ (l rest : List UInt8), (∀ c ∈ l, dgJ c = true) → (∀ c, rest.head? = some c → dgJ c = false) → dgs (l ++ rest) = l
 | [], [], _, _ => rfl
 | [], c :: t, _, h => by
   have := h c rfl
   simp [dgs, this]
 | c :: t, rest, h1, h2 => by
   simp only [List.cons_append, dgs]
   rw [if_pos (h1 c (by simp)), dgs_all t rest (fun x hx => h1 x (by simp [hx])) h2]
def stopB : List UInt8 → Bool
 | [] => true
 | c :: _ => !dgJ c && !(c == 46) && !(c == 101) && !(c == 69)
theorem stop_head {rest : List UInt8} (h : stopB rest = true) : ∀ c, rest.head? = some c → dgJ c = false ∧ c ≠ 46 ∧ c ≠ 101 ∧ c ≠ 69 := by
 intro c hc
 cases rest with
 | nil => cases hc
 | cons d t =>
  simp only [List.head?_cons, Option.some.injEq] at hc
  subst hc
  simpa [stopB, and_assoc] using h
theorem digP_pr (pre rest : List UInt8) (sg : Int) (u : Nat) (hs : stopB rest = true) :
 digP (pre ++ (Lib.decDigits u ++ rest)) sg pre.length = if 9007199254740991 < u then .err 1 else .ok (sg * (u : Int)) (pre.length + (Lib.decDigits u).length) := by
 have hst := stop_head hs
 have hd : dgs ((pre ++ (Lib.decDigits u ++ rest)).drop pre.length) = Lib.decDigits u := by
  rw [List.drop_left]
  exact dgs_all _ _ (dec_dg u) (fun c hc => (hst c hc).1)
 have hp := dec_ne u
 unfold digP
 rw [hd]
 rw [if_neg (by rw [List.length_append, List.length_append]; omega), if_neg, if_neg]
 · have hc := capF_dv (Lib.decDigits u) 0
   rw [dec_dv] at hc
   by_cases h : 9007199254740991 < u
   · rw [if_pos h, if_pos (hc.2 h)]
   rw [if_neg h, hc.1 (by omega), if_neg h]
 · rintro ⟨c, h1, h2⟩
   rw [List.getElem?_append_right (by omega), List.getElem?_append_right (by omega)] at h1
   have e : pre.length + (Lib.decDigits u).length - pre.length - (Lib.decDigits u).length = 0 := by omega
   rw [e] at h1
   have := hst c (by rw [List.head?_eq_getElem?]; exact h1)
   rcases h2 with h2 | h2 | h2
   · exact this.2.1 h2
   · exact this.2.2.1 h2
   exact this.2.2.2 h2
 rintro (h | ⟨h1, h2⟩)
 · omega
 rw [List.getElem?_append_right (Nat.le_refl _), Nat.sub_self, List.getElem?_append_left hp] at h1
 have := dec_zero u h1
 omega
theorem numP_pr (pre rest : List UInt8) (n : Int) (hs : stopB rest = true) :
 numP (pre ++ (Lib.itoa n ++ rest)) pre.length = if 9007199254740991 < n ∨ n < -9007199254740991 then .err 1 else .ok n (pre.length + (Lib.itoa n).length) := by
 unfold numP Lib.itoa
 by_cases h : n < 0
 · rw [if_pos h]
   have e : (pre ++ (45 :: Lib.decDigits n.natAbs ++ rest))[pre.length]? = some 45 := by
    rw [List.getElem?_append_right (Nat.le_refl _), Nat.sub_self]; rfl
   rw [if_pos e]
   have := digP_pr (pre ++ [45]) rest (-1) n.natAbs hs
   rw [List.append_assoc, List.length_append] at this
   simp only [List.nil_append, List.length_singleton, List.cons_append] at this ⊢
   rw [this]
   by_cases h2 : 9007199254740991 < n.natAbs
   · rw [if_pos h2, if_pos (by omega)]
   rw [if_neg h2, if_neg (by omega)]
   congr 1
   · omega
   simp; omega
 rw [if_neg h]
 have hp := dec_ne n.toNat
 have e : ¬ (pre ++ (Lib.decDigits n.toNat ++ rest))[pre.length]? = some 45 := by
  rw [List.getElem?_append_right (Nat.le_refl _), Nat.sub_self, List.getElem?_append_left hp, List.getElem?_eq_getElem hp]
  intro h2
  have := dec_dg n.toNat _ (List.getElem_mem hp)
  rw [Option.some.inj h2] at this
  exact absurd this (by decide)
 rw [if_neg e, digP_pr pre rest 1 n.toNat hs]
 by_cases h2 : 9007199254740991 < n.toNat
 · rw [if_pos h2, if_pos (by omega)]
 rw [if_neg h2, if_neg (by omega)]
 congr 1
 omega
def txF (s : List UInt8) : Bool := decide (s.length ≤ 8000) && validB s
def fitV (k n : Int) (s : List UInt8) (l m : Nat) : Bool :=
 (decide (k = 4) || decide (n = 0)) && decide (-9007199254740991 ≤ n) && decide (n ≤ 9007199254740991) && (decide (k = 5) || decide (s = [])) && txF s && (decide (k = 6) || decide (l = 0)) && (decide (k = 7) || decide (m = 0))
def aftB (p : Option (List UInt8)) (nm : List UInt8) : Bool := match p with
 | none => true
 | some q => Op.bytesLess q nm
mutual
def mayV : JV → Nat → Bool
 | .mk k n s l m, d => decide (0 < d) && decide (1 ≤ k) && decide (k ≤ 7) && fitV k n s l.length m.length && mayL l (d - 1) && mayM m none (d - 1)
def mayL : List JV → Nat → Bool
 | [], _ => true
 | v :: t, d => mayV v d && mayL t d
def mayM : List (List UInt8 × JV) → Option (List UInt8) → Nat → Bool
 | [], _, _ => true
 | (nm, v) :: t, p, d => aftB p nm && txF nm && mayV v d && mayM t (some nm) d
end
def quo (s : List UInt8) : List UInt8 := 34 :: qbL s ++ [34]
mutual
def prV : JV → List UInt8
 | .mk k n s l m => if k = 1 then [110, 117, 108, 108] else if k = 2 then [102, 97, 108, 115, 101] else if k = 3 then [116, 114, 117, 101] else if k = 4 then Lib.itoa n else if k = 5 then quo s else if k = 6 then 91 :: ((prT l).drop 1 ++ [93]) else 123 :: ((prU m).drop 1 ++ [125])
def prT : List JV → List UInt8
 | [] => []
 | v :: t => 44 :: (prV v ++ prT t)
def prU : List (List UInt8 × JV) → List UInt8
 | [] => []
 | (nm, v) :: t => 44 :: (quo nm ++ 58 :: (prV v ++ prU t))
end
theorem JV.ind {P : JV → Prop} (h : ∀ v : JV, (∀ x ∈ v.l, P x) → (∀ x ∈ v.m, P x.2) → P v) : ∀ v, P v := by
 intro v
 have key : ∀ n : Nat, ∀ v : JV, SizeOf.sizeOf v ≤ n → P v := by
  intro n
  induction n with
  | zero => intro v hv; cases v; simp at hv
  | succ n ih =>
   intro v hv
   refine h v (fun x hx => ih x ?_) (fun x hx => ih x.2 ?_)
   · cases v with
     | mk k m s l o =>
      have := List.sizeOf_lt_of_mem (show x ∈ l from hx)
      simp at hv
      omega
   cases v with
   | mk k m s l o =>
    have := List.sizeOf_lt_of_mem (show x ∈ o from hx)
    obtain ⟨a, b⟩ := x
    simp at hv this
    show SizeOf.sizeOf b ≤ n
    omega
 exact key _ v (Nat.le_refl _)
end Go.Proofs.YtegblhmcfemfgaaGreatDoor
