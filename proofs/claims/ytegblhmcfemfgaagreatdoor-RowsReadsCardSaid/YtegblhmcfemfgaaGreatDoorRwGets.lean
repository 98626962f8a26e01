import Derived.Test.YtegblhmcfemfgaaGreatDoorJCut
import Derived.Test.YtegblhmcfemfgaaGreatDoorJFew
import Derived.Test.YtegblhmcfemfgaaGreatDoorWTake
import Derived.Test.YtegblhmcfemfgaaGreatDoorRwObj
import Derived.Test.YtegblhmcfemfgaaGreatDoorJGet
import Derived.Test.YtegblhmcfemfgaaGreatDoorJStr
import Derived.Test.YtegblhmcfemfgaaGreatDoorJParse
import Derived.Test.YtegblhmcfemfgaaGreatDoorRwIf
namespace Go.Proofs.YtegblhmcfemfgaaGreatDoor
open Go.RowKit
theorem szL_app : ∀ (l : List JV) (v : JV), szL (l ++ [v]) = szL l + szV v
 | [], v => by simp [szL]
 | x :: t, v => by rw [List.cons_append, szL, szL, szL_app t v]; omega
theorem szM_app : ∀ (l : List MemT) (m : MemT), szM (l ++ [m]) = szM l + (m.1.length + szV m.2)
 | [], (a, v) => by simp [szM]
 | (b, x) :: t, m => by rw [List.cons_append, szM, szM, szM_app t m]; omega
theorem szM_perm {l l' : List MemT} (h : l.Perm l') : szM l = szM l' := by
 induction h with
 | nil => rfl
 | cons x _ ih => obtain ⟨a, v⟩ := x; rw [szM, szM, ih]
 | swap x y t => obtain ⟨a, v⟩ := x; obtain ⟨b, u⟩ := y; rw [szM, szM, szM, szM]; omega
 | trans _ _ h1 h2 => exact h1.trans h2
def BdV (f : Nat → JR JV) : Prop := ∀ p v q, f p = .ok v q → szV v + 16000 * p ≤ 16000 * q
theorem its_sz {f : Nat → JR JV} {t : List UInt8} (hf : BdV f) : ∀ (n p : Nat) (acc l : List JV) (q : Nat), itsP f t n p acc = .ok l q → szL l + 16000 * p ≤ szL acc + 16000 * q
 | 0, p, acc, l, q, h => by simp [itsP] at h
 | n + 1, p, acc, l, q, h => by
   rw [itsP] at h
   split at h
   · cases h
   next v q1 h1 =>
   have g1 := hf _ _ _ h1
   split at h
   · cases h
   · next r h2 =>
     have := behP_lt h2
     cases h
     rw [szL_app]; omega
   next r h2 =>
   have := behP_lt h2
   have g2 := its_sz hf n r _ l q h
   rw [szL_app] at g2; omega
theorem mem_sz {f : Nat → JR JV} {t : List UInt8} (hf : BdV f) {ns : List (List UInt8)} {p q : Nat} {m : MemT} (h : memP f t ns p = .ok m q) : m.1.length + szV m.2 + 16000 * p ≤ 16000 * q := by
 unfold memP at h
 split at h
 · cases h
 split at h
 · cases h
 next name q0 hx =>
 have g1 := txtP_ge hx
 have g2 : name.length ≤ 8000 := by
  have := (txtP_le hx).2
  unfold txF at this
  simp only [Bool.and_eq_true, decide_eq_true_eq] at this
  exact this.1
 have g3 := skp_ge t p
 have g4 := skp_ge t q0
 split at h
 · cases h
 split at h
 · cases h
 split at h
 · cases h
 split at h
 · cases h
 next hv =>
 cases h
 have := hf _ _ _ hv
 dsimp only
 omega
theorem mes_sz {f : Nat → JR JV} {t : List UInt8} (hf : BdV f) : ∀ (n p : Nat) (acc l : List MemT) (q : Nat), mesP f t n p acc = .ok l q → szM l + 16000 * p ≤ szM acc + 16000 * q
 | 0, p, acc, l, q, h => by simp [mesP] at h
 | n + 1, p, acc, l, q, h => by
   rw [mesP] at h
   split at h
   · cases h
   next m q1 h1 =>
   have g1 := mem_sz hf h1
   split at h
   · cases h
   · next r h2 =>
     have := behP_lt h2
     cases h
     rw [szM_app]; omega
   next r h2 =>
   have := behP_lt h2
   have g2 := mes_sz hf n r _ l q h
   rw [szM_app] at g2; omega
theorem valP_sz (t : List UInt8) : ∀ (d : Nat), BdV (valP t d)
 | 0, p, v, q, h => by
   rw [valP] at h
   split at h
   · cases h
   split at h <;> cases h
 | d + 1, p, v, q, h => by
   have ih := valP_sz t d
   have hs := skp_ge t p
   have hg : skp t p < q := by
    rw [valP] at h
    split at h
    · cases h
    exact casP_ge (fun l q h => lstP_ge (valP_ge t d) h) (fun l q h => objP_ge (valP_ge t d) h) h
   rw [valP] at h
   split at h
   · cases h
   next c hx =>
   unfold casP at h
   split at h
   · cases hl : lstP (valP t d) t (skp t p) with
     | err z => rw [hl] at h; cases h
     | ok l r =>
      rw [hl] at h
      cases h
      unfold lstP at hl
      rw [szV, szM]
      split at hl
      · cases hl
      · next h1 => have := entP_ge h1; cases hl; simp [szL]; omega
      next h1 =>
      have := entP_ge h1
      have := its_sz ih _ _ _ _ _ hl
      simp only [szL, List.length_nil] at this ⊢
      omega
   split at h
   · cases hl : objP (valP t d) t (skp t p) with
     | err z => rw [hl] at h; cases h
     | ok l r =>
      rw [hl] at h
      cases h
      unfold objP at hl
      rw [szV, szL]
      split at hl
      · cases hl
      · next h1 => have := entP_ge h1; cases hl; simp [szM]; omega
      next h1 =>
      have := entP_ge h1
      split at hl
      · cases hl
      next h2 =>
      have := mes_sz ih _ _ _ _ _ h2
      cases hl
      rw [show szM (srtM _) = szM _ from szM_perm (List.mergeSort_perm _ _)]
      simp only [szM, List.length_nil] at this ⊢
      omega
   split at h
   · cases hl : txtP t (skp t p) with
     | err z => rw [hl] at h; cases h
     | ok l r =>
      rw [hl] at h
      cases h
      have g2 : l.length ≤ 8000 := by
       have := (txtP_le hl).2
       unfold txF at this
       simp only [Bool.and_eq_true, decide_eq_true_eq] at this
       exact this.1
      simp only [szV, szL, szM]
      omega
   split at h
   · cases hl : numP t (skp t p) with
     | err z => rw [hl] at h; cases h
     | ok l r =>
      rw [hl] at h
      cases h
      simp only [szV, szL, szM, List.length_nil]
      omega
   split at h
   · split at h
     · cases h; simp only [szV, szL, szM, List.length_nil]; omega
     cases h
   split at h
   · split at h
     · cases h; simp only [szV, szL, szM, List.length_nil]; omega
     cases h
   split at h
   · split at h
     · cases h; simp only [szV, szL, szM, List.length_nil]; omega
     cases h
   cases h
theorem valP_le (t : List UInt8) {d p : Nat} {v : JV} {q : Nat} (h : valP t d p = .ok v q) : q ≤ t.length := by
 have ihx := valP_app t [] d
 rw [List.append_nil] at ihx
 exact (ihx _ _ _ h).1
end Go.Proofs.YtegblhmcfemfgaaGreatDoor
set_option maxRecDepth 100000
set_option maxHeartbeats 4000000
namespace Go.Proofs.YtegblhmcfemfgaaGreatDoor
open Go.RowKit
def valOf (s : List UInt8) : JV := match parP s with
 | .ok v _ => v
 | .err _ => .mk 0 0 [] [] []
theorem valOf_sz (s : List UInt8) : szV (valOf s) ≤ 1000000000 := by
 unfold valOf
 cases h : parP s with
 | err e => simp [szV, szL, szM]
 | ok v q =>
  dsimp only
  unfold parP at h
  split at h
  · cases h
  split at h
  · cases h
  next hv =>
  split at h
  · cases h
  cases h
  have h1 := valP_sz s 64 _ _ _ hv
  have h2 := valP_le s hv
  omega
def wrdO (v : JV) (nm : List UInt8) : List UInt8 := match getJ v nm with
 | some x => x.s
 | none => []
def nbrO (v : JV) (nm : List UInt8) : Int := match getJ v nm with
 | some x => x.n
 | none => 0
theorem rparse_any (s : List UInt8) (w : World) (hl : s.length ≤ 1000000) : Calls Tryz.prog 33 #[str s] w fun e w' => ∃ cs, e = .returned (.agg cs.toArray) ∧ RdJ w' (fun i => w.heap.size ≤ i) (valOf s) cs ∧ Below w.heap.size w w' := by
 obtain ⟨W1, hW1⟩ : ∃ W1, W1 = w.alloc (.cells #[.int .i64 0, .int .i64 0, .string ⟨#[]⟩, .slice none 0 0, .slice none 0 0] 72) := ⟨_, rfl⟩
 have hb1 : Below w.heap.size w W1 := by rw [hW1]; exact below_alloc _ _
 have hbx : W1.heap[w.heap.size]? = some (.cells #[.int .i64 0, .int .i64 0, str [], .slice none 0 0, .slice none 0 0] 72 (0, 0)) := by rw [hW1]; exact heap_alloc_new _ _
 obtain ⟨cap, w2, hconv, hrd, hb2⟩ := bytes_run s W1 hl
 have CP := Lib.hid (parse_any hrd (by omega))
 have H2 := Lib.hid (And.intro (hb1.trans (hb2.mono hb1.size)) (And.intro (box_up hbx hb2) hb1.size))
 have HS2 : Hid (w.heap.size < w2.heap.size) := Lib.hid (Array.getElem?_eq_some_iff.1 H2.out.2.1).1
 clear hb1 hbx hrd hb2
 go_enter Tryz.func33, Tryz.ntmps33
 go_upto_region 1 with fail
 rw [← hW1]
 clear hW1
 go_wp2_with fail
 cases hp : parP s with
 | err c =>
  have HV : Hid (valOf s = .mk 0 0 [] [] []) := Lib.hid (by unfold valOf; rw [hp])
  rw [hp] at CP
  clear hp
  refine CP.out.mono ?_
  rintro e w3 ⟨rfl, _, hb3⟩
  have hz := box_up (box_up H2.out.2.1 hb3) (below_alloc w3 (.cells #[.int .i64 0, .int .i64 0, .string ⟨#[]⟩, .slice none 0 0, .slice none 0 0] 72))
  have H3 := Lib.hid (And.intro (H2.out.1.trans ((hb3.trans ((below_alloc w3 (.cells #[.int .i64 0, .int .i64 0, .string ⟨#[]⟩, .slice none 0 0, .slice none 0 0] 72)).mono hb3.size)).mono H2.out.1.size)) hz)
  obtain ⟨d0, d1, d2, d3, d4⟩ := box5 hz
  have df := box_fr hz
  clear hb3 hz CP H2 hconv
  go_wp2_with fail
  refine bodyPost_any_world (fun X => X.heap[w.heap.size]? = some (.cells #[.int .i64 0, .int .i64 0, str [], .slice none 0 0, .slice none 0 0] 72 (0, 0)) ∧ Frm (fun i => i = w.heap.size) (w3.alloc (.cells #[.int .i64 0, .int .i64 0, .string ⟨#[]⟩, .slice none 0 0, .slice none 0 0] 72)) X) (five_set H3.out.2 _ _ _ _ _) ?_
  clear d0 d1 d2 d3 d4 df
  rintro w9 ⟨h9, hf9⟩
  obtain ⟨k0, k1, k2, k3, k4⟩ := box5 h9
  refine bodyPost_ret (v := .agg #[.int .i64 0, .int .i64 0, str [], .slice none 0 0, .slice none 0 0]) (by simp [results, Tryz.results33, go_sem, k0, k1, k2, k3, k4]) rfl ?_
  refine ⟨[.int .i64 0, .int .i64 0, str [], .slice none 0 0, .slice none 0 0], rfl, by rw [HV.out]; exact plainJ _ _ 0 0 [], H3.out.1.trans (hf9.below H3.out.1.size (fun k hk => by omega))⟩
 | ok v q =>
  have HV : Hid (valOf s = v) := Lib.hid (by unfold valOf; rw [hp])
  rw [hp] at CP
  clear hp
  refine CP.out.mono ?_
  rintro e w3 ⟨cs, rfl, hv, hb3⟩
  obtain ⟨a1, n1, c1, a2, n2, c2, rfl, _, _⟩ := hv.open
  have hz := box_up (box_up H2.out.2.1 hb3) (below_alloc w3 (.cells #[.int .i64 v.kind, .int .i64 v.n, str v.s, .slice a1 n1 c1, .slice a2 n2 c2] 72))
  have H3 := Lib.hid (And.intro (H2.out.1.trans ((hb3.trans ((below_alloc w3 (.cells #[.int .i64 v.kind, .int .i64 v.n, str v.s, .slice a1 n1 c1, .slice a2 n2 c2] 72)).mono hb3.size)).mono H2.out.1.size)) (And.intro hz (hv.up (below_alloc w3 (.cells #[.int .i64 v.kind, .int .i64 v.n, str v.s, .slice a1 n1 c1, .slice a2 n2 c2] 72)))))
  obtain ⟨d0, d1, d2, d3, d4⟩ := box5 hz
  have df := box_fr hz
  clear hb3 hz hv CP H2 hconv
  go_wp2_with fail
  refine bodyPost_any_world (fun X => X.heap[w.heap.size]? = some (.cells #[.int .i64 v.kind, .int .i64 v.n, str v.s, .slice a1 n1 c1, .slice a2 n2 c2] 72 (0, 0)) ∧ Frm (fun i => i = w.heap.size) (w3.alloc (.cells #[.int .i64 v.kind, .int .i64 v.n, str v.s, .slice a1 n1 c1, .slice a2 n2 c2] 72)) X) (five_set H3.out.2.1 _ _ _ _ _) ?_
  clear d0 d1 d2 d3 d4 df
  rintro w9 ⟨h9, hf9⟩
  obtain ⟨k0, k1, k2, k3, k4⟩ := box5 h9
  refine bodyPost_ret (v := .agg #[.int .i64 v.kind, .int .i64 v.n, str v.s, .slice a1 n1 c1, .slice a2 n2 c2]) (by simp [results, Tryz.results33, go_sem, k0, k1, k2, k3, k4]) rfl ?_
  refine ⟨[.int .i64 v.kind, .int .i64 v.n, str v.s, .slice a1 n1 c1, .slice a2 n2 c2], rfl, ?_, H3.out.1.trans (hf9.below H3.out.1.size (fun k hk => by omega))⟩
  rw [HV.out]
  exact (H3.out.2.2.frm hf9 (fun i hi e => by have := HS2.out; omega)).mono (fun i _ hi => by have := HS2.out; omega)
theorem words_any (v : JV) (nm : List UInt8) (hsz : szV v ≤ 1000000000) (F : Nat → Prop) (w : World) (cs : List Value) (h : RdJ w F v cs) : Calls Tryz.prog 35 #[.agg cs.toArray, str nm] w fun e w' => e = .returned (str (wrdO v nm)) ∧ Below w.heap.size w w' := by
 obtain ⟨al, ll, cl, am, lm, cm, rfl, _, _⟩ := h.open
 obtain ⟨Wa, hWa⟩ : ∃ Wa, Wa = w.alloc (.cells #[.int .i64 v.kind, .int .i64 v.n, str v.s, .slice al ll cl, .slice am lm cm] 72) := ⟨_, rfl⟩
 have hba : Below w.heap.size w Wa := by rw [hWa]; exact below_alloc _ _
 have hbx : Wa.heap[w.heap.size]? = some (.cells #[.int .i64 v.kind, .int .i64 v.n, str v.s, .slice al ll cl, .slice am lm cm] 72 (0, 0)) := by rw [hWa]; exact heap_alloc_new _ _
 have CG := get_any v nm hsz F Wa _ (h.up hba)
 have HA := Lib.hid (And.intro hba hbx)
 obtain ⟨q0, q1, q2, q3, q4⟩ := box5 hbx
 clear hba hbx h hsz
 cases hg : getJ v nm with
 | none =>
  have HE : Hid (wrdO v nm = []) := Lib.hid (by unfold wrdO; rw [hg])
  rw [hg] at CG
  have CG := Lib.hid CG
  clear hg
  go_enter Tryz.func35, Tryz.ntmps35
  go_wp2_with fail
  rw [← hWa]
  clear hWa
  refine CG.out.mono ?_
  rintro e w2 ⟨rfl, hb2⟩
  have HX := Lib.hid ((HA.out.1.trans (hb2.mono HA.out.1.size)).trans ((below_alloc w2 (.cells #[.int .i64 0, .int .i64 0, str [], .slice none 0 0, .slice none 0 0] 72)).mono (Nat.le_trans HA.out.1.size hb2.size)))
  clear hb2 CG q0 q1 q2 q3 q4
  go_wp2_with fail
  go_ret
  exact ⟨by rw [HE.out]; rfl, HX.out⟩
 | some x =>
  have HE : Hid (wrdO v nm = x.s) := Lib.hid (by unfold wrdO; rw [hg])
  rw [hg] at CG
  have CG := Lib.hid CG
  clear hg
  go_enter Tryz.func35, Tryz.ntmps35
  go_wp2_with fail
  rw [← hWa]
  clear hWa
  refine CG.out.mono ?_
  rintro e w2 ⟨cs2, rfl, hv2, hb2⟩
  obtain ⟨a1, n1, c1, a2, n2, c2, rfl, _, _⟩ := hv2.open
  have HX := Lib.hid ((HA.out.1.trans (hb2.mono HA.out.1.size)).trans ((below_alloc w2 (.cells #[.int .i64 x.kind, .int .i64 x.n, str x.s, .slice a1 n1 c1, .slice a2 n2 c2] 72)).mono (Nat.le_trans HA.out.1.size hb2.size)))
  clear hb2 hv2 CG q0 q1 q2 q3 q4
  go_wp2_with fail
  go_ret
  exact ⟨by rw [HE.out]; rfl, HX.out⟩
theorem numb_any (v : JV) (nm : List UInt8) (hsz : szV v ≤ 1000000000) (F : Nat → Prop) (w : World) (cs : List Value) (h : RdJ w F v cs) : Calls Tryz.prog 36 #[.agg cs.toArray, str nm] w fun e w' => e = .returned (.int .i64 (nbrO v nm)) ∧ Below w.heap.size w w' := by
 obtain ⟨al, ll, cl, am, lm, cm, rfl, _, _⟩ := h.open
 obtain ⟨Wa, hWa⟩ : ∃ Wa, Wa = w.alloc (.cells #[.int .i64 v.kind, .int .i64 v.n, str v.s, .slice al ll cl, .slice am lm cm] 72) := ⟨_, rfl⟩
 have hba : Below w.heap.size w Wa := by rw [hWa]; exact below_alloc _ _
 have hbx : Wa.heap[w.heap.size]? = some (.cells #[.int .i64 v.kind, .int .i64 v.n, str v.s, .slice al ll cl, .slice am lm cm] 72 (0, 0)) := by rw [hWa]; exact heap_alloc_new _ _
 have CG := get_any v nm hsz F Wa _ (h.up hba)
 have HA := Lib.hid (And.intro hba hbx)
 obtain ⟨q0, q1, q2, q3, q4⟩ := box5 hbx
 clear hba hbx h hsz
 cases hg : getJ v nm with
 | none =>
  have HE : Hid (nbrO v nm = 0) := Lib.hid (by unfold nbrO; rw [hg])
  rw [hg] at CG
  have CG := Lib.hid CG
  clear hg
  go_enter Tryz.func36, Tryz.ntmps36
  go_wp2_with fail
  rw [← hWa]
  clear hWa
  refine CG.out.mono ?_
  rintro e w2 ⟨rfl, hb2⟩
  have HX := Lib.hid ((HA.out.1.trans (hb2.mono HA.out.1.size)).trans ((below_alloc w2 (.cells #[.int .i64 0, .int .i64 0, str [], .slice none 0 0, .slice none 0 0] 72)).mono (Nat.le_trans HA.out.1.size hb2.size)))
  clear hb2 CG q0 q1 q2 q3 q4
  go_wp2_with fail
  go_ret
  exact ⟨by rw [HE.out]; rfl, HX.out⟩
 | some x =>
  have HE : Hid (nbrO v nm = x.n) := Lib.hid (by unfold nbrO; rw [hg])
  rw [hg] at CG
  have CG := Lib.hid CG
  clear hg
  go_enter Tryz.func36, Tryz.ntmps36
  go_wp2_with fail
  rw [← hWa]
  clear hWa
  refine CG.out.mono ?_
  rintro e w2 ⟨cs2, rfl, hv2, hb2⟩
  obtain ⟨a1, n1, c1, a2, n2, c2, rfl, _, _⟩ := hv2.open
  have HX := Lib.hid ((HA.out.1.trans (hb2.mono HA.out.1.size)).trans ((below_alloc w2 (.cells #[.int .i64 x.kind, .int .i64 x.n, str x.s, .slice a1 n1 c1, .slice a2 n2 c2] 72)).mono (Nat.le_trans HA.out.1.size hb2.size)))
  clear hb2 hv2 CG q0 q1 q2 q3 q4
  go_wp2_with fail
  go_ret
  exact ⟨by rw [HE.out]; rfl, HX.out⟩
end Go.Proofs.YtegblhmcfemfgaaGreatDoor
set_option maxRecDepth 100000
set_option maxHeartbeats 8000000
namespace Go.Proofs.YtegblhmcfemfgaaGreatDoor
open Go.RowKit
theorem getJ_sz {v x : JV} {nm : List UInt8} (h : getJ v nm = some x) : szV x ≤ szV v := by
 unfold getJ at h
 split at h
 · have key : ∀ m : List MemT, fndM m nm = some x → szV x ≤ szM m := by
    intro m
    induction m with
    | nil => intro h; simp [fndM] at h
    | cons y t ih =>
     intro h
     obtain ⟨a, u⟩ := y
     rw [fndM] at h
     rw [szM]
     split at h
     · cases h; omega
     have := ih h; omega
   have := key _ h
   have := szV_mk v
   omega
 cases h
theorem wrdO_len (v : JV) (nm : List UInt8) : (wrdO v nm).length ≤ szV v := by
 unfold wrdO
 cases h : getJ v nm with
 | none => simp
 | some x =>
  have h1 := getJ_sz h
  have h2 := szV_mk x
  dsimp only
  omega
theorem getSub_any (s : List UInt8) (w : World) (hl : s.length ≤ 1000000) (ht : TabJ w.heap.size w) :
 Calls Tryz.prog 14 #[str s] w fun e w' => e = .returned (.tuple #[str (if okR (putSubR (wrdO (valOf s) folderN)) s = true then wrdO (valOf s) folderN else []), .bool (okR (putSubR (wrdO (valOf s) folderN)) s)]) ∧ Below w.heap.size w w' := by
 have CP := Lib.hid (rparse_any s w hl)
 have hsz := valOf_sz s
 obtain ⟨V, hV⟩ : ∃ V, V = valOf s := ⟨_, rfl⟩
 rw [← hV] at CP hsz
 rw [← hV]
 have hxl := wrdO_len V folderN
 have HSZ := Lib.hid hsz
 have HT := Lib.hid ht
 obtain ⟨X, hX⟩ : ∃ X, X = wrdO V folderN := ⟨_, rfl⟩
 rw [← hX] at hxl
 rw [← hX]
 have HX := Lib.hid hX
 have hxl2 : X.length ≤ 9223372036854775807 := by omega
 obtain ⟨OK, hOK⟩ : ∃ OK, OK = okR (putSubR X) s := ⟨_, rfl⟩
 rw [← hOK]
 obtain ⟨ZS, hZS⟩ : ∃ ZS, ZS = (if OK = true then X else []) := ⟨_, rfl⟩
 rw [← hZS]
 have HOK := Lib.hid (And.intro hOK hZS)
 clear hV hX hl ht hsz hxl hOK hZS
 go_enter Tryz.func14, Tryz.ntmps14
 go_wp2_with fail
 refine CP.out.mono ?_
 rintro e w2 ⟨cs, rfl, hv, hb2⟩
 have CW := words_any V [102, 111, 108, 100, 101, 114] HSZ.out _ w2 cs hv
 have e9 : wrdO V [102, 111, 108, 100, 101, 114] = X := HX.out.symm
 rw [e9] at CW
 obtain ⟨a1, n1, c1, a2, n2, c2, rfl, _, _⟩ := hv.open
 have CW := Lib.hid CW
 have HB2 := Lib.hid hb2
 clear hb2 hv CP e9
 go_wp2_with fail
 refine CW.out.mono ?_
 rintro e w3 ⟨rfl, hb3⟩
 have HB3 := Lib.hid (HB2.out.trans (hb3.mono HB2.out.size))
 have CI := ifStr_any s X w3 hxl2 (fun w' h' => HT.out w' (HB3.out.trans (h'.mono HB3.out.size)))
 rw [← HOK.out.1, ← HOK.out.2] at CI
 have CI := Lib.hid CI
 clear hb3 CW
 go_wp2_with fail
 refine CI.out.mono ?_
 rintro e w4 ⟨rfl, hb4⟩
 have HY := Lib.hid (HB3.out.trans (hb4.mono HB3.out.size))
 clear hb4 CI
 go_wp2_with fail
 go_ret2
 exact ⟨rfl, HY.out⟩
theorem getFeed_any (s : List UInt8) (w : World) (hl : s.length ≤ 1000000) (ht : TabJ w.heap.size w) :
 Calls Tryz.prog 12 #[str s] w fun e w' => e = .returned (.tuple #[.agg (if okR (putFeedR (wrdO (valOf s) [116, 105, 116, 108, 101]) (nbrO (valOf s) [110])) s = true then #[str (wrdO (valOf s) [116, 105, 116, 108, 101]), .int .i64 (nbrO (valOf s) [110])] else #[str [], .int .i64 0]), .bool (okR (putFeedR (wrdO (valOf s) [116, 105, 116, 108, 101]) (nbrO (valOf s) [110])) s)]) ∧ Below w.heap.size w w' := by
 obtain ⟨Wa, hWa⟩ : ∃ Wa, Wa = w.alloc (.cells #[.string ⟨#[]⟩, .int .i64 0] 23) := ⟨_, rfl⟩
 have HA : Hid (Below w.heap.size w Wa ∧ Wa.heap[w.heap.size]? = some (.cells #[str [], .int .i64 0] 23 (0, 0)) ∧ w.heap.size + 1 ≤ Wa.heap.size) := Lib.hid ⟨by rw [hWa]; exact below_alloc _ _, by rw [hWa]; exact heap_alloc_new _ _, by rw [hWa]; simp⟩
 have CP := Lib.hid (rparse_any s Wa hl)
 have hsz := valOf_sz s
 obtain ⟨V, hV⟩ : ∃ V, V = valOf s := ⟨_, rfl⟩
 rw [← hV] at CP hsz
 rw [← hV]
 have HSZ := Lib.hid hsz
 have HT := Lib.hid ht
 obtain ⟨X, hX⟩ : ∃ X, X = wrdO V [116, 105, 116, 108, 101] := ⟨_, rfl⟩
 obtain ⟨Y, hY⟩ : ∃ Y, Y = nbrO V [110] := ⟨_, rfl⟩
 rw [← hX, ← hY]
 have HXY := Lib.hid (And.intro hX hY)
 obtain ⟨OK, hOK⟩ : ∃ OK, OK = okR (putFeedR X Y) s := ⟨_, rfl⟩
 obtain ⟨z1, z2, hzz⟩ : ∃ z1 z2, (if OK = true then #[str X, .int .i64 Y] else #[str [], .int .i64 0] : Array Value) = #[str z1, .int .i64 z2] := by cases OK <;> exact ⟨_, _, rfl⟩
 rw [← hOK, hzz]
 have HOK := Lib.hid hOK
 have HZZ := Lib.hid hzz
 clear hV hX hY hl ht hsz hOK hzz
 go_enter Tryz.func12, Tryz.ntmps12
 go_upto_region 1 with fail
 rw [← hWa]
 clear hWa
 go_wp2_with fail
 refine CP.out.mono ?_
 rintro e w2 ⟨cs, rfl, hv, hb2⟩
 obtain ⟨a1, n1, c1, a2, n2, c2, rfl, _, _⟩ := hv.open
 obtain ⟨W3, hW3⟩ : ∃ W3, W3 = w2.alloc (.cells #[.int .i64 V.kind, .int .i64 V.n, str V.s, .slice a1 n1 c1, .slice a2 n2 c2] 72) := ⟨_, rfl⟩
 have hb3 : Below w2.heap.size w2 W3 := by rw [hW3]; exact below_alloc _ _
 have hbx : W3.heap[w2.heap.size]? = some (.cells #[.int .i64 V.kind, .int .i64 V.n, str V.s, .slice a1 n1 c1, .slice a2 n2 c2] 72 (0, 0)) := by rw [hW3]; exact heap_alloc_new _ _
 have H3 : Hid (Below w.heap.size w W3 ∧ W3.heap[w.heap.size]? = some (.cells #[str [], .int .i64 0] 23 (0, 0)) ∧ w.heap.size + 1 ≤ W3.heap.size ∧ w.heap.size < w2.heap.size) := Lib.hid ⟨(HA.out.1.trans (hb2.mono HA.out.1.size)).trans (hb3.mono (Nat.le_trans HA.out.1.size hb2.size)), box_up (box_up HA.out.2.1 hb2) hb3, Nat.le_trans (Nat.le_trans HA.out.2.2 hb2.size) hb3.size, by have := HA.out.2.2; have := hb2.size; omega⟩
 obtain ⟨p0, p1, p2, p3, p4⟩ := box5 hbx
 have HKS : Hid (∀ W', Below W3.heap.size W3 W' → W'.cell? ⟨w2.heap.size, 0, none⟩ = some (.int .i64 V.kind) ∧ W'.cell? ⟨w2.heap.size, 1, none⟩ = some (.int .i64 V.n) ∧ W'.cell? ⟨w2.heap.size, 2, none⟩ = some (str V.s) ∧ W'.cell? ⟨w2.heap.size, 3, none⟩ = some (.slice a1 n1 c1) ∧ W'.cell? ⟨w2.heap.size, 4, none⟩ = some (.slice a2 n2 c2)) := Lib.hid (fun W' hb => ⟨(hb.cell (p := ⟨w2.heap.size, 0, none⟩) (World.block_lt_of_cell? W3 _ p0)).trans p0, (hb.cell (p := ⟨w2.heap.size, 1, none⟩) (World.block_lt_of_cell? W3 _ p1)).trans p1, (hb.cell (p := ⟨w2.heap.size, 2, none⟩) (World.block_lt_of_cell? W3 _ p2)).trans p2, (hb.cell (p := ⟨w2.heap.size, 3, none⟩) (World.block_lt_of_cell? W3 _ p3)).trans p3, (hb.cell (p := ⟨w2.heap.size, 4, none⟩) (World.block_lt_of_cell? W3 _ p4)).trans p4⟩)
 have HV := Lib.hid (hv.up hb3)
 have CW : Hid (∀ W, Hid (Below W3.heap.size W3 W) → Calls Tryz.prog 35 #[.agg #[.int .i64 V.kind, .int .i64 V.n, str V.s, .slice a1 n1 c1, .slice a2 n2 c2], str [116, 105, 116, 108, 101]] W fun e w' => e = .returned (str X) ∧ Hid (Below W3.heap.size W3 w')) := Lib.hid (fun W hb => by
  have := words_any V [116, 105, 116, 108, 101] HSZ.out _ W _ (HV.out.up hb.out)
  rw [← HXY.out.1] at this
  refine this.mono ?_
  rintro e w' ⟨rfl, h'⟩
  exact ⟨rfl, Lib.hid (hb.out.trans (h'.mono hb.out.size))⟩)
 have CN : Hid (∀ W, Hid (Below W3.heap.size W3 W) → Calls Tryz.prog 36 #[.agg #[.int .i64 V.kind, .int .i64 V.n, str V.s, .slice a1 n1 c1, .slice a2 n2 c2], str [110]] W fun e w' => e = .returned (.int .i64 Y) ∧ Hid (Below W3.heap.size W3 w')) := Lib.hid (fun W hb => by
  have := numb_any V [110] HSZ.out _ W _ (HV.out.up hb.out)
  rw [← HXY.out.2] at this
  refine this.mono ?_
  rintro e w' ⟨rfl, h'⟩
  exact ⟨rfl, Lib.hid (hb.out.trans (h'.mono hb.out.size))⟩)
 have CI : Hid (∀ W, Hid (Below W3.heap.size W3 W) → Calls Tryz.prog 34 #[str s, .agg #[str X, .int .i64 Y], .func (.func 7) #[] #[]] W fun e w' => e = .returned (.tuple #[.agg #[str z1, .int .i64 z2], .bool OK]) ∧ Hid (Below W3.heap.size W3 w')) := Lib.hid (fun W hb => by
  have := ifFeed_any s X Y W (fun w' h' => HT.out w' ((H3.out.1.trans (hb.out.mono H3.out.1.size)).trans (h'.mono (Nat.le_trans H3.out.1.size hb.out.size))))
  rw [← HOK.out, HZZ.out] at this
  refine this.mono ?_
  rintro e w' ⟨rfl, h'⟩
  exact ⟨rfl, Lib.hid (hb.out.trans (h'.mono hb.out.size))⟩)
 have HB : Hid (Below W3.heap.size W3 W3.drew) := Lib.hid (Below.drewsN (Below.refl _ _) 1)
 have hne : w.heap.size ≠ w2.heap.size := by have := H3.out.2.2.2; omega
 clear hb2 hb3 hbx hv CP
 go_upto_region 2 with fail
 rw [← hW3]
 clear hW3
 go_wp2_with fail
 go_region_held3 (fun W' => W'.cell? ⟨w2.heap.size, 0, none⟩ = some (.int .i64 V.kind) ∧ W'.cell? ⟨w2.heap.size, 1, none⟩ = some (.int .i64 V.n) ∧ W'.cell? ⟨w2.heap.size, 2, none⟩ = some (str V.s) ∧ W'.cell? ⟨w2.heap.size, 3, none⟩ = some (.slice a1 n1 c1) ∧ W'.cell? ⟨w2.heap.size, 4, none⟩ = some (.slice a2 n2 c2))
  (first | (exact HKS.out _ HB.out) | go_keep)
  ((first
    | (go_at_call 35; refine (CW.out _ HB).mono ?_; rintro e w5 ⟨rfl, HB⟩)
    | (go_at_call 36; refine (CN.out _ HB).mono ?_; rintro e w5 ⟨rfl, HB⟩)
    | (go_at_call 34; refine (CI.out _ HB).mono ?_; rintro e w7 ⟨rfl, HB⟩; have hz := box_up H3.out.2.1 HB.out; have d0 := box_cell hz 0; have d1 := box_cell hz 1; have df := box_fr hz; have HZ := Lib.hid hz; clear hz)
    | fail))
 all_goals
  clear p0 p1 p2 p3 p4 HKS
  go_wp2_with fail
  refine bodyPost_any_world (fun X => X.heap[w.heap.size]? = some (.cells #[str z1, .int .i64 z2] 23 (0, 0)) ∧ Frm (fun i => i = w.heap.size) w7 X) (two_set HZ.out _ _) ?_
  clear d0 d1 df
  rintro w9 ⟨h9, hf9⟩
  obtain ⟨k0, k1⟩ := box2 h9
  refine bodyPost_ret (v := .tuple #[.agg #[str z1, .int .i64 z2], .bool OK]) (by simp [results, Tryz.results12, go_sem, k0, k1]) rfl ?_
  exact ⟨rfl, (H3.out.1.trans (HB.out.mono H3.out.1.size)).trans (hf9.below (by have := H3.out.2.2.1; have := HB.out.size; omega) (fun k hk => by omega))⟩
theorem getState_any (s : List UInt8) (w : World) (hl : s.length ≤ 1000000) (ht : TabJ w.heap.size w) :
 Calls Tryz.prog 15 #[str s] w fun e w' => e = .returned (.tuple #[.agg (if okR (putStateR (nbrO (valOf s) [114, 101, 97, 100]) (nbrO (valOf s) [115, 116, 97, 114])) s = true then #[.int .i64 (nbrO (valOf s) [114, 101, 97, 100]), .int .i64 (nbrO (valOf s) [115, 116, 97, 114])] else #[.int .i64 0, .int .i64 0]), .bool (okR (putStateR (nbrO (valOf s) [114, 101, 97, 100]) (nbrO (valOf s) [115, 116, 97, 114])) s)]) ∧ Below w.heap.size w w' := by
 obtain ⟨Wa, hWa⟩ : ∃ Wa, Wa = w.alloc (.cells #[.int .i64 0, .int .i64 0] 27) := ⟨_, rfl⟩
 have HA : Hid (Below w.heap.size w Wa ∧ Wa.heap[w.heap.size]? = some (.cells #[.int .i64 0, .int .i64 0] 27 (0, 0)) ∧ w.heap.size + 1 ≤ Wa.heap.size) := Lib.hid ⟨by rw [hWa]; exact below_alloc _ _, by rw [hWa]; exact heap_alloc_new _ _, by rw [hWa]; simp⟩
 have CP := Lib.hid (rparse_any s Wa hl)
 have hsz := valOf_sz s
 obtain ⟨V, hV⟩ : ∃ V, V = valOf s := ⟨_, rfl⟩
 rw [← hV] at CP hsz
 rw [← hV]
 have HSZ := Lib.hid hsz
 have HT := Lib.hid ht
 obtain ⟨OK, hOK⟩ : ∃ OK, OK = okR (putStateR (nbrO V [114, 101, 97, 100]) (nbrO V [115, 116, 97, 114])) s := ⟨_, rfl⟩
 obtain ⟨z1, z2, hzz⟩ : ∃ z1 z2, (if OK = true then #[.int .i64 (nbrO V [114, 101, 97, 100]), .int .i64 (nbrO V [115, 116, 97, 114])] else #[.int .i64 0, .int .i64 0] : Array Value) = #[.int .i64 z1, .int .i64 z2] := by cases OK <;> exact ⟨_, _, rfl⟩
 rw [← hOK, hzz]
 have HOK := Lib.hid hOK
 have HZZ := Lib.hid hzz
 clear hV hl ht hsz hOK hzz
 go_enter Tryz.func15, Tryz.ntmps15
 go_upto_region 1 with fail
 rw [← hWa]
 clear hWa
 go_wp2_with fail
 refine CP.out.mono ?_
 rintro e w2 ⟨cs, rfl, hv, hb2⟩
 obtain ⟨a1, n1, c1, a2, n2, c2, rfl, _, _⟩ := hv.open
 obtain ⟨W3, hW3⟩ : ∃ W3, W3 = w2.alloc (.cells #[.int .i64 V.kind, .int .i64 V.n, str V.s, .slice a1 n1 c1, .slice a2 n2 c2] 72) := ⟨_, rfl⟩
 have hb3 : Below w2.heap.size w2 W3 := by rw [hW3]; exact below_alloc _ _
 have hbx : W3.heap[w2.heap.size]? = some (.cells #[.int .i64 V.kind, .int .i64 V.n, str V.s, .slice a1 n1 c1, .slice a2 n2 c2] 72 (0, 0)) := by rw [hW3]; exact heap_alloc_new _ _
 have H3 : Hid (Below w.heap.size w W3 ∧ W3.heap[w.heap.size]? = some (.cells #[.int .i64 0, .int .i64 0] 27 (0, 0)) ∧ w.heap.size + 1 ≤ W3.heap.size ∧ w.heap.size < w2.heap.size) := Lib.hid ⟨(HA.out.1.trans (hb2.mono HA.out.1.size)).trans (hb3.mono (Nat.le_trans HA.out.1.size hb2.size)), box_up (box_up HA.out.2.1 hb2) hb3, Nat.le_trans (Nat.le_trans HA.out.2.2 hb2.size) hb3.size, by have := HA.out.2.2; have := hb2.size; omega⟩
 obtain ⟨p0, p1, p2, p3, p4⟩ := box5 hbx
 have HKS : Hid (∀ W', Below W3.heap.size W3 W' → W'.cell? ⟨w2.heap.size, 0, none⟩ = some (.int .i64 V.kind) ∧ W'.cell? ⟨w2.heap.size, 1, none⟩ = some (.int .i64 V.n) ∧ W'.cell? ⟨w2.heap.size, 2, none⟩ = some (str V.s) ∧ W'.cell? ⟨w2.heap.size, 3, none⟩ = some (.slice a1 n1 c1) ∧ W'.cell? ⟨w2.heap.size, 4, none⟩ = some (.slice a2 n2 c2)) := Lib.hid (fun W' hb => ⟨(hb.cell (p := ⟨w2.heap.size, 0, none⟩) (World.block_lt_of_cell? W3 _ p0)).trans p0, (hb.cell (p := ⟨w2.heap.size, 1, none⟩) (World.block_lt_of_cell? W3 _ p1)).trans p1, (hb.cell (p := ⟨w2.heap.size, 2, none⟩) (World.block_lt_of_cell? W3 _ p2)).trans p2, (hb.cell (p := ⟨w2.heap.size, 3, none⟩) (World.block_lt_of_cell? W3 _ p3)).trans p3, (hb.cell (p := ⟨w2.heap.size, 4, none⟩) (World.block_lt_of_cell? W3 _ p4)).trans p4⟩)
 have HV := Lib.hid (hv.up hb3)
 have CN : Hid (∀ nm W, Hid (Below W3.heap.size W3 W) → Calls Tryz.prog 36 #[.agg #[.int .i64 V.kind, .int .i64 V.n, str V.s, .slice a1 n1 c1, .slice a2 n2 c2], str nm] W fun e w' => e = .returned (.int .i64 (nbrO V nm)) ∧ Hid (Below W3.heap.size W3 w')) := Lib.hid (fun nm W hb => by
  refine (numb_any V nm HSZ.out _ W _ (HV.out.up hb.out)).mono ?_
  rintro e w' ⟨rfl, h'⟩
  exact ⟨rfl, Lib.hid (hb.out.trans (h'.mono hb.out.size))⟩)
 have CI : Hid (∀ W, Hid (Below W3.heap.size W3 W) → Calls Tryz.prog 39 #[str s, .agg #[.int .i64 (nbrO V [114, 101, 97, 100]), .int .i64 (nbrO V [115, 116, 97, 114])], .func (.func 10) #[] #[]] W fun e w' => e = .returned (.tuple #[.agg #[.int .i64 z1, .int .i64 z2], .bool OK]) ∧ Hid (Below W3.heap.size W3 w')) := Lib.hid (fun W hb => by
  have := ifState_any s (nbrO V [114, 101, 97, 100]) (nbrO V [115, 116, 97, 114]) W (fun w' h' => HT.out w' ((H3.out.1.trans (hb.out.mono H3.out.1.size)).trans (h'.mono (Nat.le_trans H3.out.1.size hb.out.size))))
  rw [← HOK.out, HZZ.out] at this
  refine this.mono ?_
  rintro e w' ⟨rfl, h'⟩
  exact ⟨rfl, Lib.hid (hb.out.trans (h'.mono hb.out.size))⟩)
 have HB : Hid (Below W3.heap.size W3 W3.drew) := Lib.hid (Below.drewsN (Below.refl _ _) 1)
 have hne : w.heap.size ≠ w2.heap.size := by have := H3.out.2.2.2; omega
 clear hb2 hb3 hbx hv CP
 go_upto_region 2 with fail
 rw [← hW3]
 clear hW3
 go_wp2_with fail
 go_region_held3 (fun W' => W'.cell? ⟨w2.heap.size, 0, none⟩ = some (.int .i64 V.kind) ∧ W'.cell? ⟨w2.heap.size, 1, none⟩ = some (.int .i64 V.n) ∧ W'.cell? ⟨w2.heap.size, 2, none⟩ = some (str V.s) ∧ W'.cell? ⟨w2.heap.size, 3, none⟩ = some (.slice a1 n1 c1) ∧ W'.cell? ⟨w2.heap.size, 4, none⟩ = some (.slice a2 n2 c2))
  (first | (exact HKS.out _ HB.out) | go_keep)
  ((first
    | (go_at_call 36; refine (CN.out _ _ HB).mono ?_; rintro e w5 ⟨rfl, HB⟩)
    | (go_at_call 39; refine (CI.out _ HB).mono ?_; rintro e w7 ⟨rfl, HB⟩; have hz := box_up H3.out.2.1 HB.out; have d0 := box_cell hz 0; have d1 := box_cell hz 1; have df := box_fr hz; have HZ := Lib.hid hz; clear hz)
    | fail))
 all_goals
  clear p0 p1 p2 p3 p4 HKS
  go_wp2_with fail
  refine bodyPost_any_world (fun X => X.heap[w.heap.size]? = some (.cells #[.int .i64 z1, .int .i64 z2] 27 (0, 0)) ∧ Frm (fun i => i = w.heap.size) w7 X) (two_set HZ.out _ _) ?_
  clear d0 d1 df
  rintro w9 ⟨h9, hf9⟩
  obtain ⟨k0, k1⟩ := box2 h9
  refine bodyPost_ret (v := .tuple #[.agg #[.int .i64 z1, .int .i64 z2], .bool OK]) (by simp [results, Tryz.results15, go_sem, k0, k1]) rfl ?_
  exact ⟨rfl, (H3.out.1.trans (HB.out.mono H3.out.1.size)).trans (hf9.below (by have := H3.out.2.2.1; have := HB.out.size; omega) (fun k hk => by omega))⟩
end Go.Proofs.YtegblhmcfemfgaaGreatDoor
