/- DiffSteps: the walk. -/
import Derived.Test.YteibiaplmmdppaaD21Few
import Derived.Test.YteibiaplmmdppaaD21Fold
import Derived.Test.YteibiaplmmdppaaD21Pairs
import Derived.Test.YteibiaplmmdppaaD21First
import Derived.Test.YteibiaplmmdppaaD21StepM
namespace Go.Proofs.Yteibiaplmmdppaa
open Go.RowKit

theorem one_cells {l : List ChgT} : ∀ u ∈ (l.map cellsC).flatten, u.oneCell' = true := by
  intro u hu
  obtain ⟨r, hr, hu⟩ := List.mem_flatten.1 hu
  obtain ⟨c, _, rfl⟩ := List.mem_map.1 hr
  simp only [cellsC, List.mem_cons, List.not_mem_nil, or_false] at hu
  rcases hu with rfl | rfl | rfl <;> rfl
/-- An append of rows to a row of the call's own. -/
theorem wpList_appendF {P : Program} {w : World} {ops : Array Oper} {rest : List Oper} {o : Oper} {a : Act} {Q : Exit → Act → World → Prop} (hgd : o.guard = none) (s x : Operand) (t : TypeId)
    (ho : o.op = .call { callee := .builtin .append, args := #[s, x], argTypes := #[t, t] }) (base : Nat) (e : TypeId) (i : TypeInfo) (z : Value) (size bytes : Nat) (ht : P.underlying t = some (.slice e)) (hi : P.info? e = some i) (hz : i.zero = some z)
    (hsize : i.size = size) (hby : i.bytes = bytes) (hzs : z.cells.size = size) (hsz : 0 < size)
    (v : Value) (n : Nat) (xs : List Value) (hs : a.eval s = v) (hown : w.ownsRow base e size v n xs)
    (y : Value) (L : List (List Value)) (hL : ∀ r ∈ L, r.length = size) (hone : ∀ u ∈ L.flatten, u.oneCell' = true) (hx : a.eval x = y) (hy : RdF size w y L) (hnil : ∀ c, y = .slice none 0 c → c = 0)
    (h63 : n + L.length ≤ maxLen) (hbytes : (n + L.length) * bytes ≤ 140737488355328) (hbase : base ≤ w.heap.size)
    (h : ∀ v' w', w'.ownsRow base e size v' (n + L.length) (xs ++ L.flatten) → w.grownBy w' v.ownBlock → wpList P ops Q rest (a.put o.dst v') w') : wpList P ops Q (o :: rest) a w := by
  obtain ⟨ad, cap, rfl, h1, h2, h3, h4⟩ := hy
  by_cases hne : L = []
  · subst hne
    cases ad with
    | none =>
      obtain rfl := hnil cap rfl
      exact wpList_append_own_none hgd s x t ho base e i size ht hi v n xs hs hown hx (h v w (by simpa using hown) ⟨rfl, rfl, rfl, Nat.le_refl _, fun _ _ _ => rfl⟩)
    | some ad =>
      exact wpList_append_own w hgd s x t ho base e i z size bytes ht hi hz hsize hby hzs hsz v n xs hs hown ad 0 cap [] hx (by simp) (by simp) (by simp) h63 hbytes hbase (fun v' w' g1 g2 _ => h v' w' (by simpa using g1) g2)
  · obtain ⟨b, off, rfl, hc⟩ := h4 hne
    refine wpList_append_own w hgd s x t ho base e i z size bytes ht hi hz hsize hby hzs hsz v n xs hs hown ⟨b, off, none⟩ L.length cap L.flatten hx (flat_len size L hL) ?_ hone h63 hbytes hbase (fun v' w' g1 g2 _ => h v' w' g1 g2)
    intro j u hj
    have hjl : j < L.length * size := by
      have := (List.getElem?_eq_some_iff.1 hj).1
      rwa [flat_len size L hL] at this
    have hq : j / size < L.length := Nat.div_lt_of_lt_mul (by rwa [Nat.mul_comm] at hjl)
    have hr : j % size < size := Nat.mod_lt _ hsz
    have ej : j = j / size * size + j % size := by rw [Nat.mul_comm]; exact (Nat.div_add_mod j size).symm
    have hf := flat_at size L hL (j / size) hq (j % size) hr
    rw [← ej, hj] at hf
    have := hc (j / size) hq (j % size) u hf.symm
    rw [Addr.add_lit]
    rw [show off + j = off + j / size * size + j % size by rw [Nat.add_assoc, ← ej]]
    exact this
/-- What lies on: three maps. -/
structure StT (w W : World) (b1 b2 b3 : Nat) (ta tb tc : Tr) : Prop where
  hb : Below w.heap.size w W
  t1 : TISS W b1 200 ta
  t2 : TISS W b2 200 tb
  t3 : TISS W b3 200 tc
theorem StT.up {w W W' : World} {b1 b2 b3 : Nat} {ta tb tc : Tr} (h : StT w W b1 b2 b3 ta tb tc) (hb : Below W.heap.size W W') : StT w W' b1 b2 b3 ta tb tc :=
  ⟨h.hb.trans (hb.mono h.hb.size), h.t1.below hb, h.t2.below hb, h.t3.below hb⟩
theorem TISS.wide {W : World} {b k k' : Nat} {t : Tr} (h : TISS W b k t) (hk : k ≤ k') : TISS W b k' t := ⟨h.mp, h.ws, h.rs, by have := h.ht; omega, by have := h.len; omega⟩
theorem rdcUp {W W' : World} {v : Value} {l : List ChgT} (h : RdC W v l) (hb : Below W.heap.size W W') : RdC W' v l := RdF.below h hb (Nat.le_refl _)
theorem rdpUp {W W' : World} {v : Value} {l : List PairT} (h : RdP W v l) (hb : Below W.heap.size W W') : RdP W' v l := RdF.below h hb (Nat.le_refl _)
theorem rdc_row {w : World} {base : Nat} {e : TypeId} {v : Value} {l : List ChgT} (h : w.ownsRow base e 3 v l.length (l.map cellsC).flatten) : RdC w v l := RdF.of_row (cellsC_len l) (by simpa using h)
theorem rdc_nil {w : World} {base : Nat} {e : TypeId} {v : Value} {l : List ChgT} (h : w.ownsRow base e 3 v l.length (l.map cellsC).flatten) : ∀ c, v = .slice none 0 c → c = 0 := by
  intro c hc
  rcases h.2 with ⟨h1, _⟩ | ⟨g, cap, cur, h1, _⟩
  · rw [h1] at hc; cases hc; rfl
  · rw [h1] at hc; cases hc
theorem infoDC : (Try.prog.info? 48).map (fun i => (i.zero, i.size, i.bytes)) = some (some (.agg #[str [], str [], .bool false]), 3, 40) := by kernel_rfl
/-- Texts that rise: the later one is not at most the one ahead. -/
theorem rise_le {a b : List UInt8} (h : Op.bytesLess a b = true) : Op.bytesLess b a = false ∧ (b == a) = false := by
  refine ⟨ordSS.asym (ss_key a) (ss_key b) (show lessV (str a) (str b) = true from h), ?_⟩
  rw [beq_eq_false_iff_ne]
  rintro rfl
  rw [bl_irr] at h; cases h
set_option maxRecDepth 100000 in
set_option maxHeartbeats 8000000 in
theorem steps_walk (va : Value) (la : List PairT) (vb : Value) (lb : List PairT) (vc : Value) (lc : List PairT) (w : World) (ha : RdP w va la) (hsa : ∀ p ∈ la, p.1.length ≤ 9223372036854775807 ∧ p.2.length ≤ 9223372036854775807) (hb : RdP w vb lb) (hsb : ∀ p ∈ lb, p.1.length ≤ 9223372036854775807 ∧ p.2.length ≤ 9223372036854775807)
    (hc : RdP w vc lc) (hsc : ∀ p ∈ lc, p.1.length ≤ 9223372036854775807 ∧ p.2.length ≤ 9223372036854775807) : Calls Try.prog 6 #[va, vb, vc] w fun e w' => e = .returned (.bool true) ∧ Below w.heap.size w w' := by
  have HA := Lib.hid ha
  have HB := Lib.hid hb
  have HC := Lib.hid hc
  have F1 := Lib.hid (fun W (h : Below w.heap.size w W) => few_any va la W (RdF.below ha h (Nat.le_refl _)) hsa)
  have F2 := Lib.hid (fun W (h : Below w.heap.size w W) => few_any vb lb W (RdF.below hb h (Nat.le_refl _)) hsb)
  have F3 := Lib.hid (fun W (h : Below w.heap.size w W) => few_any vc lc W (RdF.below hc h (Nat.le_refl _)) hsc)
  obtain ⟨i0, hi, hz0, hz1, hz2⟩ := info_parts infoDC
  clear ha hb hc hsa hsb hsc
  go_enter Try.func6, Try.ntmps6
  go_wp2_with fail
  refine (d21first_any w).mono ?_
  rintro e w1 ⟨rfl, hb1⟩
  have H1 := Lib.hid hb1
  clear hb1
  go_wp2_with fail
  refine (F1.out _ H1.out).mono ?_
  rintro e w2 ⟨bA0, rfl, hA, hb2⟩
  have HL0 := Lib.hid hA
  have H2 := Lib.hid (H1.out.trans (hb2.mono H1.out.size))
  clear hb2 hA H1 F1
  cases bA0 with
  | false =>
    as_aux_lemma =>
      go_wp2_with fail
      refine (d21first_any _).mono ?_
      rintro e wZ ⟨rfl, hbZ⟩
      go_wp2_with fail
      go_ret
      exact ⟨rfl, H2.out.trans (hbZ.mono H2.out.size)⟩
  | true =>
  go_wp2_with fail
  refine (F2.out _ H2.out).mono ?_
  rintro e w3 ⟨bA1, rfl, hA, hb3⟩
  have HL1 := Lib.hid hA
  have H3 := Lib.hid (H2.out.trans (hb3.mono H2.out.size))
  clear hb3 hA H2 F2
  cases bA1 with
  | false =>
    as_aux_lemma =>
      go_wp2_with fail
      refine (d21first_any _).mono ?_
      rintro e wZ ⟨rfl, hbZ⟩
      go_wp2_with fail
      go_ret
      exact ⟨rfl, H3.out.trans (hbZ.mono H3.out.size)⟩
  | true =>
  go_wp2_with fail
  refine (F3.out _ H3.out).mono ?_
  rintro e w4 ⟨bA2, rfl, hA, hb4⟩
  have HL2 := Lib.hid hA
  have H4 := Lib.hid (H3.out.trans (hb4.mono H3.out.size))
  clear hb4 hA H3 F3
  cases bA2 with
  | false =>
    as_aux_lemma =>
      go_wp2_with fail
      refine (d21first_any _).mono ?_
      rintro e wZ ⟨rfl, hbZ⟩
      go_wp2_with fail
      go_ret
      exact ⟨rfl, H4.out.trans (hbZ.mono H4.out.size)⟩
  | true =>
  have l1 := HL0.out (by trivial)
  have l2 := HL1.out (by trivial)
  have l3 := HL2.out (by trivial)
  have M1 := Lib.hid (fun W (h : Below w.heap.size w W) => map_any va la W (RdF.below HA.out h (Nat.le_refl _)) (by omega))
  have M2 := Lib.hid (fun W (h : Below w.heap.size w W) => map_any vb lb W (RdF.below HB.out h (Nat.le_refl _)) (by omega))
  have M3 := Lib.hid (fun W (h : Below w.heap.size w W) => map_any vc lc W (RdF.below HC.out h (Nat.le_refl _)) (by omega))
  clear HA HB HC HL0 HL1 HL2
  go_wp2_with fail
  refine (M1.out _ H4.out).mono ?_
  rintro e w5 ⟨b1, rfl, _, hm1, hb5⟩
  have H5 := Lib.hid (And.intro hm1 (H4.out.trans (hb5.mono H4.out.size)))
  clear hm1 hb5 H4 M1
  go_wp2_with fail
  refine (M2.out _ H5.out.2).mono ?_
  rintro e w6 ⟨b2, rfl, _, hm2, hb6⟩
  have H6 := Lib.hid (And.intro (H5.out.1.below hb6) (And.intro hm2 (H5.out.2.trans (hb6.mono H5.out.2.size))))
  clear hm2 hb6 H5 M2
  go_wp2_with fail
  refine (M3.out _ H6.out.2.2).mono ?_
  rintro e w7 ⟨b3, rfl, _, hm3, hb7⟩
  obtain ⟨ta, hta, _⟩ := H6.out.1.below hb7
  obtain ⟨tb, htb, _⟩ := H6.out.2.1.below hb7
  obtain ⟨tc, htc, _⟩ := hm3
  have S7 : Hid (StT w w7 b1 b2 b3 ta tb tc) := Lib.hid ⟨H6.out.2.2.trans (hb7.mono H6.out.2.2.size), hta.wide l1, htb.wide l2, htc.wide l3⟩
  obtain ⟨L, hL⟩ := chgL_forms hta.ws htb.ws
  obtain ⟨M, hM⟩ := chgL_forms htb.ws htc.ws
  obtain ⟨N, hN⟩ := chgL_forms hta.ws htc.ws
  obtain ⟨lp, hlp⟩ := prs_plain htc.ws
  have hlL : L.length ≤ 400 := by
    have h1 := chgL_len ta tb
    rw [hL, List.length_map] at h1
    have := hta.len; have := htb.len; omega
  have hlM : M.length ≤ 400 := by
    have h1 := chgL_len tb tc
    rw [hM, List.length_map] at h1
    have := htb.len; have := htc.len; omega
  have hlN : N.length ≤ 400 := by
    have h1 := chgL_len ta tc
    rw [hN, List.length_map] at h1
    have := hta.len; have := htc.len; omega
  have hNs : N.length ≤ L.length + M.length := steps_len hta.ws htb.ws htc.ws hta.rs htb.rs htc.rs hL hM hN
  have HF1 := Lib.hid (steps_fold hta.ws htb.ws htc.ws hta.rs htb.rs htc.rs hL hM)
  have HF2 := Lib.hid (fold_chg hta.ws htc.ws hta.rs htc.rs hN)
  have HRI := Lib.hid (chgL_ris hta.ws htc.ws hta.rs htc.rs hN)
  have HNV := Lib.hid (fun c (h : c ∈ N) (g : c.2.2 = true) => chg_noval hta.ws htc.ws hN h g)
  have HLP := Lib.hid hlp
  have HLL := Lib.hid (And.intro hL (And.intro hM hN))
  have e20 : (1048576 : Int).toNat = 1048576 := rfl
  have eT := Lib.hid (And.intro (show L.take (1048576 : Int).toNat = L from List.take_of_length_le (by omega)) (And.intro (show M.take (1048576 : Int).toNat = M from List.take_of_length_le (by omega)) (show N.take (1048576 : Int).toNat = N from List.take_of_length_le (by omega))))
  clear hta htb htc hb7 H6 M3 hL hM hN hlp e20 l1 l2 l3
  have CO0 := Lib.hid (ofSS_any (.pointer (some ⟨b1, 0, none⟩)) (.pointer (some ⟨b2, 0, none⟩)) ta tb w7 (.inl ⟨b1, rfl, S7.out.t1.mp⟩) (.inl ⟨b2, rfl, S7.out.t2.mp⟩))
  go_wp2_with fail
  refine CO0.out.mono ?_
  rintro e wA0 ⟨ba0, bb0, c1, c2, rfl, g1, g2, g3, g4, hbb⟩
  have SA0 := Lib.hid (S7.out.up hbb)
  have CR0 := Lib.hid (by have := ranged_of (ofP_of g1 g2 SA0.out.t1 SA0.out.t2 (by omega) (by omega)) g3 g4 HLL.out.1 (by omega) 1048576 (by decide) wA0 (Below.refl _ _); rw [eT.out.1] at this; exact this)
  clear g1 g2 g3 g4 hbb S7 CO0
  go_wp2_with fail
  refine CR0.out.mono ?_
  intro e wB0 h8
  obtain ⟨v0, rfl, hr8, hb8⟩ := h8
  have SB0 := Lib.hid (SA0.out.up hb8)
  have R0 := Lib.hid (And.intro (rdc_row hr8) (rdc_nil hr8))
  clear hr8 hb8 SA0 CR0
  have CO1 := Lib.hid (ofSS_any (.pointer (some ⟨b2, 0, none⟩)) (.pointer (some ⟨b3, 0, none⟩)) tb tc wB0 (.inl ⟨b2, rfl, SB0.out.t2.mp⟩) (.inl ⟨b3, rfl, SB0.out.t3.mp⟩))
  go_wp2_with fail
  refine CO1.out.mono ?_
  rintro e wA1 ⟨ba1, bb1, c1, c2, rfl, g1, g2, g3, g4, hbb⟩
  have SA1 := Lib.hid (SB0.out.up hbb)
  have R0A1 := Lib.hid (And.intro (rdcUp R0.out.1 hbb) R0.out.2)
  clear R0
  have CR1 := Lib.hid (by have := ranged_of (ofP_of g1 g2 SA1.out.t2 SA1.out.t3 (by omega) (by omega)) g3 g4 HLL.out.2.1 (by omega) 1048576 (by decide) wA1 (Below.refl _ _); rw [eT.out.2.1] at this; exact this)
  clear g1 g2 g3 g4 hbb SB0 CO1
  go_wp2_with fail
  refine CR1.out.mono ?_
  intro e wB1 h8
  obtain ⟨v1, rfl, hr8, hb8⟩ := h8
  have SB1 := Lib.hid (SA1.out.up hb8)
  have R0 := Lib.hid (And.intro (rdcUp R0A1.out.1 hb8) R0A1.out.2)
  clear R0A1
  have R1 := Lib.hid (And.intro (rdc_row hr8) (rdc_nil hr8))
  clear hr8 hb8 SA1 CR1
  have CO2 := Lib.hid (ofSS_any (.pointer (some ⟨b1, 0, none⟩)) (.pointer (some ⟨b3, 0, none⟩)) ta tc wB1 (.inl ⟨b1, rfl, SB1.out.t1.mp⟩) (.inl ⟨b3, rfl, SB1.out.t3.mp⟩))
  go_wp2_with fail
  refine CO2.out.mono ?_
  rintro e wA2 ⟨ba2, bb2, c1, c2, rfl, g1, g2, g3, g4, hbb⟩
  have SA2 := Lib.hid (SB1.out.up hbb)
  have R0A2 := Lib.hid (And.intro (rdcUp R0.out.1 hbb) R0.out.2)
  clear R0
  have R1A2 := Lib.hid (And.intro (rdcUp R1.out.1 hbb) R1.out.2)
  clear R1
  have CR2 := Lib.hid (by have := ranged_of (ofP_of g1 g2 SA2.out.t1 SA2.out.t3 (by omega) (by omega)) g3 g4 HLL.out.2.2 (by omega) 1048576 (by decide) wA2 (Below.refl _ _); rw [eT.out.2.2] at this; exact this)
  clear g1 g2 g3 g4 hbb SB1 CO2
  go_wp2_with fail
  refine CR2.out.mono ?_
  intro e wB2 h8
  obtain ⟨v2, rfl, hr8, hb8⟩ := h8
  have SB2 := Lib.hid (SA2.out.up hb8)
  have R0 := Lib.hid (And.intro (rdcUp R0A2.out.1 hb8) R0A2.out.2)
  clear R0A2
  have R1 := Lib.hid (And.intro (rdcUp R1A2.out.1 hb8) R1A2.out.2)
  clear R1A2
  have R2 := Lib.hid (And.intro (rdc_row hr8) (rdc_nil hr8))
  clear hr8 hb8 SA2 CR2
  -- APPEND
  obtain ⟨ba, oa, rfl⟩ : ∃ a c, v0 = .slice a L.length c := by obtain ⟨a, c, h, _⟩ := R0.out.1.form; exact ⟨a, c, h⟩
  obtain ⟨bm, om, rfl⟩ : ∃ a c, v1 = .slice a M.length c := by obtain ⟨a, c, h, _⟩ := R1.out.1.form; exact ⟨a, c, h⟩
  obtain ⟨bn, on, rfl⟩ : ∃ a c, v2 = .slice a N.length c := by obtain ⟨a, c, h, _⟩ := R2.out.1.form; exact ⟨a, c, h⟩
  have hM0 : (wB2.alloc (.cells #[] 48)).ownsRow wB2.heap.size 48 3 (.slice (some ⟨wB2.heap.size, 0, none⟩) 0 0) 0 [] := World.ownsRow_made wB2 #[] 0 (Nat.le_refl _) (by decide) rfl
  have HM0 := Lib.hid hM0
  have R0' := Lib.hid (RdF.below R0.out.1 (below_alloc wB2 (.cells #[] 48)) (Nat.le_refl _) : RdC _ _ L)
  clear hM0
  go_wp2_with (at_builtin; refine hold ?_)
  intro _
  refine wpList_appendF (by rfl) _ _ 35 (by rfl) wB2.heap.size 48 i0 _ 3 40 Try.underlying35 hi hz0 hz1 hz2 rfl (by decide) _ 0 [] (by rfl) HM0.out _ (L.map cellsC) (cellsC_len L) one_cells (by rfl) R0'.out R0.out.2 ?_ ?_ ?_ ?_
  · rw [List.length_map]; unfold maxLen; omega
  · rw [List.length_map]; omega
  · simp
  intro v3 wC ho hg
  have HC1 : Hid (wC.ownsRow wB2.heap.size 48 3 v3 L.length (L.map cellsC).flatten ∧ Below wB2.heap.size wB2 wC) := Lib.hid ⟨by simpa using ho, ((Below.refl _ _).alloc (Nat.le_refl _) _).grown hg (by simp) (fun j ej => (World.ownsRow.lt HM0.out j ej).1)⟩
  have SC := Lib.hid (SB2.out.up HC1.out.2)
  have R1C := Lib.hid (And.intro (rdcUp R1.out.1 HC1.out.2) R1.out.2)
  clear ho hg HM0 R0 R0' R1
  go_wp2_with (at_builtin; refine hold ?_)
  intro _
  refine wpList_appendF (by rfl) _ _ 35 (by rfl) wB2.heap.size 48 i0 _ 3 40 Try.underlying35 hi hz0 hz1 hz2 rfl (by decide) _ L.length _ (by rfl) HC1.out.1 _ (M.map cellsC) (cellsC_len M) one_cells (by rfl) R1C.out.1 R1C.out.2 ?_ ?_ ?_ ?_
  · rw [List.length_map]; unfold maxLen; omega
  · rw [List.length_map]; omega
  · exact HC1.out.2.size
  intro v4 wD ho hg
  have hD : Below wB2.heap.size wB2 wD := HC1.out.2.grown hg HC1.out.2.size (fun j ej => (World.ownsRow.lt HC1.out.1 j ej).1)
  have SD := Lib.hid (SB2.out.up hD)
  have R2D := Lib.hid (rdcUp R2.out.1 hD)
  have hr4 : RdC wD v4 (L ++ M) := RdF.of_row (cellsC_len _) (by simpa using ho)
  have CF := Lib.hid (fold_any (.pointer (some ⟨b1, 0, none⟩)) v4 (L ++ M) 200 ta wD (.inl ⟨b1, rfl, SD.out.t1.mp⟩) SD.out.t1.ws SD.out.t1.rs SD.out.t1.ht SD.out.t1.len (by omega) hr4 (by rw [List.length_append]; omega))
  clear ho hg hD hr4 HC1 SC R1C SB2 R2
  go_wp2_with fail
  refine CF.out.mono ?_
  rintro e wE ⟨be, te, rfl, _, hte, hpe, hbE⟩
  have SE := Lib.hid (SD.out.up hbE)
  have R2E := Lib.hid (rdcUp R2D.out hbE)
  have CPe := Lib.hid (pairs21_any hte (by rw [List.length_append]; omega) (by rw [hpe, HF1.out]; exact HLP.out))
  clear hte hpe hbE SD R2D CF
  go_wp2_with fail
  refine CPe.out.mono ?_
  rintro e wF ⟨vP, rfl, hrP, hbF⟩
  have SF := Lib.hid (SE.out.up hbF)
  have R2F := Lib.hid (rdcUp R2E.out hbF)
  have RP := Lib.hid hrP
  have CFn := Lib.hid (fold_any (.pointer (some ⟨b1, 0, none⟩)) _ N 200 ta wF (.inl ⟨b1, rfl, SF.out.t1.mp⟩) SF.out.t1.ws SF.out.t1.rs SF.out.t1.ht SF.out.t1.len (by omega) R2F.out (by omega))
  clear hrP hbF SE R2E CPe
  go_wp2_with fail
  refine CFn.out.mono ?_
  rintro e wG ⟨bg, tg, rfl, _, htg, hpg, hbG⟩
  have SG := Lib.hid (SF.out.up hbG)
  have R2G := Lib.hid (rdcUp R2F.out hbG)
  have RPG := Lib.hid (rdpUp RP.out hbG)
  have CPg := Lib.hid (pairs21_any htg (by omega) (by rw [hpg, HF2.out]; exact HLP.out))
  clear htg hpg hbG SF R2F RP CFn
  go_wp2_with fail
  refine CPg.out.mono ?_
  rintro e wH ⟨vQ, rfl, hrQ, hbH⟩
  have SH := Lib.hid (SG.out.up hbH)
  have R2H := Lib.hid (rdcUp R2G.out hbH)
  have CS := Lib.hid (samepairs_any vP vQ lp wH (RdF.below RPG.out hbH (Nat.le_refl _)) hrQ)
  clear hrQ hbH SG R2G RPG CPg
  go_wp2_with fail
  refine CS.out.mono ?_
  rintro e wI ⟨rfl, hbI⟩
  have HI := Lib.hid (And.intro (SH.out.up hbI).hb (rdcUp R2H.out hbI))
  have gsum : ¬ (L.length : Int) + (M.length : Int) < (N.length : Int) := by omega
  clear hbI SH R2H CS HLP HF1 HF2
  go_wp2_with fail
  clear gsum
  go_loopw [14] (fun i wr => ∃ (k q : Nat), 1 ≤ k ∧ k ≤ N.length + 1 ∧ i = .int .i64 (k : Int) ∧ wr = wI.drewN q) (fun i _ => N.length + 1 - (intOf i).toNat)
  case atStart => exact ⟨1, 0, Nat.le_refl _, by omega, rfl, rfl⟩
  case round =>
    obtain ⟨k, q, hk1, hk2, rfl, rfl⟩ := hrel
    by_cases hlt : k < N.length
    · have g3 : (k : Int) < (N.length : Int) := by omega
      have g4 : (0 : Int) ≤ (k : Int) := by omega
      obtain ⟨m, hm⟩ : ∃ m, m + 1 = k := ⟨k - 1, by omega⟩
      have tm : IntKind.i64.wrap ((k : Int) - 1) = (m : Int) := by rw [show (k : Int) - 1 = (m : Int) by omega]; exact IntWalk.i64_in _ (by omega)
      have gm : (m : Int) < (N.length : Int) := by omega
      have gm0 : (0 : Int) ≤ (m : Int) := by omega
      have hmN : m < N.length := by omega
      obtain ⟨bN, oN, rfl, c0, c1, c2⟩ := HI.out.2.get hlt
      obtain ⟨bN', oN', hE, d0, d1, d2⟩ := HI.out.2.get hmN
      cases hE
      obtain ⟨hl1, hl2⟩ := rise_le (by have := risC_next HRI.out (i := m) (by omega); exact this)
      obtain ⟨x, hx⟩ : ∃ x, x = N[k].1 := ⟨_, rfl⟩
      obtain ⟨y, hy⟩ : ∃ y, y = N[m].1 := ⟨_, rfl⟩
      have hx' : N[m + 1].1 = x := by rw [hx]; congr 1; congr 1
      rw [hx', ← hy] at hl1 hl2
      rw [← hx] at c0
      rw [← hy] at d0
      clear c1 c2 d1 d2 hx hx' hy HI HRI HNV hm hmN
      go_wp2_with fail
      go_quiet (fail)
      go_wp2_with fail
      go_roundw
      case rel => exact ⟨k + 1, _, by omega, by omega, by go_num, rfl⟩
      case measure => simp [intOf]; omega
    · have g3 : ¬ (k : Int) < (N.length : Int) := by omega
      go_wp2_with fail
      clear g3 hlt hk1 hk2
      go_loop [15] (fun i => ∃ j : Nat, j ≤ N.length ∧ i = .int .i64 (j : Int)) (fun i => N.length - (intOf i).toNat)
      case atStart => exact ⟨0, Nat.zero_le _, rfl⟩
      case round =>
        obtain ⟨j, hj, rfl⟩ := hrel
        by_cases hlt : j < N.length
        · have g3 : (j : Int) < (N.length : Int) := by omega
          have g4 : (0 : Int) ≤ (j : Int) := by omega
          obtain ⟨bN, oN, rfl, c0, c1, c2⟩ := HI.out.2.get hlt
          have hnv := HNV.out N[j] (List.getElem_mem hlt)
          obtain ⟨⟨ck, cv1, cg⟩, hc⟩ : ∃ c, c = N[j] := ⟨_, rfl⟩
          rw [← hc] at c0 c1 c2 hnv
          dsimp only at c0 c1 c2 hnv
          clear hc HI HRI HNV c0
          cases cg with
          | true =>
            obtain rfl := hnv rfl
            clear hnv
            go_wp2_with fail
            go_round
            case rel => exact ⟨j + 1, by omega, by go_num⟩
            case measure => simp [intOf]; omega
          | false =>
            clear hnv
            go_wp2_with fail
            go_round
            case rel => exact ⟨j + 1, by omega, by go_num⟩
            case measure => simp [intOf]; omega
        · have g3 : ¬ (j : Int) < (N.length : Int) := by omega
          have HW := Lib.hid (Below.drewsN HI.out.1 q)
          go_wp2_with fail
          refine (d21first_any _).mono ?_
          rintro e wZ ⟨rfl, hbZ⟩
          go_wp2_with fail
          go_ret
          exact ⟨rfl, HW.out.trans (hbZ.mono HW.out.size)⟩
end Go.Proofs.Yteibiaplmmdppaa
