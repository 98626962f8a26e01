import Derived.Test.YtcgjiddiegepkaaRxSt
import Derived.Test.YtcgjiddiegepkaaTxRange
import Derived.Deep.RegionHeld3
import Derived.Deep.CutRange
import Derived.Deep.CutBlock
import Derived.Deep.QuietTactic
import Derived.BigQuiet
import Derived.Test.YtcgjiddiegepkaaKit
import Derived.Test.YtcgjiddiegepkaaRows
import Derived.Deep.RegionHeld
import Derived.Test.YtcgjiddiegepkaaTxWith
/- hblref11.Txn's Scan, plainly. -/
namespace Go.Proofs.Ytcgjiddiegepkaa
open Go.RowKit
/-- What is seen with writes of a kind. -/
def sawF (f : List UInt8 → Bool) (A : List PairT) (L : OwnL) : List PairT := sawP A (L.filter (fun x => f x.1))
def tellF (f : List UInt8 → Bool) (x : List UInt8 × WrT) : List PairT := if f x.1 = true then tellW x else []
variable {f : List UInt8 → Bool}
theorem sawF_end (A : List PairT) : sawF f A [] = A := saw_end A
theorem sawF_nil (x : List UInt8 × WrT) (t : OwnL) : sawF f [] (x :: t) = tellF f x ++ sawF f [] t := by
  unfold sawF tellF
  cases h : f x.1 with
  | true => rw [List.filter_cons_of_pos (by simpa using h), sawP]; simp
  | false => rw [List.filter_cons_of_neg (by simp [h])]; simp
theorem sawF_less {a : PairT} {A : List PairT} {x : List UInt8 × WrT} {t : OwnL} (h : Op.bytesLess x.1 a.1 = true) : sawF f (a :: A) (x :: t) = tellF f x ++ sawF f (a :: A) t := by
  have h2 : Op.bytesLess a.1 x.1 = false := by
    cases e : Op.bytesLess a.1 x.1 with
    | false => rfl
    | true => have := bl_tr _ _ _ h e; rw [bl_irr] at this; cases this
  unfold sawF tellF
  cases hf : f x.1 with
  | true => rw [List.filter_cons_of_pos (by simpa using hf), sawP, if_neg (by simp [h2]), if_pos h]; simp
  | false => rw [List.filter_cons_of_neg (by simp [hf])]; simp
theorem sawF_same {a : PairT} {A : List PairT} {x : List UInt8 × WrT} {t : OwnL} (h : x.1 = a.1) (hf : f a.1 = true) : sawF f (a :: A) (x :: t) = tellF f x ++ sawF f A t := by
  have hf2 : f x.1 = true := by rw [h]; exact hf
  have h1 : Op.bytesLess a.1 x.1 = false := by rw [h]; exact bl_irr _
  have h2 : Op.bytesLess x.1 a.1 = false := by rw [h]; exact bl_irr _
  unfold sawF tellF
  rw [List.filter_cons_of_pos (by simpa using hf2), sawP, if_neg (by simp [h1]), if_neg (by simp [h2]), if_pos hf2]
theorem sawF_more {a : PairT} {A : List PairT} {T : OwnL} (h : ∀ y ∈ T, Op.bytesLess a.1 y.1 = true) : sawF f (a :: A) T = a :: sawF f A T := by
  unfold sawF
  cases e : T.filter (fun x => f x.1) with
  | nil => rw [saw_end, saw_end]
  | cons y t =>
    have hy : y ∈ T := (List.mem_filter.1 (by rw [e]; simp : y ∈ T.filter (fun x => f x.1))).1
    rw [sawP, if_pos (h y hy)]
theorem sawF_eq {A : List PairT} {L : OwnL} (ha : RisB A) (hl : RisB L) : sawF f (A.filter (fun z => f z.1)) L = (sawP A L).filter (fun z => f z.1) := saw_filter ha hl f
/-- Three ways to compare. -/
theorem cmp3 (a b : List UInt8) : (Op.bytesLess a b = true ∧ Op.bytesLess b a = false ∧ (a == b) = false ∧ (b == a) = false) ∨ (a = b) ∨ (Op.bytesLess a b = false ∧ Op.bytesLess b a = true ∧ (a == b) = false ∧ (b == a) = false) := by
  cases h1 : Op.bytesLess a b with
  | true =>
    have h2 : Op.bytesLess b a = false := by
      cases e : Op.bytesLess b a with
      | false => rfl
      | true => have := bl_tr _ _ _ h1 e; rw [bl_irr] at this; cases this
    exact .inl ⟨rfl, h2, beq_eq_false_iff_ne.2 (lt_ne h1), beq_eq_false_iff_ne.2 (lt_ne h1).symm⟩
  | false =>
    cases h2 : Op.bytesLess b a with
    | true => exact .inr (.inr ⟨rfl, rfl, beq_eq_false_iff_ne.2 (lt_ne h2).symm, beq_eq_false_iff_ne.2 (lt_ne h2)⟩)
    | false => exact .inr (.inl (bl_tot _ _ h1 h2))
/-- How far Scan is: i of the pairs, k of the writes. -/
structure ScI (f : List UInt8 → Bool) (A : List PairT) (L : OwnL) (i k : Nat) (out : List PairT) : Prop where
  hi : i ≤ A.length
  hk : k ≤ L.length
  up : ∀ j (h : j < L.length) (h' : i < A.length), j < k → Op.bytesLess A[i].1 L[j].1 = false
  eq : (∃ (h : i < A.length) (h' : 0 < k), (L[k - 1]'(by omega)).1 = A[i].1) → out ++ sawF f (A.drop (i + 1)) (L.drop k) = sawF f A L
  ne : ¬ (∃ (h : i < A.length) (h' : 0 < k), (L[k - 1]'(by omega)).1 = A[i].1) → out ++ sawF f (A.drop i) (L.drop k) = sawF f A L
variable {A : List PairT} {L : OwnL} {i k : Nat} {out : List PairT}
theorem ScI.start : ScI f A L 0 0 [] := ⟨Nat.zero_le _, Nat.zero_le _, fun _ _ _ h => absurd h (by omega), fun ⟨_, h, _⟩ => absurd h (by omega), fun _ => by simp⟩
/-- A write more: nothing more of the pairs. -/
theorem ScI.last (h : ScI f A L i k out) (hi : i = A.length) (hk : k < L.length) : ScI f A L i (k + 1) (out ++ tellF f L[k]) := by
  refine ⟨h.hi, hk, fun j _ h' => absurd h' (by omega), fun ⟨h1, _⟩ => absurd h1 (by omega), fun _ => ?_⟩
  have := h.ne (fun ⟨h1, _⟩ => absurd h1 (by omega))
  rw [List.drop_eq_nil_of_le (by omega)] at this ⊢
  rw [List.drop_eq_getElem_cons hk, sawF_nil, ← List.append_assoc] at this
  exact this
theorem ScI.no (_ : ScI f A L i k out) (hl : RisB L) (hi : i < A.length) (hk : k < L.length) (hle : Op.bytesLess A[i].1 L[k].1 = false) : ¬ (∃ (h1 : i < A.length) (h' : 0 < k), (L[k - 1]'(by omega)).1 = A[i].1) := by
  rintro ⟨_, h0, e⟩
  have := (List.pairwise_iff_getElem.1 hl) (k - 1) k (by omega) hk (by omega)
  rw [e, hle] at this; cases this
/-- A write that is not above the next pair. -/
theorem ScI.write (h : ScI f A L i k out) (hl : RisB L) (hi : i < A.length) (hk : k < L.length) (hle : Op.bytesLess A[i].1 L[k].1 = false) (hf : ∀ z ∈ A, f z.1 = true) : ScI f A L i (k + 1) (out ++ tellF f L[k]) := by
  have hno := h.ne (h.no hl hi hk hle)
  rw [List.drop_eq_getElem_cons hk, List.drop_eq_getElem_cons hi] at hno
  refine ⟨h.hi, hk, fun j hj h' hjk => ?_, fun ⟨h1, _, e⟩ => ?_, fun hn => ?_⟩
  · by_cases e : j = k
    · subst e; exact hle
    · exact h.up j hj h' (by omega)
  · have e' : L[k].1 = A[i].1 := e
    rw [sawF_same e' (hf _ (List.getElem_mem hi)), ← List.append_assoc] at hno
    exact hno
  · have hne : L[k].1 ≠ A[i].1 := fun e => hn ⟨hi, by omega, e⟩
    have hlt : Op.bytesLess L[k].1 A[i].1 = true := by
      cases e : Op.bytesLess L[k].1 A[i].1 with
      | true => rfl
      | false => exact absurd (bl_tot _ _ e hle) hne
    rw [sawF_less hlt, ← List.append_assoc, ← List.drop_eq_getElem_cons hi] at hno
    exact hno
/-- The writes so far are not above the next pair: on to the next one. -/
theorem ScI.next (h : ScI f A L i k out) (ha : RisB A) (hl : RisB L) (hi : i < A.length) (hstop : ∀ hk : k < L.length, Op.bytesLess A[i].1 L[k].1 = true) :
    ((∃ (_ : 0 < k) (h2 : k - 1 < L.length), (L[k - 1]'h2).1 = A[i].1) → ScI f A L (i + 1) k out) ∧ (¬ (∃ (_ : 0 < k) (h2 : k - 1 < L.length), (L[k - 1]'h2).1 = A[i].1) → ScI f A L (i + 1) k (out ++ [A[i]])) := by
  have hup : ∀ j (hj : j < L.length) (h' : i + 1 < A.length), j < k → Op.bytesLess L[j].1 A[i + 1].1 = true := fun j hj h' hjk => by
    have h1 := h.up j hj hi hjk
    have h2 := (List.pairwise_iff_getElem.1 ha) i (i + 1) hi h' (by omega)
    cases e : Op.bytesLess L[j].1 A[i].1 with
    | true => exact bl_tr _ _ _ e h2
    | false => rw [bl_tot _ _ e h1]; exact h2
  have hup2 : ∀ j (hj : j < L.length) (h' : i + 1 < A.length), j < k → Op.bytesLess A[i + 1].1 L[j].1 = false := fun j hj h' hjk => by
    cases e : Op.bytesLess A[i + 1].1 L[j].1 with
    | false => rfl
    | true => have := bl_tr _ _ _ e (hup j hj h' hjk); rw [bl_irr] at this; cases this
  have hne : ¬ (∃ (h1 : i + 1 < A.length) (h' : 0 < k), (L[k - 1]'(by have := h.hk; omega)).1 = A[i + 1].1) := by
    rintro ⟨h1, h2, e⟩
    have := hup (k - 1) (by have := h.hk; omega) h1 (by omega)
    rw [e, bl_irr] at this; cases this
  refine ⟨fun hd => ⟨hi, h.hk, hup2, fun hx => absurd hx hne, fun _ => h.eq ⟨hi, hd.1, hd.2.2⟩⟩, fun hd => ⟨hi, h.hk, hup2, fun hx => absurd hx hne, fun _ => ?_⟩⟩
  have hno := h.ne (fun ⟨_, h0, hx⟩ => hd ⟨h0, by have := h.hk; omega, hx⟩)
  rw [List.drop_eq_getElem_cons hi, sawF_more (fun y hy => ?_), List.append_cons] at hno
  · exact hno
  · obtain ⟨j, hj, rfl⟩ := List.mem_iff_getElem.1 hy
    rw [List.length_drop] at hj
    rw [List.getElem_drop]
    have hk : k < L.length := by omega
    by_cases e : j = 0
    · subst e; exact hstop hk
    · exact bl_tr _ _ _ (hstop hk) ((List.pairwise_iff_getElem.1 hl) k (k + j) hk (by omega) (by omega))
theorem ScI.fin (h : ScI f A L i k out) (hi : i = A.length) (hk : k = L.length) : out = sawF f A L := by
  have := h.ne (fun ⟨h1, _⟩ => absurd h1 (by omega))
  rw [List.drop_eq_nil_of_le (by omega), List.drop_eq_nil_of_le (by omega), sawF_end, List.append_nil] at this
  exact this
theorem tellF_cell (x : List UInt8 × WrT) : tellF f x = if (!x.2.2.2 && f x.1) = true then [(x.1, x.2.2.1)] else [] := by
  unfold tellF tellW
  cases f x.1 <;> cases x.2.2.2 <;> rfl
end Go.Proofs.Ytcgjiddiegepkaa

/- hblref11.Txn's Scan, Prefix: the walk. -/
namespace Go.Proofs.Ytcgjiddiegepkaa
open Go.RowKit
variable {W : World} {B rb b : Nat} {at1 : Int} {vo : Value} {L : OwnL}
theorem rx_rdp {W : World} {base : Nat} {v : Value} {l : List PairT} (h : W.ownsRow base 63 2 v l.length (l.map cellsP).flatten) : RdP W v l :=
  RdF.of_row (fun r hr => by obtain ⟨y, _, rfl⟩ := List.mem_map.1 hr; rfl) (by simpa using h)
theorem sawF_len {f : List UInt8 → Bool} (A : List PairT) (L : OwnL) : (sawF f A L).length ≤ A.length + L.length := by
  unfold sawF
  rw [← saw_plain]
  have h1 : (seenW (mrgL (A.map stW) ((L.filter (fun x => f x.1)).map (pairB fW)))).length ≤ (mrgL (A.map stW) ((L.filter (fun x => f x.1)).map (pairB fW))).length := List.length_filterMap_le _ _
  have h2 := mrgL_len (A.map stW) ((L.filter (fun x => f x.1)).map (pairB fW))
  have h3 := List.length_filter_le (fun x : List UInt8 × WrT => f x.1) L
  simp only [List.length_map] at h2
  omega
theorem ScI.len {f : List UInt8 → Bool} {A : List PairT} {i k : Nat} {out : List PairT} (h : ScI f A L i k out) : out.length ≤ A.length + L.length := by
  have h1 := sawF_len (f := f) A L
  by_cases e : ∃ (h1 : i < A.length) (h' : 0 < k), (L[k - 1]'(by have := h.hk; omega)).1 = A[i].1
  · rw [← h.eq e, List.length_append] at h1; omega
  · rw [← h.ne e, List.length_append] at h1; omega
/-- Behind the inner loop's test. -/
def ScY (f : List UInt8 → Bool) (A : List PairT) (L : OwnL) (i k : Nat) (O : List PairT) (yes : Bool) : Prop := (yes = true → ∃ hk : k < L.length, ScI f A L i (k + 1) (O ++ tellF f L[k])) ∧ (yes = false → (∀ (hi : i < A.length) (hk : k < L.length), Op.bytesLess A[i].1 L[k].1 = true) ∧ (i = A.length → k = L.length))
/-- At the head of the loop. -/
def ScJ (f : List UInt8 → Bool) (A : List PairT) (L : OwnL) (i k : Nat) (out : List PairT) : Prop := (i ≤ A.length ∧ ScI f A L i k out) ∨ (i = A.length + 1 ∧ out = sawF f A L)
theorem scq {w1 wr : World} {v : Value} {n q : Nat} {xs : List Value} (h : wr.ownsRow w1.heap.size 63 2 v n xs ∧ Below w1.heap.size w1 wr) : (wr.drewN q).ownsRow w1.heap.size 63 2 v n xs ∧ Below w1.heap.size w1 (wr.drewN q) :=
  ⟨owns_below h.1 (Below.drewsN (Below.refl _ _) q) (Nat.le_refl _), h.2.trans ((Below.drewsN (Below.refl _ wr) q).mono h.2.size)⟩
set_option maxRecDepth 100000 in
set_option maxHeartbeats 16000000 in
theorem rxScan_any (h : RT W B rb b at1 vo L) (lo hi : List UInt8) (A : List PairT) (ha : RisB A) (hA : A.length ≤ 100000) (hf : ∀ z ∈ A, inR lo hi z.1 = true) (cs : ∀ W', Below W.heap.size W W' → Calls Try.prog 53 #[.pointer (some ⟨b, 0, none⟩), str lo, str hi, .int .i64 at1] W' (PrsP W' A)) :
    Calls Try.prog 30 #[.pointer (some ⟨rb, 0, none⟩), str lo, str hi] W (PrsP W (sawF (inR lo hi) A L)) := by
  obtain ⟨i0, hi0, hz0, hz1, hz2⟩ := info_parts infoPair
  have HR := Lib.hid h
  have HA := Lib.hid (And.intro ha hf)
  obtain ⟨a3, c3, rfl⟩ := h.form
  have hln := h.ln
  obtain ⟨q0, q1, _, _⟩ := h.cells
  have hb1 : Below W.heap.size W W.drew := Below.drewsN (Below.refl _ _) 1
  have HB1 := Lib.hid hb1
  have CS := Lib.hid (cs W.drew hb1)
  have HQ0 : Hid (∀ W', Below W.drew.heap.size W.drew W' → W'.cell? ⟨rb, 0, none⟩ = some (.pointer (some ⟨b, 0, none⟩)) ∧ W'.cell? ⟨rb, 1, none⟩ = some (.int .i64 at1)) := Lib.hid (fun W' hb => by
    have := ((HR.out.below hb1).below hb).cells
    exact ⟨this.1, this.2.1⟩)
  clear h ha hf cs hb1
  go_enter Try.func30, Try.ntmps30
  go_wp2_with fail
  go_region_held3 (fun W' => W'.cell? ⟨rb, 0, none⟩ = some (.pointer (some ⟨b, 0, none⟩)) ∧ W'.cell? ⟨rb, 1, none⟩ = some (.int .i64 at1))
    (first
      | (exact ⟨q0, q1⟩)
      | (exact HQ0.out _ hb9)
      | go_keep)
    ((first
      | (go_at_call 53; refine CS.out.mono ?_; rintro e w1 ⟨vl, rfl, hr9, hb9⟩)
      | fail))
  have HB := Lib.hid (HB1.out.trans (hb9.mono HB1.out.size))
  have HP : Hid (RdP w1 vl A) := Lib.hid (rx_rdp hr9)
  have HR1 := Lib.hid (HR.out.below HB.out)
  obtain ⟨al, cl, rfl, -⟩ := HP.out.form
  clear hr9 hb9 HR HQ0 CS HB1 q0 q1
  go_wp2_with fail
  go_loopw [8, 9, 10] (fun vo vk vi wr => ∃ (i k : Nat) (O : List PairT), i ≤ A.length + 1 ∧ vk = .int .i64 (k : Int) ∧ vi = .int .i64 (i : Int) ∧ Hid (ScJ (inR lo hi) A L i k O) ∧ Hid (wr.ownsRow w1.heap.size 63 2 vo O.length (O.map cellsP).flatten ∧ Below w1.heap.size w1 wr)) (fun _ _ vi _ => A.length + 1 - (intOf vi).toNat)
  case atStart => exact ⟨0, 0, [], Nat.zero_le _, rfl, rfl, Lib.hid (.inl ⟨Nat.zero_le _, ScI.start⟩), Lib.hid ⟨World.ownsRow_nil _ _ _ _, Below.refl _ _⟩⟩
  case round =>
    obtain ⟨i, k, O, hi1, rfl, rfl, HJ, HQ⟩ := hrel
    by_cases hlt : i ≤ A.length
    rotate_left
    · have g3 : decide ((i : Int) ≤ (A.length : Int)) = false := decide_eq_false (by omega)
      have g3' : ¬ (i : Int) ≤ (A.length : Int) := by omega
      have HE : Hid (O = sawF (inR lo hi) A L) := Lib.hid (by
        rcases HJ.out with h | h
        · exact absurd h.1 hlt
        · exact h.2)
      clear HJ
      go_wp2_with fail
      go_ret
      exact ⟨_, rfl, by rw [← HE.out]; exact row_mono HQ.out.1 HB.out.size, HB.out.trans (HQ.out.2.mono HB.out.size)⟩
    have g3 : decide ((i : Int) ≤ (A.length : Int)) = true := decide_eq_true (by omega)
    have g3' : (i : Int) ≤ (A.length : Int) := by omega
    have HI : Hid (ScI (inR lo hi) A L i k O) := Lib.hid (by
      rcases HJ.out with h | h
      · exact h.2
      · omega)
    clear HJ
    go_wp2_with fail
    go_loopw [8, 9] (fun vo vk wr => ∃ (k : Nat) (O : List PairT), vk = .int .i64 (k : Int) ∧ Hid (ScI (inR lo hi) A L i k O) ∧ Hid (wr.ownsRow w1.heap.size 63 2 vo O.length (O.map cellsP).flatten ∧ Below w1.heap.size w1 wr)) (fun _ vk _ => L.length - (intOf vk).toNat)
    case atStart => exact ⟨k, O, rfl, HI, HQ⟩
    case round =>
      clear HI HQ
      obtain ⟨k, O, rfl, HI, HQ⟩ := hrel
      obtain ⟨_, _, q2, _⟩ := (HR1.out.below HQ.out.2).cells
      have HOL : Hid (O.length ≤ 101000) := Lib.hid (by have := HI.out.len; omega)
      have hkl : k ≤ L.length := HI.out.hk
      go_upto_region 7 with fail
      go_cut [57] from 29 to 93 (fun v wc => ∃ (yes : Bool) (q : Nat), v = .bool yes ∧ Hid (ScY (inR lo hi) A L i k O yes) ∧ wc = wr.drewN q)
      case first =>
        by_cases hk2 : k < L.length
        · have g5 : decide ((k : Int) < (L.length : Int)) = true := decide_eq_true (by omega)
          have g5' : (k : Int) < (L.length : Int) := by omega
          have g6 : (0 : Int) ≤ (k : Int) := by omega
          obtain ⟨g, cap, he, _, c0, _⟩ := (HR1.out.below HQ.out.2).get hk2
          simp only [Value.slice.injEq, true_and] at he
          obtain ⟨rfl, rfl⟩ := he
          by_cases hin : i = A.length
          · have g7 : ((i : Int) == (A.length : Int)) = true := beq_iff_eq.2 (by omega)
            have HY : Hid (ScY (inR lo hi) A L i k O true) := Lib.hid ⟨fun _ => ⟨hk2, HI.out.last hin hk2⟩, fun h => (by cases h)⟩
            clear c0 HI hin
            go_wp2_with fail
            go_quiet (fail)
            go_wp2_with fail
            go_meet
            case rel => exact ⟨true, _, rfl, HY, rfl⟩
          have g7 : ((i : Int) == (A.length : Int)) = false := beq_eq_false_iff_ne.2 (by omega)
          have hia : i < A.length := by omega
          have g8 : (i : Int) < (A.length : Int) := by omega
          have g9 : (0 : Int) ≤ (i : Int) := by omega
          obtain ⟨bP, oP, rfl, d0, -⟩ := RdP.get (RdF.below HP.out HQ.out.2 (Nat.le_refl _)) hia
          rcases cmp3 L[k].1 A[i].1 with ⟨t1, t2, t3, t4⟩ | te | ⟨t1, t2, t3, t4⟩
          · have HY : Hid (ScY (inR lo hi) A L i k O true) := Lib.hid ⟨fun _ => ⟨hk2, HI.out.write HR1.out.rs hia hk2 t2 HA.out.2⟩, fun h => (by cases h)⟩
            obtain ⟨xk, hxk⟩ : ∃ xk, xk = L[k].1 := ⟨_, rfl⟩
            rw [← hxk] at c0 t1 t2 t3 t4
            obtain ⟨ak, hak⟩ : ∃ ak, ak = A[i].1 := ⟨_, rfl⟩
            rw [← hak] at d0 t1 t2 t3 t4
            clear hxk HI hak
            go_wp2_with fail
            go_quiet (fail)
            go_wp2_with fail
            go_meet
            case rel => exact ⟨true, _, rfl, HY, rfl⟩
          · have HY : Hid (ScY (inR lo hi) A L i k O true) := Lib.hid ⟨fun _ => ⟨hk2, HI.out.write HR1.out.rs hia hk2 (by rw [te]; exact bl_irr _) HA.out.2⟩, fun h => (by cases h)⟩
            obtain ⟨xk, hxk⟩ : ∃ xk, xk = L[k].1 := ⟨_, rfl⟩
            rw [← hxk] at c0 te
            rw [← te] at d0
            clear hxk HI te
            have t1 : Op.bytesLess xk xk = false := bl_irr xk
            have t2 : (xk == xk) = true := beq_self_eq_true xk
            go_wp2_with fail
            go_quiet (fail)
            go_wp2_with fail
            go_meet
            case rel => exact ⟨true, _, rfl, HY, rfl⟩
          · have HY : Hid (ScY (inR lo hi) A L i k O false) := Lib.hid ⟨fun h => (by cases h), fun _ => ⟨fun _ _ => t2, fun h => absurd h hin⟩⟩
            obtain ⟨xk, hxk⟩ : ∃ xk, xk = L[k].1 := ⟨_, rfl⟩
            rw [← hxk] at c0 t1 t2 t3 t4
            obtain ⟨ak, hak⟩ : ∃ ak, ak = A[i].1 := ⟨_, rfl⟩
            rw [← hak] at d0 t1 t2 t3 t4
            clear hxk HI hak
            go_wp2_with fail
            go_quiet (fail)
            go_wp2_with fail
            go_meet
            case rel => exact ⟨false, _, rfl, HY, rfl⟩
        · have g5 : decide ((k : Int) < (L.length : Int)) = false := decide_eq_false (by omega)
          have g5' : ¬ (k : Int) < (L.length : Int) := by omega
          have HY : Hid (ScY (inR lo hi) A L i k O false) := Lib.hid ⟨fun h => (by cases h), fun _ => ⟨fun _ hk => absurd hk hk2, fun _ => by omega⟩⟩
          clear HI
          go_wp2_with fail
          go_quiet (fail)
          go_wp2_with fail
          go_meet
          case rel => exact ⟨false, _, rfl, HY, rfl⟩
      case rest =>
        obtain ⟨yes, q, rfl, HY, hwq⟩ := hcut
        have HQ : Hid (wc.ownsRow w1.heap.size 63 2 u8 O.length (O.map cellsP).flatten ∧ Below w1.heap.size w1 wc) := Lib.hid (by rw [hwq]; exact scq HQ.out)
        clear hwq q2
        obtain ⟨wq, hwq⟩ : ∃ wq, wq = wc := ⟨_, rfl⟩
        rw [← hwq] at HQ ⊢
        clear hwq
        obtain ⟨_, _, q2, _⟩ := (HR1.out.below HQ.out.2).cells
        cases yes
        rotate_left
        · obtain ⟨hk2, hn⟩ := HY.out.1 rfl
          have HN := Lib.hid hn
          have g5' : (k : Int) < (L.length : Int) := by omega
          have g6 : (0 : Int) ≤ (k : Int) := by omega
          obtain ⟨g, cap, he, _, c0, c1, c2, _⟩ := (HR1.out.below HQ.out.2).get hk2
          simp only [Value.slice.injEq, true_and] at he
          obtain ⟨rfl, rfl⟩ := he
          have HTL := Lib.hid (tellF_cell (f := inR lo hi) L[k])
          obtain ⟨x, hx⟩ : ∃ x, x = L[k] := ⟨_, rfl⟩
          rw [← hx] at c0 c1 c2 HTL HN
          clear hx HI HY hn
          obtain ⟨xk, x0, xv, xg⟩ := x
          dsimp only at c0 c1 c2 HTL
          obtain ⟨tk, htk⟩ : ∃ tk, tk = (!xg && inR lo hi xk) := ⟨_, rfl⟩
          rw [← htk] at HTL
          have HTK := Lib.hid htk
          clear htk
          go_upto_region 9 with fail
          obtain ⟨wb, hwb⟩ : ∃ wb, wb = wq.alloc (.cells #[str xk, str xv, .bool xg] 58) := ⟨_, rfl⟩
          rw [← hwb]
          obtain ⟨ob, hob⟩ : ∃ ob, ob = wq.heap.size := ⟨_, rfl⟩
          rw [← hob]
          have hbx : wb.heap[ob]? = some (.cells #[str xk, str xv, .bool xg] 58 (0, 0)) := by rw [hwb, hob]; exact heap_alloc_new _ _
          have b0 : wb.cell? ⟨ob, 0, none⟩ = some (str xk) := by simp [World.cell?, hbx]
          have b1 : wb.cell? ⟨ob, 1, none⟩ = some (str xv) := by simp [World.cell?, hbx]
          have b2 : wb.cell? ⟨ob, 2, none⟩ = some (.bool xg) := by simp [World.cell?, hbx]
          have HQ : Hid (wb.ownsRow w1.heap.size 63 2 u8 O.length (O.map cellsP).flatten ∧ Below w1.heap.size w1 wb) := Lib.hid (by rw [hwb]; exact ⟨World.ownsRow.alloc HQ.out.1 _, HQ.out.2.alloc HQ.out.2.size _⟩)
          clear hwb hbx hob c0 c1 c2 q2
          go_cut [83] from 29 to 93 (fun v wc => v = .bool tk ∧ wb = wc)
          case first =>
            cases xg with
            | true =>
              have e : tk = false := by rw [HTK.out]; rfl
              subst e
              clear HTL HTK HN
              go_wp2_with fail
              go_meet
              case rel => exact ⟨rfl, rfl⟩
            | false =>
              rcases cmp3 xk lo with ⟨l1, l2, l3, l4⟩ | le | ⟨l1, l2, l3, l4⟩
              · have e : tk = false := by rw [HTK.out]; unfold inR; rw [l1]; rfl
                subst e
                clear HTL HTK HN
                go_wp2_with fail
                go_meet
                case rel => exact ⟨rfl, rfl⟩
              · subst le
                have l1 : Op.bytesLess xk xk = false := bl_irr xk
                have l2 : (xk == xk) = true := beq_self_eq_true xk
                cases hhi : (hi == ([] : List UInt8)) with
                | true =>
                  have e : tk = true := by rw [HTK.out]; unfold inR hiB; rw [l1, hhi]; rfl
                  subst e
                  clear HTL HTK HN
                  go_wp2_with fail
                  go_meet
                  case rel => exact ⟨rfl, rfl⟩
                | false =>
                  cases hlh : Op.bytesLess xk hi with
                  | true =>
                    have e : tk = true := by rw [HTK.out]; unfold inR hiB; rw [l1, hhi, hlh]; rfl
                    subst e
                    clear HTL HTK HN
                    go_wp2_with fail
                    go_meet
                    case rel => exact ⟨rfl, rfl⟩
                  | false =>
                    have e : tk = false := by rw [HTK.out]; unfold inR hiB; rw [l1, hhi, hlh]; rfl
                    subst e
                    clear HTL HTK HN
                    go_wp2_with fail
                    go_meet
                    case rel => exact ⟨rfl, rfl⟩
              · skip
                cases hhi : (hi == ([] : List UInt8)) with
                | true =>
                  have e : tk = true := by rw [HTK.out]; unfold inR hiB; rw [l1, hhi]; rfl
                  subst e
                  clear HTL HTK HN
                  go_wp2_with fail
                  go_meet
                  case rel => exact ⟨rfl, rfl⟩
                | false =>
                  cases hlh : Op.bytesLess xk hi with
                  | true =>
                    have e : tk = true := by rw [HTK.out]; unfold inR hiB; rw [l1, hhi, hlh]; rfl
                    subst e
                    clear HTL HTK HN
                    go_wp2_with fail
                    go_meet
                    case rel => exact ⟨rfl, rfl⟩
                  | false =>
                    have e : tk = false := by rw [HTK.out]; unfold inR hiB; rw [l1, hhi, hlh]; rfl
                    subst e
                    clear HTL HTK HN
                    go_wp2_with fail
                    go_meet
                    case rel => exact ⟨rfl, rfl⟩
          case rest =>
            obtain ⟨rfl, rfl⟩ := hcut
            cases tk
            · have HN2 : Hid (ScI (inR lo hi) A L i (k + 1) O) := Lib.hid (by have e := HTL.out; rw [if_neg Bool.false_ne_true] at e; have h := HN.out; rw [e, List.append_nil] at h; exact h)
              clear HN HTL HTK
              go_wp2_with fail
              go_roundw
              case rel => exact ⟨k + 1, O, by go_num, HN2, HQ⟩
              case measure => simp [intOf]; omega
            · have HN2 : Hid (ScI (inR lo hi) A L i (k + 1) (O ++ [(xk, xv)])) := Lib.hid (by have e := HTL.out; rw [if_pos rfl] at e; have h := HN.out; rw [e] at h; exact h)
              clear HN HTL HTK
              go_wp2_with (at_builtin; refine hold ?_)
              intro _
              refine wpList_appendF (by rfl) _ _ 43 (by rfl) w1.heap.size 63 i0 _ 2 32 Try.underlying43 hi0 hz0 hz1 hz2 rfl (by decide) u8 O.length _ (by rfl) (World.ownsRow.alloc HQ.out.1 _) (.slice (some ⟨wb.heap.size, 0, none⟩) 1 1) [cellsP (xk, xv)] (by simp [cellsP]) (by simp [cellsP, Value.oneCell']) (by rfl) (RdF.lit [cellsP (xk, xv)] (by simp [cellsP]) (heap_alloc_new _ _) rfl (by simp)) (fun c h => by cases h) ?_ ?_ ?_ ?_
              · have := HOL.out; simp [maxLen]; omega
              · have := HOL.out; simp; omega
              · have := HQ.out.2.size; simp; omega
              intro v9 w9 r9 gr9
              have HQ9 : Hid (w9.ownsRow w1.heap.size 63 2 v9 (O ++ [(xk, xv)]).length ((O ++ [(xk, xv)]).map cellsP).flatten ∧ Below w1.heap.size w1 w9) := Lib.hid ⟨by simpa using r9, (HQ.out.2.alloc HQ.out.2.size _).grown gr9 (by have := HQ.out.2.size; simp; omega) (fun k e => (HQ.out.1.lt k e).1)⟩
              clear r9 gr9
              go_wp2_with fail
              go_roundw
              case rel => exact ⟨k + 1, _, by go_num, HN2, HQ9⟩
              case measure => simp [intOf]; omega
        have HY2 := Lib.hid (HY.out.2 rfl)
        clear HY
        by_cases hin : i = A.length
        · have g8d : decide ((i : Int) < (A.length : Int)) = false := decide_eq_false (by omega)
          have g8 : ¬ (i : Int) < (A.length : Int) := by omega
          have HN : Hid (ScJ (inR lo hi) A L (i + 1) k O) := Lib.hid (.inr ⟨by omega, HI.out.fin hin (HY2.out.2 hin)⟩)
          clear HI HY2 hin
          go_upto_region 12 with fail
          go_quiet (fail)
          go_wp2_with fail
          go_roundw
          case rel => exact ⟨i + 1, k, O, by omega, rfl, by go_num, HN, Lib.hid (scq HQ.out)⟩
          case measure => simp [intOf]; omega
        have hia : i < A.length := by omega
        have g8 : (i : Int) < (A.length : Int) := by omega
        have g8d : decide ((i : Int) < (A.length : Int)) = true := decide_eq_true g8
        have g9 : (0 : Int) ≤ (i : Int) := by omega
        obtain ⟨bP, oP, rfl, d0, d1⟩ := RdP.get (RdF.below HP.out HQ.out.2 (Nat.le_refl _)) hia
        have HST : Hid (∀ hk : k < L.length, Op.bytesLess A[i].1 L[k].1 = true) := Lib.hid (fun hk => HY2.out.1 hia hk)
        obtain ⟨ak, hak⟩ : ∃ ak, ak = A[i].1 := ⟨_, rfl⟩
        obtain ⟨av, hav⟩ : ∃ av, av = A[i].2 := ⟨_, rfl⟩
        have HAE : Hid (A[i] = (ak, av)) := Lib.hid (by rw [hak, hav])
        rw [← hak] at d0
        rw [← hav] at d1
        clear hak hav HY2
        have HNX := Lib.hid (HI.out.next HA.out.1 HR1.out.rs hia HST.out)
        rw [HAE.out] at HNX
        clear HST HI
        by_cases hk0 : k = 0
        · have k0 : (((k : Nat) : Int) == 0) = true := beq_iff_eq.2 (by omega)
          have HN : Hid (ScJ (inR lo hi) A L (i + 1) k (O ++ [(ak, av)])) := Lib.hid (.inl ⟨hia, HNX.out.2 (fun ⟨h, _⟩ => by omega)⟩)
          clear HNX
          go_upto_region 12 with fail
          go_quiet (fail)
          generalize hwp : wq.drewN _ = wp
          have HQ : Hid (wp.ownsRow w1.heap.size 63 2 u8 O.length (O.map cellsP).flatten ∧ Below w1.heap.size w1 wp) := Lib.hid (by rw [← hwp]; exact scq HQ.out)
          have dd0 : wp.cell? ⟨bP, oP + i * 2, none⟩ = some (str ak) := by rw [← hwp]; exact d0
          have dd1 : wp.cell? ⟨bP, oP + i * 2 + 1, none⟩ = some (str av) := by rw [← hwp]; exact d1
          clear hwp d0 d1 q2
          go_wp2_with (at_builtin; refine hold ?_)
          intro _
          refine wpList_appendF (by rfl) _ _ 43 (by rfl) w1.heap.size 63 i0 _ 2 32 Try.underlying43 hi0 hz0 hz1 hz2 rfl (by decide) u8 O.length _ (by rfl) (World.ownsRow.alloc HQ.out.1 _) (.slice (some ⟨wp.heap.size, 0, none⟩) 1 1) [cellsP (ak, av)] (by simp [cellsP]) (by simp [cellsP, Value.oneCell']) (by rfl) (RdF.lit [cellsP (ak, av)] (by simp [cellsP]) (heap_alloc_new _ _) rfl (by simp)) (fun c h => by cases h) ?_ ?_ ?_ ?_
          · have := HOL.out; simp [maxLen]; omega
          · have := HOL.out; simp; omega
          · have := HQ.out.2.size; simp; omega
          intro v9 w9 r9 gr9
          have HQ9 : Hid (w9.ownsRow w1.heap.size 63 2 v9 (O ++ [(ak, av)]).length ((O ++ [(ak, av)]).map cellsP).flatten ∧ Below w1.heap.size w1 w9) := Lib.hid ⟨by simpa using r9, (HQ.out.2.alloc HQ.out.2.size _).grown gr9 (by have := HQ.out.2.size; simp; omega) (fun k e => (HQ.out.1.lt k e).1)⟩
          clear r9 gr9
          go_wp2_with fail
          go_roundw
          case rel => exact ⟨i + 1, k, _, by omega, by first | rfl | (go_num; done) | (have hk9 : (k : Int) = 0 := by omega; rw [hk9]), by go_num, HN, HQ9⟩
          case measure => simp [intOf]; omega
        have k0 : (((k : Nat) : Int) == 0) = false := beq_eq_false_iff_ne.2 (by omega)
        obtain ⟨m, hm⟩ : ∃ m, k = m + 1 := ⟨k - 1, by omega⟩
        have hml : m < L.length := by omega
        have w1m : (((k : Nat) : Int) - 1) = (m : Int) := by omega
        have w2m : IntKind.i64.wrap (m : Int) = (m : Int) := IntWalk.i64_in _ ⟨by omega, by omega⟩
        have g10 : (m : Int) < (L.length : Int) := by omega
        have g11 : (0 : Int) ≤ (m : Int) := by omega
        obtain ⟨gm, capm, hem, _, m0, _⟩ := (HR1.out.below HQ.out.2).get hml
        simp only [Value.slice.injEq, true_and] at hem
        obtain ⟨rfl, rfl⟩ := hem
        have HLM : Hid (∀ h : k - 1 < L.length, (L[k - 1]'h).1 = L[m].1) := Lib.hid (fun h => by congr 2; omega)
        obtain ⟨mk, hmk⟩ : ∃ mk, mk = L[m].1 := ⟨_, rfl⟩
        rw [← hmk] at m0 HLM
        clear hmk
        have HM := Lib.hid hm
        clear hm
        by_cases hme : mk = ak
        · have HN : Hid (ScJ (inR lo hi) A L (i + 1) k O) := Lib.hid (.inl ⟨hia, HNX.out.1 ⟨by omega, by have := HM.out; omega, by rw [HLM.out]; exact hme⟩⟩)
          clear HNX HLM
          have n1 : (mk != ak) = false := by rw [hme]; exact bne_self_eq_false _
          have n2 : (mk == ak) = true := beq_iff_eq.2 hme
          have HME := Lib.hid hme
          clear hme
          go_upto_region 12 with fail
          go_quiet (fail)
          go_wp2_with fail
          go_roundw
          case rel => exact ⟨i + 1, k, O, by omega, rfl, by go_num, HN, Lib.hid (scq HQ.out)⟩
          case measure => simp [intOf]; omega
        · have HN : Hid (ScJ (inR lo hi) A L (i + 1) k (O ++ [(ak, av)])) := Lib.hid (.inl ⟨hia, HNX.out.2 (fun ⟨_, _, h⟩ => by rw [HLM.out] at h; exact hme h)⟩)
          clear HNX HLM
          have n1 : (mk != ak) = true := bne_iff_ne.2 hme
          have n2 : (mk == ak) = false := beq_eq_false_iff_ne.2 hme
          clear hme
          go_upto_region 12 with fail
          go_quiet (fail)
          generalize hwp : wq.drewN _ = wp
          have HQ : Hid (wp.ownsRow w1.heap.size 63 2 u8 O.length (O.map cellsP).flatten ∧ Below w1.heap.size w1 wp) := Lib.hid (by rw [← hwp]; exact scq HQ.out)
          have dd0 : wp.cell? ⟨bP, oP + i * 2, none⟩ = some (str ak) := by rw [← hwp]; exact d0
          have dd1 : wp.cell? ⟨bP, oP + i * 2 + 1, none⟩ = some (str av) := by rw [← hwp]; exact d1
          clear hwp d0 d1 q2
          go_wp2_with (at_builtin; refine hold ?_)
          intro _
          refine wpList_appendF (by rfl) _ _ 43 (by rfl) w1.heap.size 63 i0 _ 2 32 Try.underlying43 hi0 hz0 hz1 hz2 rfl (by decide) u8 O.length _ (by rfl) (World.ownsRow.alloc HQ.out.1 _) (.slice (some ⟨wp.heap.size, 0, none⟩) 1 1) [cellsP (ak, av)] (by simp [cellsP]) (by simp [cellsP, Value.oneCell']) (by rfl) (RdF.lit [cellsP (ak, av)] (by simp [cellsP]) (heap_alloc_new _ _) rfl (by simp)) (fun c h => by cases h) ?_ ?_ ?_ ?_
          · have := HOL.out; simp [maxLen]; omega
          · have := HOL.out; simp; omega
          · have := HQ.out.2.size; simp; omega
          intro v9 w9 r9 gr9
          have HQ9 : Hid (w9.ownsRow w1.heap.size 63 2 v9 (O ++ [(ak, av)]).length ((O ++ [(ak, av)]).map cellsP).flatten ∧ Below w1.heap.size w1 w9) := Lib.hid ⟨by simpa using r9, (HQ.out.2.alloc HQ.out.2.size _).grown gr9 (by have := HQ.out.2.size; simp; omega) (fun k e => (HQ.out.1.lt k e).1)⟩
          clear r9 gr9
          go_wp2_with fail
          go_roundw
          case rel => exact ⟨i + 1, k, _, by omega, by first | rfl | (go_num; done) | (have hk9 : (k : Int) = 0 := by omega; rw [hk9]), by go_num, HN, HQ9⟩
          case measure => simp [intOf]; omega
end Go.Proofs.Ytcgjiddiegepkaa

/- Plain facts on digits and on numbers in few bytes: no condition. -/
namespace Go.Proofs.Ytcgjiddiegepkaa
open Go.RowKit

theorem digL_succ (n wd : Nat) : digL n (wd + 1) = db n wd :: digL n wd := by
  unfold digL
  rw [List.range_succ_eq_map, List.map_cons, List.map_map]
  congr 1
  apply List.map_congr_left
  intro j hj
  simp only [Function.comp_apply]
  congr 1
  omega

theorem db_toNat (n j : Nat) : (db n j).toNat = 48 + n / 10 ^ j % 10 := by
  unfold db; rw [UInt8.toNat_ofNat']; omega

theorem db_lt (a b j : Nat) : (db a j < db b j) ↔ a / 10 ^ j % 10 < b / 10 ^ j % 10 := by
  rw [UInt8.lt_iff_toNat_lt, db_toNat, db_toNat]; omega
theorem db_eq (a b j : Nat) : (db a j = db b j) ↔ a / 10 ^ j % 10 = b / 10 ^ j % 10 := by
  rw [← UInt8.toNat_inj, db_toNat, db_toNat]; omega

theorem mod_succ (a wd : Nat) : a % 10 ^ (wd + 1) = a % 10 ^ wd + 10 ^ wd * (a / 10 ^ wd % 10) := by
  rw [Nat.pow_succ, Nat.mod_mul]

theorem lex_lt (p d e r s : Nat) (hr : r < p) (hs : s < p) : (r + p * d < s + p * e) ↔ (d < e ∨ (d = e ∧ r < s)) := by
  constructor
  · intro h
    rcases Nat.lt_trichotomy d e with h1 | h1 | h1
    · exact .inl h1
    · subst h1; exact .inr ⟨rfl, by omega⟩
    · have : p * (e + 1) ≤ p * d := Nat.mul_le_mul_left p h1
      rw [Nat.mul_add] at this; omega
  · rintro (h | ⟨rfl, h⟩)
    · have : p * (d + 1) ≤ p * e := Nat.mul_le_mul_left p h
      rw [Nat.mul_add] at this; omega
    · omega
theorem lex_eq (p d e r s : Nat) (hr : r < p) (hs : s < p) : (r + p * d = s + p * e) ↔ (d = e ∧ r = s) := by
  have h1 := lex_lt p d e r s hr hs
  have h2 := lex_lt p e d s r hs hr
  constructor
  · intro h
    have a : ¬ (r + p * d < s + p * e) := by omega
    have b : ¬ (s + p * e < r + p * d) := by omega
    rw [h1] at a; rw [h2] at b
    omega
  · rintro ⟨rfl, rfl⟩; rfl

theorem digL_lt_eq (a b : Nat) : ∀ wd, Op.bytesLess (digL a wd) (digL b wd) = decide (a % 10 ^ wd < b % 10 ^ wd) ∧ (digL a wd == digL b wd) = decide (a % 10 ^ wd = b % 10 ^ wd)
  | 0 => by simp [digL, Op.bytesLess, Nat.mod_one]
  | wd + 1 => by
    have ih := digL_lt_eq a b wd
    have hr := Nat.mod_lt a (Nat.pow_pos (n := wd) (show 0 < 10 by omega))
    have hs := Nat.mod_lt b (Nat.pow_pos (n := wd) (show 0 < 10 by omega))
    rw [digL_succ, digL_succ, mod_succ, mod_succ]
    have e1 := lex_lt (10 ^ wd) (a / 10 ^ wd % 10) (b / 10 ^ wd % 10) _ _ hr hs
    have e2 := lex_eq (10 ^ wd) (a / 10 ^ wd % 10) (b / 10 ^ wd % 10) _ _ hr hs
    have f1 := db_lt a b wd
    have f2 := db_eq a b wd
    have g : (db a wd == db b wd) = decide (a / 10 ^ wd % 10 = b / 10 ^ wd % 10) := by
      rw [Bool.eq_iff_iff, beq_iff_eq, decide_eq_true_iff, f2]
    constructor
    · rw [Op.bytesLess, ih.1, g, Bool.eq_iff_iff]
      simp only [Bool.or_eq_true, Bool.and_eq_true, decide_eq_true_iff]
      rw [f1, e1]
    · rw [List.cons_beq_cons, ih.2, g, Bool.eq_iff_iff]
      simp only [Bool.and_eq_true, decide_eq_true_iff]
      rw [e2]

theorem dig_less (a b wd : Nat) (ha : a < 10 ^ wd) (hb : b < 10 ^ wd) : Op.bytesLess (digL a wd) (digL b wd) = decide (a < b) := by
  rw [(digL_lt_eq a b wd).1, Nat.mod_eq_of_lt ha, Nat.mod_eq_of_lt hb]
theorem dig_same (a b wd : Nat) (ha : a < 10 ^ wd) (hb : b < 10 ^ wd) : (digL a wd == digL b wd) = decide (a = b) := by
  rw [(digL_lt_eq a b wd).2, Nat.mod_eq_of_lt ha, Nat.mod_eq_of_lt hb]

theorem varL_mono : ∀ (n m k : Nat), n ≤ k → m ≤ n → (varL m).length ≤ (varL n).length := by
  intro n m k
  induction k generalizing n m with
  | zero => intro h1 h2; rw [show m = 0 by omega, show n = 0 by omega]; exact Nat.le_refl _
  | succ k ih =>
    intro h1 h2
    by_cases hm : m < 128
    · rw [varL_small m hm]; exact varL_pos n
    · rw [varL_big m hm, varL_big n (by omega), List.length_cons, List.length_cons]
      have := ih (n / 128) (m / 128) (by omega) (Nat.div_le_div_right h2)
      omega
end Go.Proofs.Ytcgjiddiegepkaa

/- Plain facts on numbers in few bytes, read again: no condition. -/
namespace Go.Proofs.Ytcgjiddiegepkaa
open Go.RowKit

theorem rv_cons (f : Nat) (c : UInt8) (t : List UInt8) (p i acc : Nat) : rv (f + 1) (c :: t) p i acc =
    if 127 < c.toNat then rv f t (p + 1) (i + 1) (acc + c.toNat % 128 * 128 ^ i)
    else if c.toNat = 0 ∧ 0 < i then (0, 0, 4) else (acc + c.toNat % 128 * 128 ^ i, p + 1, 0) := rfl

theorem ofNat_toNat (n : Nat) (h : n < 256) : (UInt8.ofNat n).toNat = n := by rw [UInt8.toNat_ofNat']; omega

/-- What was written is read again, whatever stands behind it. -/
theorem rv_varL (rest : List UInt8) : ∀ (f n p i acc : Nat), (varL n).length ≤ f → (i = 0 ∨ 0 < n) → rv f (varL n ++ rest) p i acc = (acc + n * 128 ^ i, p + (varL n).length, 0)
  | 0, n, p, i, acc, h, _ => by have := varL_pos n; omega
  | f + 1, n, p, i, acc, h, hi => by
    by_cases hn : n < 128
    · rw [varL_small n hn, List.singleton_append, rv_cons, ofNat_toNat n (by omega), if_neg (by omega), if_neg (by omega), Nat.mod_eq_of_lt hn]
      rfl
    · rw [varL_big n hn, List.length_cons] at h
      rw [varL_big n hn, List.cons_append, rv_cons, ofNat_toNat _ (by omega), if_pos (by omega), rv_varL rest f (n / 128) _ _ _ (by omega) (.inr (by omega))]
      have e : (n % 128 + 128) % 128 = n % 128 := by omega
      have e2 : n % 128 * 128 ^ i + n / 128 * 128 ^ (i + 1) = n * 128 ^ i := by
        rw [Nat.pow_succ, Nat.mul_comm (128 ^ i) 128, ← Nat.mul_assoc, ← Nat.add_mul]
        congr 1
        omega
      rw [e, List.length_cons, Nat.add_assoc acc, e2]
      congr 2
      omega

/-- Bytes that all say that more follow. -/
def Cont (l : List UInt8) : Prop := ∀ c ∈ l, 127 < c.toNat
theorem rv_cont : ∀ (l : List UInt8) (f p i acc : Nat) (t : List UInt8), Cont l → l.length ≤ f → ∃ acc', rv f (l ++ t) p i acc = rv (f - l.length) t (p + l.length) (i + l.length) acc'
  | [], f, p, i, acc, t, _, _ => ⟨acc, by simp⟩
  | c :: l, 0, p, i, acc, t, _, h => by simp at h
  | c :: l, f + 1, p, i, acc, t, hc, h => by
    have h1 := hc c (by simp)
    obtain ⟨acc', e⟩ := rv_cont l f (p + 1) (i + 1) (acc + c.toNat % 128 * 128 ^ i) t (fun x hx => hc x (by simp [hx])) (by simpa using h)
    refine ⟨acc', ?_⟩
    rw [List.cons_append, rv_cons, if_pos h1, e, List.length_cons]
    congr 1 <;> omega

/-- All bytes but the last say that more follow. -/
theorem varL_form : ∀ (k n : Nat), n ≤ k → Cont (varL n).dropLast
  | 0, n, h => by rw [varL_small n (by omega)]; intro c hc; simp at hc
  | k + 1, n, h => by
    by_cases hn : n < 128
    · rw [varL_small n hn]; intro c hc; simp at hc
    · rw [varL_big n hn]
      have ih := varL_form k (n / 128) (by omega)
      have hp := varL_pos (n / 128)
      rw [List.dropLast_cons_of_ne_nil (by intro e; rw [e] at hp; simp at hp)]
      intro c hc
      rcases List.mem_cons.1 hc with rfl | hc
      · rw [ofNat_toNat _ (by omega)]; omega
      · exact ih c hc

/-- Cut off, it is too short. -/
theorem rv_cut (n c : Nat) (h : c < (varL n).length) (h8 : (varL n).length ≤ 8) : (rv 8 ((varL n).take c) 0 0 0) = (0, 0, 2) := by
  have hc : Cont ((varL n).take c) := by
    intro x hx
    refine varL_form n n (Nat.le_refl _) x ?_
    rw [List.dropLast_eq_take]
    have : (varL n).take c = ((varL n).take ((varL n).length - 1)).take c := by rw [List.take_take]; congr 1; omega
    rw [this] at hx
    exact List.mem_of_mem_take hx
  have hl : ((varL n).take c).length = c := by simp; omega
  obtain ⟨acc', e⟩ := rv_cont _ 8 0 0 0 [] hc (by omega)
  rw [List.append_nil, hl] at e
  rw [e, show 8 - c = (7 - c) + 1 by omega, rv_nil]

/-- With a 0 laid behind it, it is none. -/
theorem rv_long (l : List UInt8) (hc : Cont l) (h1 : 0 < l.length) (h8 : l.length ≤ 8) : (rv 8 (l ++ [0]) 0 0 0) = (0, 0, 4) := by
  obtain ⟨acc', e⟩ := rv_cont _ 8 0 0 0 [0] hc h8
  rw [e]
  by_cases h : l.length = 8
  · rw [h]; rfl
  · rw [show 8 - l.length = (7 - l.length) + 1 by omega, rv_cons, if_neg (by decide), if_pos ⟨by decide, by omega⟩]

/-- No number's bytes begin another's. -/
theorem varL_prefix (a b : Nat) (ha : (varL a).length ≤ 8) (hb : (varL b).length ≤ 8) (h : (varL b).take (varL a).length = varL a) : a = b := by
  have h1 := rv_varL ((varL b).drop (varL a).length) 8 a 0 0 0 ha (.inl rfl)
  have h2 := rv_varL [] 8 b 0 0 0 hb (.inl rfl)
  have e : varL a ++ (varL b).drop (varL a).length = varL b := by
    conv => lhs; lhs; rw [← h]
    exact List.take_append_drop _ _
  rw [e] at h1
  rw [List.append_nil] at h2
  have := h1.symm.trans h2
  simp at this
  exact this.1

theorem or128_u8 (c : UInt8) : bits .or .u8 (c.toNat : Int) 128 = ((c ||| 128).toNat : Int) := by
  rw [show (128 : Int) = ((128 : Nat) : Int) from rfl, u8_or_nat _ _ (by have := c.toNat_lt; omega) (by omega)]
  simp
theorem or128_big (c : UInt8) : 127 < (c ||| 128).toNat := by
  rw [UInt8.toNat_or]
  have h : 128 ≤ c.toNat ||| 128 := Nat.right_le_or
  exact h
end Go.Proofs.Ytcgjiddiegepkaa

/- Rows of bytes: the types. -/
namespace Go.Proofs.Ytcgjiddiegepkaa
open Go.RowKit
theorem bt : BT Try.prog 119 5 := ⟨Try.underlying119, Try.underlying5, by kernel_rfl⟩
end Go.Proofs.Ytcgjiddiegepkaa

/- Texts as lists: put together, cut. -/
namespace Go.Proofs.Ytcgjiddiegepkaa
open Go.RowKit
theorem str_cat (a b : List UInt8) : ByteArray.mk a.toArray ++ ByteArray.mk b.toArray = ByteArray.mk (a ++ b).toArray := by
  apply ByteArray.ext
  simp
theorem str_cut (t : List UInt8) (p n : Nat) : (ByteArray.mk t.toArray).extract p n = ByteArray.mk ((t.drop p).take (n - p)).toArray := by
  apply ByteArray.ext
  simp [ByteArray.data_extract, List.extract_toArray]
theorem str_of (s : ByteArray) : ∃ l : List UInt8, s = ⟨l.toArray⟩ := ⟨s.data.toList, by cases s; rfl⟩
theorem below_undrew {B : Nat} {w w' : World} (h : Below B w.drew w') : Below B w w' := ⟨h.os, h.tape, h.output, h.size, h.block⟩
end Go.Proofs.Ytcgjiddiegepkaa

/- txn.behind: the first key behind those that begin with a text; Prefix. -/
namespace Go.Proofs.Ytcgjiddiegepkaa
open Go.RowKit
/-- The first key behind those that begin with it; none: nothing. -/
def behP : List UInt8 → List UInt8
  | [] => []
  | a :: s => match behP s with
    | [] => if a < 255 then [a + 1] else []
    | b :: t => a :: b :: t
theorem beh_all : ∀ {s : List UInt8}, (∀ x ∈ s, x = 255) → behP s = []
  | [], _ => rfl
  | a :: s, h => by
    have e := h a (by simp)
    subst e
    unfold behP
    rw [beh_all (fun x hx => h x (by simp [hx]))]
    rfl
theorem beh_one {d : UInt8} {s : List UInt8} (hd : d < 255) (h : ∀ x ∈ s, x = 255) : behP (d :: s) = [d + 1] := by
  unfold behP
  rw [beh_all h]
  simp [hd]
theorem beh_app : ∀ {u v : List UInt8}, behP v ≠ [] → behP (u ++ v) = u ++ behP v
  | [], _, _ => rfl
  | a :: u, v, h => by
    have ih := beh_app (u := u) h
    have hne : u ++ behP v ≠ [] := by simp [h]
    have e0 : behP (a :: (u ++ v)) = (match behP (u ++ v) with
      | [] => if a < 255 then [a + 1] else []
      | b :: t => a :: b :: t) := rfl
    rw [List.cons_append, e0, ih, List.cons_append]
    cases e : u ++ behP v with
    | nil => exact absurd e hne
    | cons b t => rfl
theorem beh_at {p : List UInt8} {m : Nat} (hm : m < p.length) (hd : p[m] < 255) (h : ∀ j (hj : j < p.length), m < j → p[j] = 255) : behP p = p.take m ++ [p[m] + 1] := by
  have e : p = p.take m ++ (p[m] :: p.drop (m + 1)) := by rw [← List.drop_eq_getElem_cons hm, List.take_append_drop]
  have h1 : behP (p[m] :: p.drop (m + 1)) = [p[m] + 1] := beh_one hd (fun x hx => by
    obtain ⟨j, hj, rfl⟩ := List.mem_iff_getElem.1 hx
    rw [List.getElem_drop]
    exact h _ _ (by omega))
  conv => lhs; rw [e]
  rw [beh_app (by rw [h1]; simp), h1]
theorem u8_succ {a : UInt8} (h : a < 255) : (a + 1).toNat = a.toNat + 1 := by
  have h1 : a.toNat < 255 := h
  rw [UInt8.toNat_add]
  show (a.toNat + 1) % 256 = _
  omega
/-- A key begins with p just if it is neither below p nor from behind p on. -/
theorem pre_iff : ∀ (p z : List UInt8), (inR p (behP p) z = true) ↔ z.take p.length = p
  | [], z => by unfold inR hiB behP; rw [less_nil]; simp
  | a :: s, [] => by unfold inR; simp [Op.bytesLess]
  | a :: s, c :: w => by
    have ih := pre_iff s w
    rw [List.length_cons, List.take_succ_cons, List.cons.injEq, ← ih]
    unfold inR hiB
    have hac : (c < a ∨ c = a ∨ a < c) := by
      rcases Nat.lt_trichotomy c.toNat a.toNat with h | h | h
      · exact .inl h
      · exact .inr (.inl (UInt8.toNat_inj.1 h))
      · exact .inr (.inr h)
    rcases hac with h | rfl | h
    · have e1 : Op.bytesLess (c :: w) (a :: s) = true := by simp [Op.bytesLess, h]
      have e2 : c ≠ a := by rintro rfl; exact absurd h (UInt8.lt_irrefl _)
      simp [e1, e2]
    · have hn : ¬ c < c := UInt8.lt_irrefl _
      have e1 : Op.bytesLess (c :: w) (c :: s) = Op.bytesLess w s := by simp [Op.bytesLess, hn]
      rw [e1]
      cases hb : behP s with
      | nil =>
        have e3 : behP (c :: s) = if c < 255 then [c + 1] else [] := by unfold behP; rw [hb]
        rw [e3]
        by_cases h2 : c < 255
        · have e4 : c < c + 1 := by show c.toNat < (c + 1).toNat; rw [u8_succ h2]; omega
          have e5 : Op.bytesLess (c :: w) [c + 1] = true := by simp [Op.bytesLess, e4]
          simp [h2, e5]
        · simp [h2]
      | cons b t =>
        have e3 : behP (c :: s) = c :: b :: t := by unfold behP; rw [hb]
        have e5 : Op.bytesLess (c :: w) (c :: b :: t) = Op.bytesLess w (b :: t) := by simp [Op.bytesLess, hn]
        rw [e3, e5]
        simp
    · have e2 : c ≠ a := by rintro rfl; exact absurd h (UInt8.lt_irrefl _)
      have hn : ¬ c < a := fun h2 => absurd (Nat.lt_trans (show a.toNat < c.toNat from h) h2) (Nat.lt_irrefl _)
      have e6 : (c == a) = false := beq_eq_false_iff_ne.2 e2
      have e1 : Op.bytesLess (c :: w) (a :: s) = false := by simp [Op.bytesLess, hn, e6]
      rw [e1]
      have e7 : ∀ b t, behP (a :: s) = b :: t → Op.bytesLess (c :: w) (b :: t) = false := by
        intro b t hb
        cases hs : behP s with
        | nil =>
          have e3 : behP (a :: s) = if a < 255 then [a + 1] else [] := by unfold behP; rw [hs]
          rw [e3] at hb
          split at hb
          · next h255 =>
            simp only [List.cons.injEq] at hb
            obtain ⟨rfl, rfl⟩ := hb
            have h8 : ¬ c < a + 1 := fun h9 => by
              have h10 : c.toNat < (a + 1).toNat := h9
              rw [u8_succ h255] at h10
              have h11 : a.toNat < c.toNat := h
              omega
            simp [Op.bytesLess, h8]
          · cases hb
        | cons b' t' =>
          have e3 : behP (a :: s) = a :: b' :: t' := by unfold behP; rw [hs]
          rw [e3] at hb
          simp only [List.cons.injEq] at hb
          obtain ⟨rfl, rfl⟩ := hb
          simp [Op.bytesLess, hn, e6]
      have e8 : behP (a :: s) ≠ [] := by
        intro e
        cases hs : behP s with
        | nil =>
          have e3 : behP (a :: s) = if a < 255 then [a + 1] else [] := by unfold behP; rw [hs]
          rw [e3] at e
          split at e
          · cases e
          · next h255 =>
            have h12 : ¬ a.toNat < 255 := h255
            have h13 : a.toNat < c.toNat := h
            have := c.toNat_lt
            omega
        | cons b' t' =>
          have e3 : behP (a :: s) = a :: b' :: t' := by unfold behP; rw [hs]
          rw [e3] at e; cases e
      cases hb : behP (a :: s) with
      | nil => exact absurd hb e8
      | cons b t =>
        rw [e7 b t hb]
        simp [e2]
theorem conv_one {d : UInt8} (h : d < 255) (wc wd : World) (hwd : wd = wc.alloc (.cells #[.int .u8 ((d.toNat : Int) + 1)] 5)) : (convert 119 9 (.slice (some ⟨wc.heap.size, 0, none⟩) 1 1)).run Try.prog wd = .ok (str [d + 1]) wd := by
  refine bt.toString (S := 9) Try.underlying9 (l := [d + 1]) ⟨_, 1, rfl, Nat.le_refl _, by unfold maxLen; omega, (fun h => by cases h), fun _ => ⟨wc.heap.size, 0, rfl, fun i hi => ?_⟩⟩
  have hh : wd.heap[wc.heap.size]? = some (.cells #[.int .u8 ((d.toNat : Int) + 1)] 5 (0, 0)) := by rw [hwd]; exact heap_alloc_new _ _
  have hi0 : i = 0 := by simpa using hi
  subst hi0
  rw [cell_of_row wd wc.heap.size 0 _ 5 (0, 0) hh]
  show some _ = some (bv (d + 1))
  unfold bv
  rw [u8_succ h]
  rfl
set_option maxRecDepth 100000 in
set_option maxHeartbeats 4000000 in
theorem behind_any (p : List UInt8) (w : World) (hp : p.length ≤ 9223372036854775807) : Calls Try.prog 45 #[str p] w fun e w' => e = .returned (str (behP p)) ∧ Below w.heap.size w w' := by
  go_enter Try.func45, Try.ntmps45
  go_wp2_with fail
  go_loopw [3] (fun v wr => ∃ n : Nat, n ≤ p.length ∧ v = .int .i64 (n : Int) ∧ Hid (∀ j (hj : j < p.length), n ≤ j → p[j] = 255) ∧ w = wr) (fun v _ => (intOf v).toNat)
  case atStart => exact ⟨p.length, Nat.le_refl _, rfl, Lib.hid (fun _ hj h => absurd hj (by omega)), rfl⟩
  case round =>
    obtain ⟨n, hn, rfl, HA, rfl⟩ := hrel
    cases n with
    | zero =>
      have HE : Hid (behP p = []) := Lib.hid (beh_all (fun x hx => by
        obtain ⟨j, hj, rfl⟩ := List.mem_iff_getElem.1 hx
        exact HA.out j hj (Nat.zero_le _)))
      clear HA
      go_wp2_with fail
      go_ret
      exact ⟨by rw [HE.out]; rfl, Below.refl _ _⟩
    | succ m =>
      have g1 : (0 : Int) < (m : Int) + 1 := by omega
      have w1 : IntKind.i64.wrap (m : Int) = (m : Int) := IntWalk.i64_in _ ⟨by omega, by omega⟩
      have hm : m < p.length := by omega
      obtain ⟨d, hd⟩ : ∃ d, d = p[m] := ⟨_, rfl⟩
      have hgd : (ByteArray.mk p.toArray)[m]'(by simpa [ByteArray.size] using hm) = d := hd.symm
      have g2 : (m : Int) < (p.length : Int) := by omega
      have g3 : (0 : Int) ≤ (m : Int) := by omega
      by_cases hlt : d < 255
      · have HE : Hid (behP p = p.take m ++ [d + 1]) := Lib.hid (by
          rw [hd] at hlt ⊢
          exact beh_at hm hlt (fun j hj h => HA.out j hj h))
        have hdn : d.toNat < 255 := hlt
        have g4 : (d.toNat : Int) < 255 := by omega
        have w2 : IntKind.u8.wrap ((d.toNat : Int) + 1) = (d.toNat : Int) + 1 := by
          rw [show ((d.toNat : Int) + 1) = ((d.toNat + 1 : Nat) : Int) by omega]
          exact IntWalk.u8_in _ ⟨by omega, by omega⟩
        have c1 := str_cut p 0 m
        rw [Nat.sub_zero, List.drop_zero] at c1
        have c2 := str_cat (p.take m) [d + 1]
        have hml : (p.take m).length = m := by rw [List.length_take]; omega
        have hmp : m ≤ p.length := by omega
        have hm63 : ¬ (9223372036854775807 < m + 1) := by omega
        clear hd HA
        go_upto_region 5 with fail
        refine wp_region_held_drew (S := fun _ => True) (by kernel_rfl) trivial (fun hHeld => ?_)
        obtain ⟨wc, hwc⟩ : ∃ x, x = w.drew := ⟨_, rfl⟩
        have HB := Lib.hid (show Below w.heap.size w wc by rw [hwc]; exact Below.drewsN (Below.refl _ _) 1)
        rw [← hwc]
        clear hwc hHeld
        have hHeld : True := trivial
        refine wpAnyH_take (i := 0) (v := ?v1) rfl (by kernel_rfl) (by kernel_rfl) (by kernel_rfl) (fun _ _ _ h => h) (Or.inl ⟨by rfl, ?hy1⟩) (by assumption) ?_
        case hy1 => (intro w hSw; clear hSw; go_simp; try with_reducible rfl)
        go_simp
        refine wpAnyH_take (i := 1) (v := ?v2) rfl (by kernel_rfl) (by kernel_rfl) (by kernel_rfl) (fun _ _ _ h => h) (Or.inl ⟨by rfl, ?hy2⟩) (by assumption) ?_
        case hy2 => (intro w hSw; clear hSw; go_simp; try with_reducible rfl)
        go_simp
        refine wpAnyH_take (i := 2) (v := ?v3) rfl (by kernel_rfl) (by kernel_rfl) (by kernel_rfl) (fun _ _ _ h => h) (Or.inl ⟨by rfl, ?hy3⟩) (by assumption) ?_
        case hy3 => (intro w hSw; clear hSw; go_simp; try with_reducible rfl)
        go_simp
        refine wpAnyH_take (i := 3) (v := ?v4) rfl (by kernel_rfl) (by kernel_rfl) (by kernel_rfl) (fun _ _ _ h => h) (Or.inl ⟨by rfl, ?hy4⟩) (by assumption) ?_
        case hy4 => (intro w hSw; clear hSw; go_simp; try with_reducible rfl)
        go_simp
        refine wpAnyH_take (i := 4) (v := ?v5) rfl (by kernel_rfl) (by kernel_rfl) (by kernel_rfl) (fun _ _ _ h => h) (Or.inl ⟨by rfl, ?hy5⟩) (by assumption) ?_
        case hy5 => (intro w hSw; clear hSw; go_simp; try with_reducible rfl)
        go_simp
        refine wpAnyH_take (i := 5) (v := ?v6) rfl (by kernel_rfl) (by kernel_rfl) (by kernel_rfl) (fun _ _ _ h => h) (Or.inl ⟨by rfl, ?hy6⟩) (by assumption) ?_
        case hy6 => (intro w hSw; clear hSw; go_simp; try with_reducible rfl)
        go_simp
        refine wpAnyH_take (i := 6) (v := ?v7) rfl (by kernel_rfl) (by kernel_rfl) (by kernel_rfl) (fun _ _ _ h => h) (Or.inl ⟨by rfl, ?hy7⟩) (by assumption) ?_
        case hy7 => (intro w hSw; clear hSw; go_simp; try with_reducible rfl)
        go_simp
        refine wpAnyH_take (i := 7) (v := ?v8) rfl (by kernel_rfl) (by kernel_rfl) (by kernel_rfl) (fun _ _ _ h => h) (Or.inl ⟨by rfl, ?hy8⟩) (by assumption) ?_
        case hy8 => (intro w hSw; clear hSw; go_simp; try with_reducible rfl)
        go_simp
        refine wpAnyH_take (i := 8) (v := ?v9) rfl (by kernel_rfl) (by kernel_rfl) (by kernel_rfl) (fun _ _ _ h => h) (Or.inl ⟨by rfl, ?hy9⟩) (by assumption) ?_
        case hy9 => (intro w hSw; clear hSw; go_simp; try with_reducible rfl)
        go_simp
        refine wpAnyH_ready (rs := [9]) (by kernel_rfl) (by simp) (AllReadyH.cons rfl (fun K hK => ?_) AllReadyH.nil)
        go_simp
        obtain ⟨k9, hk9⟩ : ∃ k, k = wc.heap.size := ⟨_, rfl⟩
        obtain ⟨wd, hwd⟩ : ∃ W, W = wc.alloc (.cells #[.int .u8 ((d.toNat : Int) + 1)] 5) := ⟨_, rfl⟩
        have hbs : Below wc.heap.size wc wd := by rw [hwd]; exact below_alloc _ _
        have hconv := conv_one (d := d) hlt wc wd hwd
        rw [← hk9] at hconv
        have HB := Lib.hid (HB.out.trans (hbs.mono HB.out.size))
        rw [← hwd, ← hk9]
        clear hwd hk9 hbs
        rename World => wc
        refine hK.out _ _ (trivial) (fun hHeld => ?_)
        clear hK K
        refine wpAnyH_ready (rs := [10]) (by kernel_rfl) (by simp) (AllReadyH.cons rfl (fun K hK => ?_) AllReadyH.nil)
        go_simp
        refine hK.out _ _ (trivial) (fun hHeld => ?_)
        clear hK K
        refine wpAnyH_take (i := 11) (v := ?v10) rfl (by kernel_rfl) (by kernel_rfl) (by kernel_rfl) (fun _ _ _ h => h) (Or.inl ⟨by rfl, ?hy10⟩) (by assumption) ?_
        case hy10 => (intro w hSw; clear hSw; go_simp; try with_reducible rfl)
        go_simp
        refine wpAnyH_take (i := 12) (v := ?v11) rfl (by kernel_rfl) (by kernel_rfl) (by kernel_rfl) (fun _ _ _ h => h) (Or.inl ⟨by rfl, ?hy11⟩) (by assumption) ?_
        case hy11 => (intro w hSw; clear hSw; go_simp; try with_reducible rfl)
        go_simp
        refine wpAnyH_done (by kernel_rfl) ?_ _
        go_wp2_with fail
        go_ret
        exact ⟨by rw [HE.out]; rfl, HB.out⟩
      · have HN : Hid (∀ j (hj : j < p.length), m ≤ j → p[j] = 255) := Lib.hid (fun j hj h => by
          by_cases e : j = m
          · subst e
            rw [← hd]
            have h1 : ¬ d.toNat < 255 := hlt
            have h2 := d.toNat_lt
            exact UInt8.toNat_inj.1 (by show d.toNat = 255; omega)
          · exact HA.out j hj (by omega))
        have hdn : ¬ d.toNat < 255 := hlt
        have g4 : ¬ (d.toNat : Int) < 255 := by omega
        clear hd HA hlt
        go_wp2_with fail
        go_roundw
        case rel => exact ⟨m, by omega, by go_num, HN, by first | rfl | trivial⟩
        case measure => simp [intOf]
variable {X W : World} {s mb : Nat} {C : ChC} {low : Int} {n tb wb : Nat} {at1 : Int} {L : OwnL} {k : Nat}
theorem ttPrefix (h : TT X W s mb C low n tb wb at1 L k) (p : List UInt8) (hp : p.length ≤ 9223372036854775807) : Calls Try.prog 22 #[.pointer (some ⟨tb, 0, none⟩), str p] W fun e W' => ∃ b1, e = .returned (.func (.func 49) #[] #[.pointer (some ⟨b1, 0, none⟩), .pointer (some ⟨b1 + 1, 0, none⟩), .pointer (some ⟨b1 + 2, 0, none⟩)]) ∧ TxL W' b1 (b1 + 1) (b1 + 2) tb p (behP p) ∧ Below W.heap.size W W' := by
  have CB := Lib.hid (behind_any p W hp)
  have HT := Lib.hid h
  clear h
  go_enter Try.func22, Try.ntmps22
  go_wp2_with fail
  refine CB.out.mono ?_
  rintro e w1 ⟨rfl, hb1⟩
  have H1 := Lib.hid (HT.out.below hb1)
  have HB1 := Lib.hid hb1
  clear hb1
  go_wp2_with fail
  refine (ttScanR H1.out p (behP p)).mono ?_
  rintro e w2 ⟨b1, rfl, hL, hb2⟩
  have H2 := Lib.hid (And.intro hL (HB1.out.trans (hb2.mono HB1.out.size)))
  clear hL hb2
  go_wp2_with fail
  go_ret
  exact ⟨b1, rfl, H2.out.1, H2.out.2⟩
end Go.Proofs.Ytcgjiddiegepkaa

/- TxnParts: plain facts. -/
namespace Go.Proofs.Ytcgjiddiegepkaa
open Go.RowKit
theorem inR_all (P : List PairT) : P.filter (fun z => inR [] [] z.1) = P := by
  rw [List.filter_eq_self]
  intro z _
  unfold inR hiB
  rw [less_nil]; rfl
/-- What rises lies ahead of a key, and from it on. -/
theorem ris_split : ∀ {P : List PairT} (c : List UInt8), RisB P → P.filter (fun z => Op.bytesLess z.1 c) ++ P.filter (fun z => !Op.bytesLess z.1 c) = P
  | [], _, _ => rfl
  | p :: t, c, h => by
    obtain ⟨h1, h2⟩ := List.pairwise_cons.1 h
    have ih := ris_split c h2
    cases e : Op.bytesLess p.1 c with
    | true => rw [List.filter_cons_of_pos (by simpa using e), List.filter_cons_of_neg (by simp [e]), List.cons_append, ih]
    | false =>
      have e2 : t.filter (fun z => Op.bytesLess z.1 c) = [] := by
        rw [List.filter_eq_nil_iff]
        intro z hz
        cases e3 : Op.bytesLess z.1 c with
        | false => simp
        | true => have := bl_tr _ _ _ (h1 z hz) e3; rw [e] at this; cases this
      rw [List.filter_cons_of_neg (by simp [e]), List.filter_cons_of_pos (by simp [e]), e2, List.nil_append]
      rw [e2, List.nil_append] at ih
      rw [ih]
theorem inR_head {P : List PairT} {c : List UInt8} (hc : c ≠ []) : P.filter (fun z => inR [] c z.1) = P.filter (fun z => Op.bytesLess z.1 c) := by
  apply List.filter_congr
  intro z _
  unfold inR hiB
  rw [less_nil]
  have : (c == ([] : List UInt8)) = false := beq_eq_false_iff_ne.2 hc
  simp [this]
theorem inR_tail (P : List PairT) (c : List UInt8) : P.filter (fun z => inR c [] z.1) = P.filter (fun z => !Op.bytesLess z.1 c) := by
  apply List.filter_congr
  intro z _
  unfold inR hiB
  simp
/-- min(max(n, 0), len). -/
theorem min_max (n : Int) (l : Nat) : ∃ (K : Nat) (M1 : Int), (if n < 0 then 0 else n) = M1 ∧ (if (l : Int) < M1 then (l : Int) else M1) = (K : Int) ∧ K = min n.toNat l := by
  refine ⟨min n.toNat l, _, rfl, ?_, rfl⟩
  (repeat' split) <;> omega
/-- The keys that begin with a text. -/
def begP (c : List UInt8) (z : PairT) : Bool := z.1.take c.length == c
theorem inR_pre (P : List PairT) (c : List UInt8) : P.filter (fun z => inR c (behP c) z.1) = P.filter (begP c) := by
  apply List.filter_congr
  intro z _
  unfold begP
  have h := pre_iff c z.1
  cases e : inR c (behP c) z.1 with
  | true => rw [beq_iff_eq.2 (h.1 e)]
  | false =>
    symm
    rw [beq_eq_false_iff_ne]
    intro e2
    rw [h.2 e2] at e
    cases e
theorem v11pairs_zero {gf : Nat} {lb : Array Value} {w : World} (n : Int) (h1 : n < 1) : Calls Try.prog 21 #[.func (.func gf) #[] lb, .int .i64 n] w (PrsP w []) := by
  have hfn : ∀ w, (binOp .eql 46 (.func (.func gf) #[] lb) .nilFunc).run Try.prog w = .ok (.bool false) w := fun w => by kernel_rfl
  have g1 : decide (n < 1) = true := decide_eq_true h1
  refine (callsIn_wide (n := 9)).1 ?_
  refine callsIn_of_wp_marks Try.func21 rfl trivial ?_ rfl
  simp only [Try.ntmps21, List.size_toArray, List.length_cons, List.length_nil, Nat.reduceAdd, Nat.reduceSub, Array.replicate_succ, Array.replicate_zero, List.push_toArray, List.append_toArray, List.nil_append, List.cons_append]
  gi_wp2
  exact ⟨_, results_tmp rfl _ _ _, .slice none 0 0, rfl, World.ownsRow_nil _ _ _ _, ((Below.refl _ w).alloc (Nat.le_refl _) _).alloc (by simp) _⟩
/-- An append of rows to a row of the call's own, in a region that draws, guarded. -/
theorem step_appendW {P : Program} {w : World} {ops : Array Oper} {o : Oper} {a : Act} {K : Act → World → Prop} {Q : Exit → Act → World → Prop} {N : Prop} (hw : Region.wanted o (yielded ops a.tmps) = true) (s x : Operand) (t : TypeId)
    (ho : o.op = .call { callee := .builtin .append, args := #[s, x], argTypes := #[t, t] }) (base : Nat) (e : TypeId) (i : TypeInfo) (z : Value) (size bytes : Nat) (ht : P.underlying t = some (.slice e)) (hi : P.info? e = some i) (hz : i.zero = some z)
    (hsize : i.size = size) (hby : i.bytes = bytes) (hzs : z.cells.size = size) (hsz : 0 < size)
    (v : Value) (n : Nat) (xs : List Value) (hs : a.eval s = v) (hown : w.ownsRow base e size v n xs)
    (y : Value) (L : List (List Value)) (hL : ∀ r ∈ L, r.length = size) (hone : ∀ u ∈ L.flatten, u.oneCell' = true) (hx : a.eval x = y) (hy : RdF size w y L) (hnil : ∀ c, y = .slice none 0 c → c = 0)
    (h63 : n + L.length ≤ maxLen) (hbytes : (n + L.length) * bytes ≤ 140737488355328) (hbase : base ≤ w.heap.size)
    (hK : ∀ v' w', w'.ownsRow base e size v' (n + L.length) (xs ++ L.flatten) → w.grownBy w' v.ownBlock → K (a.put o.dst v') w') :
    if Region.wanted o (yielded ops a.tmps) = true then Oper.wp P o a w K Q else N := by
  rw [if_pos hw]
  obtain ⟨ad, cap, rfl, h1, h2, h3, h4⟩ := hy
  by_cases hne : L = []
  · subst hne
    cases ad with
    | none =>
      obtain rfl := hnil cap rfl
      have hrun := run_append_owned_none (P := P) (w := w) base t o.type e i size ht hi v n xs hown
      unfold Oper.wp
      simp only [List.length_nil] at hx
      simp [execOp, ho, resolve, invoke, builtin, hs, hx, hrun, Result.andThen]
      exact hK v w (by simpa using hown) ⟨rfl, rfl, rfl, Nat.le_refl _, fun _ _ _ => rfl⟩
    | some ad =>
      exact wp_append_own w s x t ho base e i z size bytes ht hi hz hsize hby hzs hsz v n xs hs hown ad 0 cap [] hx (by simp) (by simp) (by simp) h63 hbytes hbase (fun v' w' g1 g2 _ => hK v' w' (by simpa using g1) g2)
  · obtain ⟨b, off, rfl, hc⟩ := h4 hne
    refine wp_append_own w s x t ho base e i z size bytes ht hi hz hsize hby hzs hsz v n xs hs hown ⟨b, off, none⟩ L.length cap L.flatten hx (flat_len size L hL) ?_ hone h63 hbytes hbase (fun v' w' g1 g2 _ => hK v' w' g1 g2)
    intro j u hj
    have hjl : j < L.length * size := by
      have := (List.getElem?_eq_some_iff.1 hj).1
      rwa [flat_len size L hL] at this
    have hq : j / size < L.length := Nat.div_lt_of_lt_mul (by rwa [Nat.mul_comm] at hjl)
    have hr : j % size < size := Nat.mod_lt _ hsz
    have ej : j = j / size * size + j % size := by rw [Nat.mul_comm]; exact (Nat.div_add_mod j size).symm
    have hf := flat_at size L hL (j / size) hq (j % size) hr
    rw [← ej, hj] at hf
    have := hc (j / size) hq (j % size) u hf.symm
    rw [Addr.add_lit]
    rw [show off + j = off + j / size * size + j % size by rw [Nat.add_assoc, ← ej]]
    exact this
theorem own_nil {W : World} {b size n : Nat} {e : TypeId} {v : Value} {xs : List Value} (h : W.ownsRow b e size v n xs) : ∀ c, v = .slice none 0 c → c = 0 := by
  rintro c rfl
  rcases h.2 with ⟨h', _⟩ | ⟨g, cap, cur, h', _⟩
  · simpa using h'
  · simp at h'
theorem rd_both {W : World} {b : Nat} {v : Value} {H T P : List PairT} (h : W.ownsRow b 63 2 v (H.length + (T.map cellsP).length) ((H.map cellsP).flatten ++ (T.map cellsP).flatten)) (e : H ++ T = P) : RdP W v P := by
  subst e
  refine rdp_ownP (base := b) ?_
  rw [List.length_append, List.map_append, List.flatten_append]
  rwa [List.length_map] at h
end Go.Proofs.Ytcgjiddiegepkaa

/- hblref11.Txn's Prefix. -/
namespace Go.Proofs.Ytcgjiddiegepkaa
open Go.RowKit
variable {W : World} {B rb b : Nat} {at1 : Int} {vo : Value} {L : OwnL}
/-- In a row that rises from p on, those that begin with p come first. -/
theorem pre_first {p : List UInt8} {T : List PairT} (hr : RisB T) (hlo : ∀ z ∈ T, Op.bytesLess z.1 p = false) {i : Nat} (hi : i < T.length) (hn : begP p T[i] = false) : T.filter (begP p) = (T.take i).filter (begP p) := by
  have key : ∀ z ∈ T.drop i, begP p z = false := by
    intro z hz
    obtain ⟨j, hj, rfl⟩ := List.mem_iff_getElem.1 hz
    rw [List.length_drop] at hj
    rw [List.getElem_drop]
    by_cases e : j = 0
    · subst e; exact hn
    · have hlt := (List.pairwise_iff_getElem.1 hr) i (i + j) hi (by omega) (by omega)
      cases e2 : begP p T[i + j] with
      | false => rfl
      | true =>
        have h1 : inR p (behP p) (T[i + j]).1 = true := (pre_iff p _).2 (beq_iff_eq.1 e2)
        have h2 : inR p (behP p) (T[i]).1 = true := by
          unfold inR at h1 ⊢
          rw [hlo _ (List.getElem_mem hi)]
          rw [Bool.and_eq_true] at h1
          have h3 := h1.2
          unfold hiB at h3 ⊢
          rw [Bool.or_eq_true] at h3
          rcases h3 with h3 | h3
          · rw [h3]; rfl
          · rw [bl_tr _ _ _ hlt h3]; simp
        have h4 : begP p T[i] = true := beq_iff_eq.2 ((pre_iff p _).1 h2)
        rw [hn] at h4; cases h4
  have hd : (T.drop i).filter (begP p) = [] := List.filter_eq_nil_iff.2 (fun z hz => by rw [key z hz]; simp)
  conv => lhs; rw [← List.take_append_drop i T]
  rw [List.filter_append, hd, List.append_nil]
theorem pre_all {p : List UInt8} {T : List PairT} {i : Nat} (h : ∀ j (hj : j < T.length), j < i → begP p T[j] = true) : (T.take i).filter (begP p) = T.take i := by
  rw [List.filter_eq_self]
  intro z hz
  obtain ⟨j, hj, rfl⟩ := List.mem_iff_getElem.1 hz
  rw [List.length_take] at hj
  rw [List.getElem_take]
  exact h j (by omega) (by omega)
set_option maxRecDepth 100000 in
set_option maxHeartbeats 8000000 in
theorem rxPrefix_any (p : List UInt8) (T : List PairT) (hT : T.length ≤ 200000) (hr : RisB T) (hlo : ∀ z ∈ T, Op.bytesLess z.1 p = false) (_ : p.length ≤ 9223372036854775807) (cs : Calls Try.prog 30 #[.pointer (some ⟨rb, 0, none⟩), str p, str []] W (PrsP W T)) :
    Calls Try.prog 23 #[.pointer (some ⟨rb, 0, none⟩), str p] W (PrsP W (T.filter (begP p))) := by
  obtain ⟨i0, hi0, hz0, hz1, hz2⟩ := info_parts infoPair
  have CS := Lib.hid cs
  have HT := Lib.hid (And.intro hr hlo)
  clear cs hr hlo
  go_enter Try.func23, Try.ntmps23
  go_wp2_with fail
  refine CS.out.mono ?_
  rintro e w1 ⟨vl, rfl, hr1, hb1⟩
  have HP := Lib.hid (And.intro (rx_rdp hr1) hb1)
  obtain ⟨al, cl, rfl, -⟩ := HP.out.1.form
  clear hr1 hb1 CS
  go_wp2_with fail
  go_loopw [6, 7] (fun vo vi wr => ∃ i : Nat, i ≤ T.length ∧ vi = .int .i64 (i : Int) ∧ Hid (∀ j (hj : j < T.length), j < i → begP p T[j] = true) ∧ Hid (wr.ownsRow w1.heap.size 63 2 vo (T.take i).length ((T.take i).map cellsP).flatten ∧ Below w1.heap.size w1 wr)) (fun _ vi _ => T.length - (intOf vi).toNat)
  case atStart => exact ⟨0, Nat.zero_le _, rfl, Lib.hid (fun _ _ h => absurd h (by omega)), Lib.hid ⟨World.ownsRow_nil _ _ _ _, Below.refl _ _⟩⟩
  case round =>
    obtain ⟨i, hi, rfl, HI, HQ⟩ := hrel
    have HFB : Hid (∀ vo w9, w9.ownsRow w1.heap.size 63 2 vo (T.take i).length ((T.take i).map cellsP).flatten → Below w1.heap.size w1 w9 → T.filter (begP p) = T.take i → PrsP W (T.filter (begP p)) (.returned vo) w9) := Lib.hid (fun vo w9 h1 h2 h3 => ⟨vo, rfl, by rw [h3]; exact row_mono h1 HP.out.2.size, HP.out.2.trans (h2.mono HP.out.2.size)⟩)
    by_cases hlt : i < T.length
    · have g5 : decide ((i : Int) < (T.length : Int)) = true := decide_eq_true (by omega)
      have g5' : (i : Int) < (T.length : Int) := by omega
      have g6 : (0 : Int) ≤ (i : Int) := by omega
      obtain ⟨bP, oP, rfl, c0, c1⟩ := RdP.get (RdF.below HP.out.1 HQ.out.2 (Nat.le_refl _)) hlt
      have HTK := Lib.hid (List.take_succ_eq_append_getElem hlt)
      have HBG : Hid (begP p T[i] = false → T.filter (begP p) = T.take i) := Lib.hid (fun h => by rw [pre_first HT.out.1 HT.out.2 hlt h, pre_all HI.out])
      obtain ⟨z, hz⟩ : ∃ z, z = T[i] := ⟨_, rfl⟩
      have HZ := Lib.hid hz
      rw [← hz] at c0 c1 HTK HBG
      clear hz
      obtain ⟨zk, zv⟩ := z
      dsimp only at c0 c1
      by_cases hge : (zk.length : Int) < (p.length : Int)
      · have g7 : decide ((zk.length : Int) < (p.length : Int)) = true := decide_eq_true hge
        have HF : Hid (T.filter (begP p) = T.take i) := Lib.hid (HBG.out (by
          unfold begP
          rw [beq_eq_false_iff_ne]
          intro e
          have := congrArg List.length e
          rw [List.length_take] at this
          dsimp only at this
          omega))
        have HX := Lib.hid (HFB.out u6 wr HQ.out.1 HQ.out.2 HF.out)
        clear HF HFB HBG HTK HZ HI HQ
        go_wp2_with fail
        go_ret
        exact HX.out
      have g7 : decide ((zk.length : Int) < (p.length : Int)) = false := decide_eq_false hge
      have g8 : (p.length : Int) ≤ (zk.length : Int) := by omega
      have g8n : p.length ≤ zk.length := by omega
      have c2 := str_cut zk 0 p.length
      rw [Nat.sub_zero, List.drop_zero] at c2
      by_cases hkb : zk.take p.length = p
      · have n1 : (zk.take p.length != p) = false := by rw [hkb]; exact bne_self_eq_false _
        have n2 : (zk.take p.length == p) = true := beq_iff_eq.2 hkb
        have HN : Hid (∀ j (hj : j < T.length), j < i + 1 → begP p T[j] = true) := Lib.hid (fun j hj h => by
          by_cases e : j = i
          · subst e
            rw [← HZ.out]
            exact n2
          · exact HI.out j hj (by omega))
        have HKB := Lib.hid hkb
        clear hkb HFB HBG HI HZ hge
        go_wp2_with (at_builtin; refine hold ?_)
        intro _
        refine wpList_appendF (by rfl) _ _ 43 (by rfl) w1.heap.size 63 i0 _ 2 32 Try.underlying43 hi0 hz0 hz1 hz2 rfl (by decide) u6 (T.take i).length _ (by rfl) (World.ownsRow.alloc HQ.out.1 _) (.slice (some ⟨wr.heap.size, 0, none⟩) 1 1) [cellsP (zk, zv)] (by simp [cellsP]) (by simp [cellsP, Value.oneCell']) (by rfl) (RdF.lit [cellsP (zk, zv)] (by simp [cellsP]) (heap_alloc_new _ _) rfl (by simp)) (fun c h => by cases h) ?_ ?_ ?_ ?_
        · simp [maxLen]; omega
        · simp; omega
        · have := HQ.out.2.size; simp; omega
        intro v9 w9 r9 gr9
        have HQ9 : Hid (w9.ownsRow w1.heap.size 63 2 v9 (T.take (i + 1)).length ((T.take (i + 1)).map cellsP).flatten ∧ Below w1.heap.size w1 w9) := Lib.hid ⟨by
          rw [HTK.out, List.length_append, List.map_append, List.flatten_append]
          exact r9, (HQ.out.2.alloc HQ.out.2.size _).grown gr9 (by have := HQ.out.2.size; simp; omega) (fun k e => (HQ.out.1.lt k e).1)⟩
        clear r9 gr9 HQ HTK
        go_wp2_with fail
        go_roundw
        case rel => exact ⟨i + 1, by omega, by go_num, HN, HQ9⟩
        case measure => simp [intOf]; omega
      · have n1 : (zk.take p.length != p) = true := bne_iff_ne.2 hkb
        have n2 : (zk.take p.length == p) = false := beq_eq_false_iff_ne.2 hkb
        have HF : Hid (T.filter (begP p) = T.take i) := Lib.hid (HBG.out n2)
        have HX := Lib.hid (HFB.out u6 wr HQ.out.1 HQ.out.2 HF.out)
        clear HF HFB HBG HTK HZ HI HQ hkb hge
        go_wp2_with fail
        go_ret
        exact HX.out
    · obtain rfl : i = T.length := by omega
      have g5 : decide ((T.length : Int) < (T.length : Int)) = false := decide_eq_false (by omega)
      have g5' : ¬ (T.length : Int) < (T.length : Int) := by omega
      have HF : Hid (T.filter (begP p) = T.take T.length) := Lib.hid (by rw [← pre_all HI.out, List.take_length])
      have HX := Lib.hid (HFB.out u6 wr HQ.out.1 HQ.out.2 HF.out)
      clear HF HFB HI HQ
      go_wp2_with fail
      go_ret
      exact HX.out
end Go.Proofs.Ytcgjiddiegepkaa
