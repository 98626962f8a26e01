/-
  Words and lemmas on slices of bytes, over whatever program: no condition.
-/
import Derived.WalkKit
import Derived.Handy
import Derived.Lib.Hide
import Derived.WalkLawsBesides
import Derived.WalkSpells
import Derived.Laws.AppendOwnNone
import Derived.Deep.AppendLies
namespace Go.Proofs.YtidlhajibjnkeaaGreatDoor
open Go.RowKit

/-- A byte as a cell. -/
def bv (c : UInt8) : Value := .int .u8 (c.toNat : Int)

theorem bv_ofNat (n : Nat) (h : n < 256) : bv (UInt8.ofNat n) = .int .u8 (n : Int) := by
  unfold bv; rw [UInt8.toNat_ofNat']; congr 1; omega

theorem bv_one (l : List UInt8) : ∀ u ∈ l.map bv, u.oneCell' = true := by
  intro u hu
  obtain ⟨_, _, rfl⟩ := List.mem_map.1 hu
  rfl


/-- A walk stands still here, so that a law can be laid by hand. -/
theorem hold {p : Prop} (h : Unit → p) : p := h ()

/-- The type numbers of '[]byte' and 'byte' in a program. -/
structure BT (P : Program) (T E : TypeId) : Prop where
  t : P.underlying T = some (.slice E)
  e : P.underlying E = some (.int .u8)
  info : (P.info? E).map (fun i => (i.zero, i.size, i.bytes)) = some (some (.int .u8 0), 1, 1)

/-- A slice of bytes of the call's own: at the head of a block from 'base' on. -/
def Own (E : TypeId) (w : World) (base : Nat) (v : Value) (l : List UInt8) : Prop := w.ownsRow base E 1 v l.length (l.map bv)

/-- A slice that reads as the bytes l. -/
def Rd (w : World) (v : Value) (l : List UInt8) : Prop :=
  ∃ (a : Option Addr) (cap : Nat), v = .slice a l.length cap ∧ l.length ≤ cap ∧ cap ≤ maxLen ∧ (a = none → cap = 0) ∧
    (l ≠ [] → ∃ b off, a = some ⟨b, off, none⟩ ∧ ∀ i (h : i < l.length), w.cell? ⟨b, off + i, none⟩ = some (bv l[i]))

/-- A list of bytes as a string's value. -/
abbrev str (l : List UInt8) : Value := .string ⟨l.toArray⟩

theorem Rd.nil (w : World) : Rd w (.slice none 0 0) [] := ⟨none, 0, rfl, Nat.le_refl _, by decide, fun _ => rfl, fun h => absurd rfl h⟩

theorem Rd.lens {w : World} {v : Value} {l : List UInt8} (h : Rd w v l) : l.length ≤ 9223372036854775807 := by
  obtain ⟨a, cap, _, h1, h2, _⟩ := h
  unfold maxLen at h2; omega

theorem Rd.below {B : Nat} {w w' : World} {v : Value} {l : List UInt8} (h : Rd w v l) (hb : Below B w w') (hB : w.heap.size ≤ B) : Rd w' v l := by
  obtain ⟨a, cap, hv, h1, h2, h3, h4⟩ := h
  refine ⟨a, cap, hv, h1, h2, h3, fun hl => ?_⟩
  obtain ⟨b, off, ha, hc⟩ := h4 hl
  refine ⟨b, off, ha, fun i hi => ?_⟩
  have := hc i hi
  rw [hb.cell (p := ⟨b, off + i, none⟩) (by have := World.block_lt_of_cell? w _ this; exact Nat.lt_of_lt_of_le this hB)]
  exact this

theorem Rd.cells {w : World} {b off n cap : Nat} {l : List UInt8} (h : Rd w (.slice (some ⟨b, off, none⟩) n cap) l) :
    n = l.length ∧ ∀ i (hi : i < l.length), w.cell? ⟨b, off + i, none⟩ = some (bv l[i]) := by
  obtain ⟨a, cap', hv, h1, h2, h3, h4⟩ := h
  simp only [Value.slice.injEq] at hv
  obtain ⟨rfl, rfl, rfl⟩ := hv
  refine ⟨rfl, fun i hi => ?_⟩
  obtain ⟨b', off', ha, hc⟩ := h4 (by intro e; subst e; simp at hi)
  simp only [Option.some.injEq, Addr.mk.injEq] at ha
  obtain ⟨rfl, rfl, _⟩ := ha
  exact hc i hi

theorem Rd.take {w : World} {b off n cap : Nat} {l : List UInt8} (h : Rd w (.slice (some ⟨b, off, none⟩) n cap) l) (k : Nat) (hk : k ≤ l.length) :
    Rd w (.slice (some ⟨b, off, none⟩) k cap) (l.take k) := by
  have hc := h.cells.2
  obtain ⟨a, cap', hv, h1, h2, h3, h4⟩ := h
  simp only [Value.slice.injEq] at hv
  obtain ⟨rfl, rfl, rfl⟩ := hv
  have hl : (l.take k).length = k := by simp; omega
  refine ⟨_, cap, by rw [hl], by rw [hl]; omega, h2, (fun h => by cases h), fun _ => ⟨b, off, rfl, fun i hi => ?_⟩⟩
  rw [hl] at hi
  rw [hc i (by omega)]
  simp
theorem Rd.drewN {w : World} {v : Value} {l : List UInt8} (h : Rd w v l) (q : Nat) : Rd (w.drewN q) v l := by
  obtain ⟨a, cap, hv, h1, h2, h3, h4⟩ := h
  refine ⟨a, cap, hv, h1, h2, h3, fun hl => ?_⟩
  obtain ⟨b, off, ha, hc⟩ := h4 hl
  exact ⟨b, off, ha, fun i hi => hc i hi⟩

theorem Rd.drew1 {w : World} {v : Value} {l : List UInt8} (h : Rd w v l) : Rd w.drew v l := h.drewN 1
theorem Below.drewsN {B : Nat} {a w : World} (h : Below B a w) (q : Nat) : Below B a (w.drewN q) := ⟨h.os, h.tape, h.output, h.size, h.block⟩

theorem Own.rd {E : TypeId} {w : World} {base : Nat} {v : Value} {l : List UInt8} (h : Own E w base v l) : Rd w v l := by
  rcases h.2 with ⟨rfl, hn⟩ | ⟨g, cap, cur, rfl, _, hg, h1, h2, h3, h4⟩
  · obtain rfl := List.eq_nil_of_length_eq_zero hn
    exact Rd.nil w
  · refine ⟨_, cap, rfl, h1, h2, fun h => (by cases h), fun _ => ⟨g, 0, rfl, fun i hi => ?_⟩⟩
    rw [Nat.zero_add, cell_of_row w g i cur E (0, 0) hg]
    have e : (l.map bv)[i]? = some (bv l[i]) := by simp [hi]
    rw [← h4, List.getElem?_take, if_pos (by omega)] at e
    simpa using e

theorem Own.nil (E : TypeId) (w : World) (base : Nat) : Own E w base (.slice none 0 0) [] := World.ownsRow_nil w base E 1

theorem Own.kept {E : TypeId} {w w' : World} {base : Nat} {v : Value} {l : List UInt8} {row : Option Nat} (h : Own E w base v l) (hg : w.grownBy w' row) (hne : v.ownBlock = none ∨ v.ownBlock ≠ row) : Own E w' base v l :=
  World.ownsRow.kept h hg hne

theorem Own.base {E : TypeId} {w : World} {base : Nat} {v : Value} {l : List UInt8} (h : Own E w base v l) : ∀ k, v.ownBlock = some k → base ≤ k ∧ k < w.heap.size := World.ownsRow.lt h

/-- What is owned below a mark stays as it is. -/
theorem Own.below {E : TypeId} {w w' : World} {base B : Nat} {v : Value} {l : List UInt8} (h : Own E w base v l) (hb : Below B w w') (hB : w.heap.size ≤ B) : Own E w' base v l := by
  refine ⟨h.1, ?_⟩
  rcases h.2 with hn | ⟨g, cap, cur, rfl, hb', hg, rest⟩
  · exact .inl hn
  · refine .inr ⟨g, cap, cur, rfl, hb', ?_, rest⟩
    rw [hb.block g (Nat.lt_of_lt_of_le (Array.getElem?_eq_some_iff.1 hg).1 hB)]
    exact hg

theorem Own.mono {E : TypeId} {w : World} {base base' : Nat} {v : Value} {l : List UInt8} (h : Own E w base v l) (hb : base' ≤ base) : Own E w base' v l := by
  refine ⟨h.1, ?_⟩
  rcases h.2 with hn | ⟨g, cap, cur, rfl, hb', rest⟩
  · exact .inl hn
  · exact .inr ⟨g, cap, cur, rfl, Nat.le_trans hb hb', rest⟩

theorem grown_trans {a b c : World} {row : Option Nat} (h : a.grownBy b row) (k : b.grownBy c row) : a.grownBy c row :=
  ⟨k.os.trans h.os, k.tape.trans h.tape, k.output.trans h.output, Nat.le_trans h.size k.size, fun i hi hne => (k.block i (Nat.lt_of_lt_of_le hi h.size) hne).trans (h.block i hi hne)⟩

theorem Own.grows {E : TypeId} {w w' : World} {base B : Nat} {v : Value} {l : List UInt8} (h : Own E w base v l) (hg : w.grownBy w' v.ownBlock) (hB : B ≤ base) (hw : B ≤ w.heap.size) : Below B w w' :=
  (Below.refl _ _).grown hg hw (fun k hk => Nat.le_trans hB (h.base k hk).1)

/-- An owned row's cell, and that it may be written. -/
theorem Own.cell {E : TypeId} {w : World} {base g n cap : Nat} {l : List UInt8} (h : Own E w base (.slice (some ⟨g, 0, none⟩) n cap) l) :
    n = l.length ∧ (∀ j (hj : j < l.length), w.cell? ⟨g, j, none⟩ = some (bv l[j])) ∧ ∀ j, w.frozen? ⟨g, j, none⟩ = false := by
  rcases h.2 with ⟨h1, _⟩ | ⟨g', cap', cur, hv, _, hg, h1, h2, h3, h4⟩
  · simp at h1
  · simp only [Value.slice.injEq, Option.some.injEq, Addr.mk.injEq, and_true] at hv
    obtain ⟨rfl, rfl, rfl⟩ := hv
    refine ⟨rfl, fun j hj => ?_, fun j => frozen_of_row w g j cur E hg⟩
    have := h.rd.cells.2 j hj
    simpa using this

/-- A store into an owned row. -/
theorem Own.set {E : TypeId} {w : World} {base g n cap : Nat} {l : List UInt8} (h : Own E w base (.slice (some ⟨g, 0, none⟩) n cap) l) (j : Nat) (c : UInt8) (x : Value) (hx : x = bv c) :
    Own E (w.setCell ⟨g, j, none⟩ x) base (.slice (some ⟨g, 0, none⟩) n cap) (l.set j c) := by
  have hn := h.cell.1
  subst hn
  subst hx
  have := World.ownsRow.stored h j (bv c)
  unfold Own
  rw [List.length_set, List.map_set]
  exact this.1

/-- '[]byte{}'. -/
theorem Own.made0 (E : TypeId) (w : World) : Own E (w.alloc (.cells #[] E)) w.heap.size (.slice (some ⟨w.heap.size, 0, none⟩) 0 0) [] :=
  World.ownsRow_made w #[] 0 (Nat.le_refl _) (by decide) rfl
theorem below_alloc (w : World) (o : Obj) : Below w.heap.size w (w.alloc o) := (Below.refl _ _).alloc (Nat.le_refl _) o
theorem Rd.alloc {w : World} {v : Value} {l : List UInt8} (h : Rd w v l) (o : Obj) : Rd (w.alloc o) v l := h.below (below_alloc w o) (Nat.le_refl _)

/-- One new byte in a block of its own. -/
theorem Rd.one (E : TypeId) (w : World) (c : UInt8) (n : Int) (hn : n = (c.toNat : Int)) : Rd (w.alloc (.cells #[.int .u8 n] E)) (.slice (some ⟨w.heap.size, 0, none⟩) 1 1) [c] := by
  subst hn
  refine ⟨_, 1, rfl, by simp, by decide, (fun h => by cases h), fun _ => ⟨w.heap.size, 0, rfl, fun i hi => ?_⟩⟩
  simp at hi
  subst hi
  simp
  rfl
theorem Own.alloc {E : TypeId} {w : World} {base : Nat} {v : Value} {l : List UInt8} (h : Own E w base v l) (o : Obj) : Own E (w.alloc o) base v l := World.ownsRow.alloc h o
/-- What reads in another block than the one that was appended to reads as it did. -/
theorem Rd.grown {w w' : World} {row : Option Nat} {b off n cap : Nat} {l : List UInt8} (h : Rd w (.slice (some ⟨b, off, none⟩) n cap) l) (hg : w.grownBy w' row) (hne : row ≠ some b) : Rd w' (.slice (some ⟨b, off, none⟩) n cap) l := by
  obtain ⟨a, cap', hv, h1, h2, h3, h4⟩ := h
  refine ⟨a, cap', hv, h1, h2, h3, fun hl => ?_⟩
  obtain ⟨b', off', ha, hc⟩ := h4 hl
  refine ⟨b', off', ha, fun i hi => hg.cell (hc i hi) ?_⟩
  simp only [Value.slice.injEq] at hv
  rw [ha] at hv
  simp only [Option.some.injEq, Addr.mk.injEq] at hv
  obtain ⟨⟨rfl, _⟩, _⟩ := hv
  exact hne.symm

theorem Rd.past {w w' wc : World} {E : TypeId} {base b off n cap : Nat} {v : Value} {l l0 : List UInt8} (h : Rd w (.slice (some ⟨b, off, none⟩) n cap) l) (hg : w.grownBy w' v.ownBlock)
    (ho : Own E wc base v l0) (hne : b < base ∨ wc.heap.size ≤ b) : Rd w' (.slice (some ⟨b, off, none⟩) n cap) l :=
  h.grown hg fun e => by have := ho.base b e; omega

theorem Rd.oneAt (E : TypeId) (w : World) (c : UInt8) (n : Int) (b : Nat) (hn : n = (c.toNat : Int)) (hb : b = w.heap.size) : Rd (w.alloc (.cells #[.int .u8 n] E)) (.slice (some ⟨b, 0, none⟩) 1 1) [c] := by
  subst hb
  exact Rd.one E w c n hn

section laws
variable {P : Program} {T E : TypeId} {ops : Array Oper} {rest : List Oper} {o : Oper} {a : Act} {Q : Exit → Act → World → Prop} {w : World}

/-- 'append(b, x)', one byte, b of the call's own. -/
theorem BT.append1 (B : BT P T E) (hgd : o.guard = none) (s x : Operand) (ho : o.op = .call { callee := .builtin .append, args := #[s, x], argTypes := #[T, T] })
    (base : Nat) (v : Value) (l : List UInt8) (c : UInt8) (n : Int) (hn : n = (c.toNat : Int)) (hown : Own E w base v l) (hs : a.eval s = v)
    (hx : a.eval x = .slice (some ⟨w.heap.size, 0, none⟩) 1 1) (hlen : l.length < 140737488355328) (hbase : base ≤ w.heap.size)
    (h : ∀ v' w', Own E w' base v' (l ++ [c]) → w.grownBy w' v.ownBlock → wpList P ops Q rest (a.put o.dst v') w') :
    wpList P ops Q (o :: rest) a (w.alloc (.cells #[.int .u8 n] E)) := by
  obtain ⟨i, hi, h1, h2, h3⟩ := info_parts B.info
  subst hn
  refine wpList_append_own _ hgd s x T ho base E i (.int .u8 0) 1 1 B.t hi h1 h2 h3 rfl (by decide) v l.length (l.map bv) hs (World.ownsRow.alloc hown _) ⟨w.heap.size, 0, none⟩ 1 1 [bv c] hx rfl ?_ ?_ (by unfold maxLen; omega) (by omega) (by simp; omega) ?_
  · intro j u hj
    match j, hj with
    | 0, hj => simp at hj; subst hj; simp [Addr.add]; rfl
  · intro u hu; simp at hu; subst hu; rfl
  · intro v' w' h1 h2 _
    refine h v' w' ?_ (grown_trans (World.grownBy_alloc w _ _) h2)
    unfold Own
    simpa using h1

/-- 'append(b, s...)', b of the call's own, s whatever slice of bytes. -/
theorem BT.appendS (B : BT P T E) (hgd : o.guard = none) (s x : Operand) (ho : o.op = .call { callee := .builtin .append, args := #[s, x], argTypes := #[T, T] })
    (base : Nat) (v y : Value) (l m : List UInt8) (hown : Own E w base v l) (hy : Rd w y m) (hs : a.eval s = v) (hx : a.eval x = y) (hlen : l.length + m.length ≤ 140737488355328) (hbase : base ≤ w.heap.size)
    (h : ∀ v' w', Own E w' base v' (l ++ m) → w.grownBy w' v.ownBlock → wpList P ops Q rest (a.put o.dst v') w') :
    wpList P ops Q (o :: rest) a w := by
  obtain ⟨i, hi, h1, h2, h3⟩ := info_parts B.info
  obtain ⟨ad, cap, rfl, hc1, hc2, hc3, hc4⟩ := hy
  cases ad with
  | none =>
    obtain rfl := hc3 rfl
    have hm : m.length = 0 := by omega
    obtain rfl := List.eq_nil_of_length_eq_zero hm
    exact wpList_append_own_none hgd s x T ho base E i 1 B.t hi v l.length (l.map bv) hs hown hx (h v w (by rw [List.append_nil]; exact hown) ⟨rfl, rfl, rfl, Nat.le_refl _, fun _ _ _ => rfl⟩)
  | some ad =>
    refine wpList_append_own _ hgd s x T ho base E i (.int .u8 0) 1 1 B.t hi h1 h2 h3 rfl (by decide) v l.length (l.map bv) hs hown ad m.length cap (m.map bv) hx (by simp) ?_ (bv_one m) (by unfold maxLen; omega) (by omega) hbase ?_
    · intro j u hj
      have hjm : j < m.length := by
        have := (List.getElem?_eq_some_iff.1 hj).1
        simpa using this
      obtain ⟨b, off, hab, hcell⟩ := hc4 (by intro e; subst e; simp at hjm)
      simp only [Option.some.injEq] at hab
      subst hab
      rw [Addr.add_lit, hcell j hjm]
      simpa [hjm] using hj
    · intro v' w' h1 h2 _
      refine h v' w' ?_ h2
      unfold Own
      simpa using h1

/-- 'append(b, s...)' at a step of a region that draws its order. -/
theorem BT.stepAppend {K : Act → World → Prop} {N : Prop} (B : BT P T E) (hgd : o.guard = none) (s x : Operand) (ho : o.op = .call { callee := .builtin .append, args := #[s, x], argTypes := #[T, T] })
    (base : Nat) (v : Value) (l m : List UInt8) (hs : a.eval s = v) (hown : Own E w base v l) (hy : Rd w (a.eval x) m) (hlen : l.length + m.length ≤ 140737488355328) (hbase : base ≤ w.heap.size)
    (h : ∀ v' w', Own E w' base v' (l ++ m) → w.grownBy w' v.ownBlock → K (a.put o.dst v') w') :
    if Region.wanted o (yielded ops a.tmps) = true then Oper.wp P o a w K Q else N := by
  have hw : Region.wanted o (yielded ops a.tmps) = true := by simp [Region.wanted, hgd]
  rw [if_pos hw]
  obtain ⟨i, hi, h1, h2, h3⟩ := info_parts B.info
  obtain ⟨ad, cap, hx, hc1, hc2, hc3, hc4⟩ := hy
  cases ad with
  | none =>
    obtain rfl := hc3 rfl
    have hm : m.length = 0 := by omega
    obtain rfl := List.eq_nil_of_length_eq_zero hm
    have hrun := run_append_owned_none (P := P) (w := w) base T o.type E i 1 B.t hi v l.length (l.map bv) hown
    unfold Oper.wp
    simp only [List.length_nil] at hx
    simp [execOp, ho, resolve, invoke, builtin, hs, hx, hrun, Result.andThen]
    exact h v w (by rw [List.append_nil]; exact hown) ⟨rfl, rfl, rfl, Nat.le_refl _, fun _ _ _ => rfl⟩
  | some ad =>
    refine wp_append_own w s x T ho base E i (.int .u8 0) 1 1 B.t hi h1 h2 h3 rfl (by decide) v l.length (l.map bv) hs hown ad m.length cap (m.map bv) hx (by simp) ?_ (bv_one m) (by unfold maxLen; omega) (by omega) hbase ?_
    · intro j u hj
      have hjm : j < m.length := by
        have := (List.getElem?_eq_some_iff.1 hj).1
        simpa using this
      obtain ⟨b, off, hab, hcell⟩ := hc4 (by intro e; subst e; simp at hjm)
      simp only [Option.some.injEq] at hab
      subst hab
      rw [Addr.add_lit, hcell j hjm]
      simpa [hjm] using hj
    · intro v' w' h1 h2 _
      refine h v' w' ?_ h2
      unfold Own
      simpa using h1

/-- 'make([]byte, 0, n)'. -/
theorem BT.make0 (B : BT P T E) (hgd : o.guard = none) (lo co : Operand) (ho : o.op = Op.makeSlice T lo co) (n : Nat) (N : Int) (hN : N = (n : Int))
    (hl : a.eval lo = .int .i64 0) (hc : a.eval co = .int .i64 N) (hn : n ≤ 281474976710656)
    (h : ∀ w', Own E w' w.heap.size (.slice (some ⟨w.heap.size, 0, none⟩) 0 n) [] → w.grownBy w' none → wpList P ops Q rest (a.put o.dst (.slice (some ⟨w.heap.size, 0, none⟩) 0 n)) w') :
    wpList P ops Q (o :: rest) a w := by
  obtain ⟨i, hi, h1, h2, h3⟩ := info_parts B.info
  exact wpList_make_own w hgd lo co T ho w.heap.size E i (.int .u8 0) 1 B.t hi h1 h2 .i64 .i64 N n hl hc hN (by rw [h3]; omega) (by unfold maxLen; omega) (Nat.le_refl _) h

/-- 'make([]byte, n)'. -/
theorem BT.makeN (B : BT P T E) (hgd : o.guard = none) (lo co : Operand) (ho : o.op = Op.makeSlice T lo co) (n : Nat) (N N' : Int) (hN : N = (n : Int)) (hN' : N' = (n : Int))
    (hl : a.eval lo = .int .i64 N) (hc : a.eval co = .int .i64 N') (hn : n ≤ 281474976710656)
    (h : ∀ w', Own E w' w.heap.size (.slice (some ⟨w.heap.size, 0, none⟩) n n) (List.replicate n 0) → w.grownBy w' none → wpList P ops Q rest (a.put o.dst (.slice (some ⟨w.heap.size, 0, none⟩) n n)) w') :
    wpList P ops Q (o :: rest) a w := by
  obtain ⟨i, hi, h1, h2, h3⟩ := info_parts B.info
  refine wpList_make_full w hgd lo co T ho w.heap.size E i (.int .u8 0) 1 B.t hi h1 h2 .i64 .i64 N N' n hl hc hN hN' (by rw [h3]; omega) (by unfold maxLen; omega) (Nat.le_refl _) fun w' k1 k2 => h w' ?_ k2
  unfold Own
  have e : (madeCells (Value.int IntKind.u8 0).cells (n * 1)).toList = (List.replicate n (0 : UInt8)).map bv := by
    apply List.ext_getElem?
    intro j
    simp only [madeCells, Nat.mul_one, List.map_replicate]
    by_cases hj : j < n
    · simp [hj, bv, Value.cells, Nat.mod_one]
    · simp [hj]
  rw [e] at k1
  simpa using k1

/-- 'string(b)'. -/
theorem BT.toString (B : BT P T E) {S : TypeId} (hS : P.underlying S = some .string) {v : Value} {l : List UInt8} (h : Rd w v l) : (convert T S v).run P w = .ok (str l) w := by
  obtain ⟨ad, cap, rfl, h1, h2, h3, h4⟩ := h
  rw [run_convert_bytes_string w T S E ad _ _ B.t B.e hS]
  cases ad with
  | none =>
    have hl : l.length = 0 := by have := h3 rfl; omega
    obtain rfl := List.eq_nil_of_length_eq_zero hl
    simp [Conv.bytesToString, str]
    rfl
  | some ad =>
    have hc : (loadCells ad l.length).run P w = .ok ((l.map fun c => (c.toNat : Int)).map (Value.int .u8)).toArray w := by
      have := run_loadCells_list (P := P) w ad (l.map bv) (fun j u hj => by
        have hjm : j < l.length := by
          have := (List.getElem?_eq_some_iff.1 hj).1
          simpa using this
        obtain ⟨b, off, hab, hcell⟩ := h4 (by intro e; subst e; simp at hjm)
        simp only [Option.some.injEq] at hab
        subst hab
        rw [Addr.add_lit, hcell j hjm]
        simpa [hjm] using hj)
      simp only [List.length_map] at this
      rw [this]
      congr 2
      simp [bv, Function.comp_def]
    rw [run_bytesToString w ad _ _ _ hc]
    congr 1
    unfold str
    rw [foldl_push_bytes]
    congr 1
    simp [Function.comp_def]
end laws

/-- A number told in bytes of seven bits, the least first. -/
def varL (n : Nat) : List UInt8 := if h : n < 128 then [UInt8.ofNat n] else UInt8.ofNat (n % 128 + 128) :: varL (n / 128)
termination_by n
decreasing_by omega

theorem varL_small (n : Nat) (h : n < 128) : varL n = [UInt8.ofNat n] := by rw [varL, dif_pos h]
theorem varL_big (n : Nat) (h : ¬ n < 128) : varL n = UInt8.ofNat (n % 128 + 128) :: varL (n / 128) := by rw [varL, dif_neg h]

theorem varL_len : ∀ (k n : Nat), n < 128 ^ (k + 1) → (varL n).length ≤ k + 1
  | 0, n, h => by rw [varL_small n (by omega)]; simp
  | k + 1, n, h => by
    by_cases hn : n < 128
    · rw [varL_small n hn]; simp
    · rw [varL_big n hn, List.length_cons]
      have := varL_len k (n / 128) (by
        rw [Nat.div_lt_iff_lt_mul (by omega)]
        rw [Nat.pow_succ] at h
        exact h)
      omega
theorem varL_pos (n : Nat) : 0 < (varL n).length := by
  by_cases hn : n < 128
  · rw [varL_small n hn]; simp
  · rw [varL_big n hn]; simp

theorem wraps_i64 (n : Int) (h₀ : 0 ≤ n) (h₁ : n < 2 ^ 63) : IntKind.i64.wrap n = n := by rw [IntKind.wrap_i64]; omega
theorem or128 (n : Int) (h0 : 0 ≤ n) (h1 : n < 128) : bits .or .i64 n 128 = n + 128 := by
  have hc : bits .or .i64 n 128 = bits .or .i64 128 n := by simp only [bits, BitVec.or_comm]
  rw [hc, bits_join .i64 63 (by decide) wraps_i64 7 128 n (by decide) (by decide) (by decide) h0 h1 (by omega)]
  omega
theorem low7 (n : Nat) : bits .or .i64 (bits .and .i64 (n : Int) 127) 128 % 256 = ((UInt8.ofNat (n % 128 + 128)).toNat : Int) := by
  rw [i64_and127, or128 _ (by omega) (by omega), UInt8.toNat_ofNat']; omega
theorem byte_toNat (n : Nat) (h : n < 256) : (n : Int) = ((UInt8.ofNat n).toNat : Int) := by
  rw [UInt8.toNat_ofNat']; omega
theorem hi7 (n : Nat) : (n : Int) / 2 ^ min 7 64 = ((n / 128 : Nat) : Int) := by
  simp

/-- The byte of n that stands j bytes from the end. -/
def pb (n j : Nat) : UInt8 := UInt8.ofNat (n / 256 ^ j)
/-- n in wd bytes, the greatest first; only the first k are written yet. -/
def putK (n wd k : Nat) : List UInt8 := (List.range wd).map fun j => if j < k then pb n (wd - 1 - j) else 0
def putL (n wd : Nat) : List UInt8 := (List.range wd).map fun j => pb n (wd - 1 - j)
theorem putK_length (n wd k : Nat) : (putK n wd k).length = wd := by simp [putK]
theorem putL_length (n wd : Nat) : (putL n wd).length = wd := by simp [putL]
theorem putK_zero (n wd : Nat) : putK n wd 0 = List.replicate wd 0 := by
  apply List.ext_getElem <;> simp [putK]
theorem putK_all (n wd : Nat) : putK n wd wd = putL n wd := by
  apply List.ext_getElem <;> simp [putK, putL]
  intro i h1 h2; omega
theorem putK_step (n wd k : Nat) : (putK n wd k).set k (pb n (wd - 1 - k)) = putK n wd (k + 1) := by
  apply List.ext_getElem
  · simp [putK]
  · intro i h1 h2
    simp only [putK, List.getElem_set, List.getElem_map, List.getElem_range]
    by_cases e : k = i
    · subst e; simp
    · by_cases e2 : i < k
      · have : i < k + 1 := by omega
        simp [e, e2, this]
      · have : ¬ i < k + 1 := by omega
        simp [e, e2, this]
theorem pow_le_48 (wd : Nat) (h : wd ≤ 6) : 256 ^ wd ≤ 281474976710656 := by
  have := Nat.pow_le_pow_right (n := 256) (by omega) h
  simpa using this
theorem pow_8 (wd : Nat) : (2 : Int) ^ (8 * wd) = ((256 ^ wd : Nat) : Int) := by
  rw [Int.pow_mul]; norm_cast
theorem put_byte (n j : Nat) : Value.int .u8 ((n : Int) / 2 ^ (8 * j) % 256) = bv (pb n j) := by
  unfold bv pb
  rw [pow_8, UInt8.toNat_ofNat']
  congr 1
theorem put_lim (n wd : Nat) (h2 : wd ≤ 6) (h3 : n < 256 ^ wd) : (n : Int) < wrap64 (2 ^ (8 * wd)) := by
  have hp := pow_le_48 wd h2
  rw [pow_8]
  generalize 256 ^ wd = c at *
  rw [IntWalk.wrap64_in _ ⟨by omega, by omega⟩]
  omega
theorem put_out (n wd : Nat) (h2 : wd ≤ 6) (h3 : ¬ n < 256 ^ wd) : wrap64 (2 ^ (8 * wd)) ≤ (n : Int) := by
  have hp := pow_le_48 wd h2
  rw [pow_8]
  generalize 256 ^ wd = c at *
  rw [IntWalk.wrap64_in _ ⟨by omega, by omega⟩]
  omega

/-- The decimal digit of n that stands j digits from the end. -/
def db (n j : Nat) : UInt8 := UInt8.ofNat (48 + n / 10 ^ j % 10)
/-- n in wd digits; those from place m on are written. -/
def digK (n wd m : Nat) : List UInt8 := (List.range wd).map fun j => if m ≤ j then db n (wd - 1 - j) else 0
def digL (n wd : Nat) : List UInt8 := (List.range wd).map fun j => db n (wd - 1 - j)
theorem digK_length (n wd m : Nat) : (digK n wd m).length = wd := by simp [digK]
theorem digL_length (n wd : Nat) : (digL n wd).length = wd := by simp [digL]
theorem digK_start (n wd : Nat) : digK n wd wd = List.replicate wd 0 := by
  apply List.ext_getElem <;> simp [digK]
  intro i h1 h2; omega
theorem digK_all (n wd : Nat) : digK n wd 0 = digL n wd := by
  apply List.ext_getElem <;> simp [digK, digL]
theorem digK_step (n wd j : Nat) : (digK n wd (j + 1)).set j (db n (wd - 1 - j)) = digK n wd j := by
  apply List.ext_getElem
  · simp [digK]
  · intro i h1 h2
    simp only [digK, List.getElem_set, List.getElem_map, List.getElem_range]
    by_cases e : j = i
    · subst e; simp
    · by_cases e2 : j < i
      · have h3 : j + 1 ≤ i := by omega
        have h4 : j ≤ i := by omega
        simp [e, h3, h4]
      · have h3 : ¬ j + 1 ≤ i := by omega
        have h4 : ¬ j ≤ i := by omega
        simp [e, h3, h4]
theorem dig_byte (n j : Nat) (x : Nat) (hx : x = n / 10 ^ j) : Value.int .u8 (48 + (x : Int) % 10) = bv (db n j) := by
  unfold bv db
  rw [UInt8.toNat_ofNat', ← hx]
  congr 1
  omega
theorem div10 (x : Nat) : (x : Int) / 10 = ((x / 10 : Nat) : Int) := by omega
theorem div_step (n k : Nat) : n / 10 ^ k / 10 = n / 10 ^ (k + 1) := by rw [Nat.div_div_eq_div_mul, Nat.pow_succ]

/-- The number that bytes tell, the greatest first. -/
def numL (l : List UInt8) : Nat := l.foldl (fun n c => n * 256 + c.toNat) 0
theorem numL_snoc (l : List UInt8) (c : UInt8) : numL (l ++ [c]) = numL l * 256 + c.toNat := by simp [numL, List.foldl_append]
theorem numL_lt : ∀ (k : Nat) (l : List UInt8), l.length = k → numL l < 256 ^ k
  | 0, l, h => by rw [List.eq_nil_of_length_eq_zero h]; simp [numL]
  | k + 1, l, h => by
    have hne : l ≠ [] := by intro e; subst e; simp at h
    rw [← List.dropLast_concat_getLast hne, numL_snoc]
    have := numL_lt k l.dropLast (by simp [h])
    have hc := (l.getLast hne).toNat_lt
    rw [Nat.pow_succ]
    omega
def win (l : List UInt8) (p k : Nat) : List UInt8 := (l.drop p).take k
theorem win_zero (l : List UInt8) (p : Nat) : win l p 0 = [] := by simp [win]
theorem win_length (l : List UInt8) (p k : Nat) (h : p + k ≤ l.length) : (win l p k).length = k := by simp [win]; omega
theorem win_succ (l : List UInt8) (p k : Nat) (h : p + k < l.length) : win l p (k + 1) = win l p k ++ [l[p + k]] := by
  unfold win
  rw [List.take_succ_eq_append_getElem (by simp; omega)]
  simp
theorem numL_win (l : List UInt8) (p k : Nat) (h : p + k < l.length) : numL (win l p (k + 1)) = numL (win l p k) * 256 + l[p + k].toNat := by
  rw [win_succ l p k h, numL_snoc]
theorem or_byte (n : Nat) (c : UInt8) (h : n < 36028797018963968) : bits .or .i64 ((n : Int) * 256) (c.toNat : Int) = ((n * 256 + c.toNat : Nat) : Int) := by
  have hc := c.toNat_lt
  rw [bits_join .i64 63 (by decide) wraps_i64 8 _ _ (by omega) (by omega) (by omega) (by omega) (by omega) (by omega)]
  omega

/-- What ReadVar tells of the bytes that are left: the number, the place behind it, the error. -/
def rv : Nat → List UInt8 → Nat → Nat → Nat → Nat × Nat × Nat
  | 0, _, _, _, _ => (0, 0, 4)
  | _ + 1, [], _, _, _ => (0, 0, 2)
  | f + 1, c :: t, p, i, acc =>
    if 127 < c.toNat then rv f t (p + 1) (i + 1) (acc + c.toNat % 128 * 128 ^ i)
    else if c.toNat = 0 ∧ 0 < i then (0, 0, 4) else (acc + c.toNat % 128 * 128 ^ i, p + 1, 0)

theorem rv_zero (l : List UInt8) (p i acc : Nat) : rv 0 l p i acc = (0, 0, 4) := rfl
theorem rv_nil (f p i acc : Nat) : rv (f + 1) [] p i acc = (0, 0, 2) := rfl
theorem rv_more (f : Nat) (l : List UInt8) (p i acc q : Nat) (h : q < l.length) (h1 : 127 < l[q].toNat) :
    rv (f + 1) (l.drop q) p i acc = rv f (l.drop (q + 1)) (p + 1) (i + 1) (acc + l[q].toNat % 128 * 128 ^ i) := by
  rw [List.drop_eq_getElem_cons h, rv, if_pos h1]
theorem rv_last0 (f : Nat) (l : List UInt8) (p i acc q : Nat) (h : q < l.length) (h1 : l[q].toNat = 0) (hi : 0 < i) :
    rv (f + 1) (l.drop q) p i acc = (0, 0, 4) := by
  rw [List.drop_eq_getElem_cons h, rv, if_neg (by omega), if_pos ⟨h1, hi⟩]
theorem rv_last (f : Nat) (l : List UInt8) (p i acc q : Nat) (h : q < l.length) (h1 : ¬ 127 < l[q].toNat) (h2 : ¬ (l[q].toNat = 0 ∧ 0 < i)) :
    rv (f + 1) (l.drop q) p i acc = (acc + l[q].toNat % 128 * 128 ^ i, p + 1, 0) := by
  rw [List.drop_eq_getElem_cons h, rv, if_neg h1, if_neg h2]
theorem rv_end (f : Nat) (l : List UInt8) (p i acc q : Nat) (h : q = l.length) : rv (f + 1) (l.drop q) p i acc = (0, 0, 2) := by
  rw [h, List.drop_length, rv]
def rvE (r : Nat × Nat × Nat) : Ending := .returned (.tuple #[.int .i64 (r.1 : Int), .int .i64 (r.2.1 : Int), .int .i64 (r.2.2 : Int)])

theorem pow_7 (k : Nat) : (2 : Int) ^ (7 * k) = ((128 ^ k : Nat) : Int) := by
  rw [Int.pow_mul]; norm_cast
theorem pow_le_56 (k : Nat) (h : k ≤ 8) : 128 ^ k ≤ 72057594037927936 := by
  have := Nat.pow_le_pow_right (n := 128) (by omega) h
  simpa using this
theorem rv_or (acc k : Nat) (c : UInt8) (hk : k ≤ 7) (hacc : acc < 128 ^ k) :
    bits .or .i64 (acc : Int) (wrap64 (wrap64 (bits .and .u8 (c.toNat : Int) 127) * 2 ^ (7 * k))) = ((acc + c.toNat % 128 * 128 ^ k : Nat) : Int) := by
  have hc := c.toNat_lt
  have h1 : bits .and .u8 (c.toNat : Int) 127 = ((c.toNat % 128 : Nat) : Int) := by
    rw [show (127 : Int) = ((127 : Nat) : Int) from rfl, u8_and_nat _ _ (by omega) (by omega), nat_mask7]
  have hpe : (2 : Int) ^ (7 * k) = ((128 ^ k : Nat) : Int) := pow_7 k
  rw [h1, IntWalk.wrap64_in ((c.toNat % 128 : Nat) : Int) ⟨by omega, by omega⟩, hpe]
  have hp : 128 ^ k ≤ 562949953421312 := by
    have := Nat.pow_le_pow_right (n := 128) (by omega) hk
    simpa using this
  have hm : c.toNat % 128 * 128 ^ k ≤ 127 * 562949953421312 := Nat.mul_le_mul (by omega) hp
  have hmod : c.toNat % 128 * 128 ^ k % 128 ^ k = 0 := Nat.mul_mod_left _ _
  have hdef : ((c.toNat % 128 : Nat) : Int) * ((128 ^ k : Nat) : Int) = ((c.toNat % 128 * 128 ^ k : Nat) : Int) := by norm_cast
  rw [hdef]
  have hcomm : ∀ x y : Int, bits .or .i64 x y = bits .or .i64 y x := fun x y => by simp only [bits, BitVec.or_comm]
  rw [hcomm]
  have hmodI : ((c.toNat % 128 * 128 ^ k : Nat) : Int) % 2 ^ (7 * k) = 0 := by
    rw [hpe]; norm_cast
  have haccI : (acc : Int) < 2 ^ (7 * k) := by rw [hpe]; norm_cast
  generalize c.toNat % 128 * 128 ^ k = X at *
  rw [IntWalk.wrap64_in _ ⟨by omega, by omega⟩]
  rw [bits_join .i64 63 (by decide) wraps_i64 (7 * k) _ _ (by omega) hmodI (by omega) (by omega) haccI (by omega)]
  omega
theorem rv_fin (acc k p : Nat) (c : UInt8) (hk : k ≤ 7) (hacc : acc < 128 ^ k) :
    Ending.returned (.tuple #[.int .i64 (bits .or .i64 (acc : Int) (wrap64 (wrap64 (bits .and .u8 (c.toNat : Int) 127) * 2 ^ (7 * k)))), .int .i64 ((p : Int) + (k : Int) + 1), .int .i64 0]) = rvE (acc + c.toNat % 128 * 128 ^ k, p + k + 1, 0) := by
  rw [rv_or acc k c hk hacc]
  rfl
theorem acc_lt (acc k m : Nat) (hm : m < 128) (hacc : acc < 128 ^ k) : acc + m * 128 ^ k < 128 ^ (k + 1) := by
  rw [Nat.pow_succ]
  have : m * 128 ^ k ≤ 127 * 128 ^ k := Nat.mul_le_mul_right _ (by omega)
  omega
end Go.Proofs.YtidlhajibjnkeaaGreatDoor
