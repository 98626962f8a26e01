import Derived.WalkKit
import Derived.Handy
import Derived.Lib.Hide
import Derived.WalkLawsBesides
import Derived.WalkSpells
import Derived.Laws.AppendOwnNone
import Derived.Deep.AppendLies
namespace Go.Proofs.YtegblhmcfemfgaaGreatDoor
open Go.RowKit
def bv (c : UInt8) : Value := .int .u8 (c.toNat : Int)
theorem bv_one (l : List UInt8) : ∀ u ∈ l.map bv, u.oneCell' = true := by
 intro u hu
 obtain ⟨_, _, rfl⟩ := List.mem_map.1 hu
 rfl
theorem hold {p : Prop} (h : Unit → p) : p := h ()
structure BT (P : Program) (T E : TypeId) : Prop where
 t : P.underlying T = some (.slice E)
 e : P.underlying E = some (.int .u8)
 info : (P.info? E).map (fun i => (i.zero, i.size, i.bytes)) = some (some (.int .u8 0), 1, 1)
def Own (E : TypeId) (w : World) (base : Nat) (v : Value) (l : List UInt8) : Prop := w.ownsRow base E 1 v l.length (l.map bv)
def Rd (w : World) (v : Value) (l : List UInt8) : Prop :=
 ∃ (a : Option Addr) (cap : Nat), v = .slice a l.length cap ∧ l.length ≤ cap ∧ cap ≤ maxLen ∧ (a = none → cap = 0) ∧
   (l ≠ [] → ∃ b off, a = some ⟨b, off, none⟩ ∧ ∀ i (h : i < l.length), w.cell? ⟨b, off + i, none⟩ = some (bv l[i]))
abbrev str (l : List UInt8) : Value := .string ⟨l.toArray⟩
theorem Rd.nil (w : World) : Rd w (.slice none 0 0) [] := ⟨none, 0, rfl, Nat.le_refl _, by decide, fun _ => rfl, fun h => absurd rfl h⟩
theorem Rd.below {B : Nat} {w w' : World} {v : Value} {l : List UInt8} (h : Rd w v l) (hb : Below B w w') (hB : w.heap.size ≤ B) : Rd w' v l := by
 obtain ⟨a, cap, hv, h1, h2, h3, h4⟩ := h
 refine ⟨a, cap, hv, h1, h2, h3, fun hl => ?_⟩
 obtain ⟨b, off, ha, hc⟩ := h4 hl
 refine ⟨b, off, ha, fun i hi => ?_⟩
 have := hc i hi
 rw [hb.cell (p := ⟨b, off + i, none⟩) (by have := World.block_lt_of_cell? w _ this; exact Nat.lt_of_lt_of_le this hB)]
 exact this
theorem Rd.drewN {w : World} {v : Value} {l : List UInt8} (h : Rd w v l) (q : Nat) : Rd (w.drewN q) v l := by
 obtain ⟨a, cap, hv, h1, h2, h3, h4⟩ := h
 refine ⟨a, cap, hv, h1, h2, h3, fun hl => ?_⟩
 obtain ⟨b, off, ha, hc⟩ := h4 hl
 exact ⟨b, off, ha, fun i hi => hc i hi⟩
theorem Below.drewsN {B : Nat} {a w : World} (h : Below B a w) (q : Nat) : Below B a (w.drewN q) := ⟨h.os, h.tape, h.output, h.size, h.block⟩
theorem Own.rd {E : TypeId} {w : World} {base : Nat} {v : Value} {l : List UInt8} (h : Own E w base v l) : Rd w v l := by
 rcases h.2 with ⟨rfl, hn⟩ | ⟨g, cap, cur, rfl, _, hg, h1, h2, h3, h4⟩
 · obtain rfl := List.eq_nil_of_length_eq_zero hn
   exact Rd.nil w
 · refine ⟨_, cap, rfl, h1, h2, fun h => (by cases h), fun _ => ⟨g, 0, rfl, fun i hi => ?_⟩⟩
   rw [Nat.zero_add, cell_of_row w g i cur E (0, 0) hg]
   have e : (l.map bv)[i]? = some (bv l[i]) := by simp [hi]
   rw [← h4, List.getElem?_take, if_pos (by omega)] at e
   simpa using e
theorem Own.nil (E : TypeId) (w : World) (base : Nat) : Own E w base (.slice none 0 0) [] := World.ownsRow_nil w base E 1
theorem Own.base {E : TypeId} {w : World} {base : Nat} {v : Value} {l : List UInt8} (h : Own E w base v l) : ∀ k, v.ownBlock = some k → base ≤ k ∧ k < w.heap.size := World.ownsRow.lt h
theorem Own.below {E : TypeId} {w w' : World} {base B : Nat} {v : Value} {l : List UInt8} (h : Own E w base v l) (hb : Below B w w') (hB : w.heap.size ≤ B) : Own E w' base v l := by
 refine ⟨h.1, ?_⟩
 rcases h.2 with hn | ⟨g, cap, cur, rfl, hb', hg, rest⟩
 · exact .inl hn
 · refine .inr ⟨g, cap, cur, rfl, hb', ?_, rest⟩
   rw [hb.block g (Nat.lt_of_lt_of_le (Array.getElem?_eq_some_iff.1 hg).1 hB)]
   exact hg
theorem grown_trans {a b c : World} {row : Option Nat} (h : a.grownBy b row) (k : b.grownBy c row) : a.grownBy c row :=
 ⟨k.os.trans h.os, k.tape.trans h.tape, k.output.trans h.output, Nat.le_trans h.size k.size, fun i hi hne => (k.block i (Nat.lt_of_lt_of_le hi h.size) hne).trans (h.block i hi hne)⟩
theorem Own.grows {E : TypeId} {w w' : World} {base B : Nat} {v : Value} {l : List UInt8} (h : Own E w base v l) (hg : w.grownBy w' v.ownBlock) (hB : B ≤ base) (hw : B ≤ w.heap.size) : Below B w w' :=
 (Below.refl _ _).grown hg hw (fun k hk => Nat.le_trans hB (h.base k hk).1)
theorem below_alloc (w : World) (o : Obj) : Below w.heap.size w (w.alloc o) := (Below.refl _ _).alloc (Nat.le_refl _) o
theorem Rd.one (E : TypeId) (w : World) (c : UInt8) (n : Int) (hn : n = (c.toNat : Int)) : Rd (w.alloc (.cells #[.int .u8 n] E)) (.slice (some ⟨w.heap.size, 0, none⟩) 1 1) [c] := by
 subst hn
 refine ⟨_, 1, rfl, by simp, by decide, (fun h => by cases h), fun _ => ⟨w.heap.size, 0, rfl, fun i hi => ?_⟩⟩
 simp at hi
 subst hi
 simp
 rfl
theorem Own.alloc {E : TypeId} {w : World} {base : Nat} {v : Value} {l : List UInt8} (h : Own E w base v l) (o : Obj) : Own E (w.alloc o) base v l := World.ownsRow.alloc h o
section laws
variable {P : Program} {T E : TypeId} {ops : Array Oper} {rest : List Oper} {o : Oper} {a : Act} {Q : Exit → Act → World → Prop} {w : World}
theorem BT.append1 (B : BT P T E) (hgd : o.guard = none) (s x : Operand) (ho : o.op = .call { callee := .builtin .append, args := #[s, x], argTypes := #[T, T] })
 (base : Nat) (v : Value) (l : List UInt8) (c : UInt8) (n : Int) (hn : n = (c.toNat : Int)) (hown : Own E w base v l) (hs : a.eval s = v)
 (hx : a.eval x = .slice (some ⟨w.heap.size, 0, none⟩) 1 1) (hlen : l.length < 140737488355328) (hbase : base ≤ w.heap.size)
 (h : ∀ v' w', Own E w' base v' (l ++ [c]) → w.grownBy w' v.ownBlock → wpList P ops Q rest (a.put o.dst v') w') :
 wpList P ops Q (o :: rest) a (w.alloc (.cells #[.int .u8 n] E)) := by
 obtain ⟨i, hi, h1, h2, h3⟩ := info_parts B.info
 subst hn
 refine wpList_append_own _ hgd s x T ho base E i (.int .u8 0) 1 1 B.t hi h1 h2 h3 rfl (by decide) v l.length (l.map bv) hs (World.ownsRow.alloc hown _) ⟨w.heap.size, 0, none⟩ 1 1 [bv c] hx rfl ?_ ?_ (by unfold maxLen; omega) (by omega) (by simp; omega) ?_
 · intro j u hj
   match j, hj with
   | 0, hj => simp at hj; subst hj; simp [Addr.add]; rfl
 · intro u hu; simp at hu; subst hu; rfl
 · intro v' w' h1 h2 _
   refine h v' w' ?_ (grown_trans (World.grownBy_alloc w _ _) h2)
   unfold Own
   simpa using h1
theorem BT.appendS (B : BT P T E) (hgd : o.guard = none) (s x : Operand) (ho : o.op = .call { callee := .builtin .append, args := #[s, x], argTypes := #[T, T] })
 (base : Nat) (v y : Value) (l m : List UInt8) (hown : Own E w base v l) (hy : Rd w y m) (hs : a.eval s = v) (hx : a.eval x = y) (hlen : l.length + m.length ≤ 140737488355328) (hbase : base ≤ w.heap.size)
 (h : ∀ v' w', Own E w' base v' (l ++ m) → w.grownBy w' v.ownBlock → wpList P ops Q rest (a.put o.dst v') w') :
 wpList P ops Q (o :: rest) a w := by
 obtain ⟨i, hi, h1, h2, h3⟩ := info_parts B.info
 obtain ⟨ad, cap, rfl, hc1, hc2, hc3, hc4⟩ := hy
 cases ad with
 | none =>
  obtain rfl := hc3 rfl
  have hm : m.length = 0 := by omega
  obtain rfl := List.eq_nil_of_length_eq_zero hm
  exact wpList_append_own_none hgd s x T ho base E i 1 B.t hi v l.length (l.map bv) hs hown hx (h v w (by rw [List.append_nil]; exact hown) ⟨rfl, rfl, rfl, Nat.le_refl _, fun _ _ _ => rfl⟩)
 | some ad =>
  refine wpList_append_own _ hgd s x T ho base E i (.int .u8 0) 1 1 B.t hi h1 h2 h3 rfl (by decide) v l.length (l.map bv) hs hown ad m.length cap (m.map bv) hx (by simp) ?_ (bv_one m) (by unfold maxLen; omega) (by omega) hbase ?_
  · intro j u hj
    have hjm : j < m.length := by
     have := (List.getElem?_eq_some_iff.1 hj).1
     simpa using this
    obtain ⟨b, off, hab, hcell⟩ := hc4 (by intro e; subst e; simp at hjm)
    simp only [Option.some.injEq] at hab
    subst hab
    rw [Addr.add_lit, hcell j hjm]
    simpa [hjm] using hj
  · intro v' w' h1 h2 _
    refine h v' w' ?_ h2
    unfold Own
    simpa using h1
theorem BT.stepAppend {K : Act → World → Prop} {N : Prop} (B : BT P T E) (hgd : o.guard = none) (s x : Operand) (ho : o.op = .call { callee := .builtin .append, args := #[s, x], argTypes := #[T, T] })
 (base : Nat) (v : Value) (l m : List UInt8) (hs : a.eval s = v) (hown : Own E w base v l) (hy : Rd w (a.eval x) m) (hlen : l.length + m.length ≤ 140737488355328) (hbase : base ≤ w.heap.size)
 (h : ∀ v' w', Own E w' base v' (l ++ m) → w.grownBy w' v.ownBlock → K (a.put o.dst v') w') :
 if Region.wanted o (yielded ops a.tmps) = true then Oper.wp P o a w K Q else N := by
 have hw : Region.wanted o (yielded ops a.tmps) = true := by simp [Region.wanted, hgd]
 rw [if_pos hw]
 obtain ⟨i, hi, h1, h2, h3⟩ := info_parts B.info
 obtain ⟨ad, cap, hx, hc1, hc2, hc3, hc4⟩ := hy
 cases ad with
 | none =>
  obtain rfl := hc3 rfl
  have hm : m.length = 0 := by omega
  obtain rfl := List.eq_nil_of_length_eq_zero hm
  have hrun := run_append_owned_none (P := P) (w := w) base T o.type E i 1 B.t hi v l.length (l.map bv) hown
  unfold Oper.wp
  simp only [List.length_nil] at hx
  simp [execOp, ho, resolve, invoke, builtin, hs, hx, hrun, Result.andThen]
  exact h v w (by rw [List.append_nil]; exact hown) ⟨rfl, rfl, rfl, Nat.le_refl _, fun _ _ _ => rfl⟩
 | some ad =>
  refine wp_append_own w s x T ho base E i (.int .u8 0) 1 1 B.t hi h1 h2 h3 rfl (by decide) v l.length (l.map bv) hs hown ad m.length cap (m.map bv) hx (by simp) ?_ (bv_one m) (by unfold maxLen; omega) (by omega) hbase ?_
  · intro j u hj
    have hjm : j < m.length := by
     have := (List.getElem?_eq_some_iff.1 hj).1
     simpa using this
    obtain ⟨b, off, hab, hcell⟩ := hc4 (by intro e; subst e; simp at hjm)
    simp only [Option.some.injEq] at hab
    subst hab
    rw [Addr.add_lit, hcell j hjm]
    simpa [hjm] using hj
  · intro v' w' h1 h2 _
    refine h v' w' ?_ h2
    unfold Own
    simpa using h1
theorem BT.make0 (B : BT P T E) (hgd : o.guard = none) (lo co : Operand) (ho : o.op = Op.makeSlice T lo co) (n : Nat) (N : Int) (hN : N = (n : Int))
 (hl : a.eval lo = .int .i64 0) (hc : a.eval co = .int .i64 N) (hn : n ≤ 281474976710656)
 (h : ∀ w', Own E w' w.heap.size (.slice (some ⟨w.heap.size, 0, none⟩) 0 n) [] → w.grownBy w' none → wpList P ops Q rest (a.put o.dst (.slice (some ⟨w.heap.size, 0, none⟩) 0 n)) w') :
 wpList P ops Q (o :: rest) a w := by
 obtain ⟨i, hi, h1, h2, h3⟩ := info_parts B.info
 exact wpList_make_own w hgd lo co T ho w.heap.size E i (.int .u8 0) 1 B.t hi h1 h2 .i64 .i64 N n hl hc hN (by rw [h3]; omega) (by unfold maxLen; omega) (Nat.le_refl _) h
theorem BT.toString (B : BT P T E) {S : TypeId} (hS : P.underlying S = some .string) {v : Value} {l : List UInt8} (h : Rd w v l) : (convert T S v).run P w = .ok (str l) w := by
 obtain ⟨ad, cap, rfl, h1, h2, h3, h4⟩ := h
 rw [run_convert_bytes_string w T S E ad _ _ B.t B.e hS]
 cases ad with
 | none =>
  have hl : l.length = 0 := by have := h3 rfl; omega
  obtain rfl := List.eq_nil_of_length_eq_zero hl
  simp [Conv.bytesToString, str]
  rfl
 | some ad =>
  have hc : (loadCells ad l.length).run P w = .ok ((l.map fun c => (c.toNat : Int)).map (Value.int .u8)).toArray w := by
   have := run_loadCells_list (P := P) w ad (l.map bv) (fun j u hj => by
    have hjm : j < l.length := by
     have := (List.getElem?_eq_some_iff.1 hj).1
     simpa using this
    obtain ⟨b, off, hab, hcell⟩ := h4 (by intro e; subst e; simp at hjm)
    simp only [Option.some.injEq] at hab
    subst hab
    rw [Addr.add_lit, hcell j hjm]
    simpa [hjm] using hj)
   simp only [List.length_map] at this
   rw [this]
   congr 2
   simp [bv, Function.comp_def]
  rw [run_bytesToString w ad _ _ _ hc]
  congr 1
  unfold str
  rw [foldl_push_bytes]
  congr 1
  simp [Function.comp_def]
end laws
theorem wraps_i64 (n : Int) (h₀ : 0 ≤ n) (h₁ : n < 2 ^ 63) : IntKind.i64.wrap n = n := by rw [IntKind.wrap_i64]; omega
end Go.Proofs.YtegblhmcfemfgaaGreatDoor
