import Derived.Test.YtcgjiddiegepkaaAppN
import Derived.Laws.AppendOwnNone
import Derived.Laws.OwnMore
import Derived.Test.YtcgjiddiegepkaaV11StayM
import Derived.Deep.QuietTactic
import Derived.BigQuiet
import Derived.Test.YtcgjiddiegepkaaV11StayN
/- Rows of structs: parts of them, an append of rows in a region that draws, a cell stored. -/
namespace Go.Proofs.Ytcgjiddiegepkaa
open Go.RowKit

theorem flat_take (sz : Nat) : ∀ (L : List (List Value)) (_ : ∀ r ∈ L, r.length = sz) (k : Nat), L.flatten.take (k * sz) = (L.take k).flatten
  | [], _, k => by simp
  | r :: t, _, 0 => by simp
  | r :: t, hr, k + 1 => by
    have e := hr r (by simp)
    have ih := flat_take sz t (fun r hr' => hr r (by simp [hr'])) k
    rw [List.flatten_cons, List.take_succ_cons, List.flatten_cons, List.take_append, List.take_of_length_le (by rw [e, Nat.succ_mul]; omega), e, show (k + 1) * sz - sz = k * sz by rw [Nat.succ_mul]; omega, ih]
theorem flat_drop (sz : Nat) : ∀ (L : List (List Value)) (_ : ∀ r ∈ L, r.length = sz) (k : Nat), L.flatten.drop (k * sz) = (L.drop k).flatten
  | [], _, k => by simp
  | r :: t, _, 0 => by simp
  | r :: t, hr, k + 1 => by
    have e := hr r (by simp)
    have ih := flat_drop sz t (fun r hr' => hr r (by simp [hr'])) k
    rw [List.flatten_cons, List.drop_succ_cons, List.drop_append, List.drop_of_length_le (by rw [e, Nat.succ_mul]; omega), e, show (k + 1) * sz - sz = k * sz by rw [Nat.succ_mul]; omega, ih, List.nil_append]
theorem flat_set (sz : Nat) : ∀ (L : List (List Value)) (_ : ∀ r ∈ L, r.length = sz) (p : Nat) (hp : p < L.length) (j : Nat) (_ : j < sz) (u : Value), L.flatten.set (p * sz + j) u = (L.set p (L[p].set j u)).flatten
  | r :: t, hr, 0, _, j, hj, u => by
    have e := hr r (by simp)
    rw [Nat.zero_mul, Nat.zero_add, List.flatten_cons, List.set_append_left _ _ (by omega)]
    rfl
  | r :: t, hr, p + 1, hp, j, hj, u => by
    have e := hr r (by simp)
    have ih := flat_set sz t (fun r hr' => hr r (by simp [hr'])) p (by simpa using hp) j hj u
    rw [List.flatten_cons, List.set_append_right _ _ (by rw [e, Nat.succ_mul]; omega), e, show (p + 1) * sz + j - sz = p * sz + j by rw [Nat.succ_mul]; omega, ih]
    rfl
/-- The first of a row. -/
theorem row_takeF {W : World} {base g n cap sz : Nat} {e : TypeId} {xs : List Value} (h : W.ownsRow base e sz (.slice (some ⟨g, 0, none⟩) n cap) n xs) {k : Nat} (hk : k ≤ n) : W.ownsRow base e sz (.slice (some ⟨g, 0, none⟩) k cap) k (xs.take (k * sz)) := by
  have hl := h.1
  have hm : k * sz ≤ n * sz := Nat.mul_le_mul_right sz hk
  rcases h.2 with ⟨h', _⟩ | ⟨g', cap', cur, h', hb, hg, h1, h2, h3, h4⟩
  · simp at h'
  · simp only [Value.slice.injEq, Option.some.injEq, Addr.mk.injEq, and_true] at h'
    obtain ⟨rfl, _, rfl⟩ := h'
    refine ⟨by simp; omega, .inr ⟨g, cap, cur, rfl, hb, hg, by omega, h2, h3, ?_⟩⟩
    rw [← h4, List.take_take, Nat.min_eq_left hm]
theorem row_cap {W : World} {base g n cap sz : Nat} {e : TypeId} {k : Nat} {xs : List Value} (h : W.ownsRow base e sz (.slice (some ⟨g, 0, none⟩) n cap) k xs) : n = k ∧ n ≤ cap ∧ cap ≤ 9223372036854775807 := by
  rcases h.2 with ⟨h', _⟩ | ⟨g', cap', cur, h', hb, hg, h1, h2, h3, h4⟩
  · simp at h'
  · simp only [Value.slice.injEq, Option.some.injEq, Addr.mk.injEq, and_true] at h'
    obtain ⟨rfl, rfl, rfl⟩ := h'
    simp only [maxLen] at h2
    exact ⟨rfl, h1, by omega⟩
theorem RdF.drop {sz : Nat} {w : World} {g off n c : Nat} {L : List (List Value)} (h : RdF sz w (.slice (some ⟨g, off, none⟩) n c) L) (k : Nat) (hk : k ≤ L.length) : RdF sz w (.slice (some ⟨g, off + k * sz, none⟩) (n - k) (c - k)) (L.drop k) := by
  obtain ⟨a', c', he, h1, h2, h3, h4⟩ := h
  simp only [Value.slice.injEq] at he
  obtain ⟨ha, rfl, rfl⟩ := he
  refine ⟨_, c - k, by rw [List.length_drop], by rw [List.length_drop]; omega, by rw [List.length_drop]; omega, by omega, fun hne => ⟨g, off + k * sz, rfl, fun i hi j u hu => ?_⟩⟩
  obtain ⟨b, o, hb, hc⟩ := h4 (by intro e; apply hne; simp [e])
  rw [← ha] at hb
  simp only [Option.some.injEq, Addr.mk.injEq, and_true] at hb
  obtain ⟨rfl, rfl⟩ := hb
  have hi' : k + i < L.length := by rw [List.length_drop] at hi; omega
  have := hc (k + i) hi' j u (by rw [List.getElem_drop] at hu; exact hu)
  rw [show off + k * sz + i * sz + j = off + (k + i) * sz + j by rw [Nat.add_mul]; omega]
  exact this
theorem RdF.empty {sz : Nat} {w : World} {a : Addr} {c : Nat} (hc : c ≤ 9223372036854775807) : RdF sz w (.slice (some a) 0 c) [] := ⟨_, c, rfl, by simp, by simp, hc, fun h => absurd rfl h⟩
/-- What stands from p on in a row of the call's own, wherever the slice is said to lie. -/
theorem rdf_behind {W : World} {base g cap sz p : Nat} {e : TypeId} {L : List (List Value)} (hr : ∀ r ∈ L, r.length = sz) (h : W.ownsRow base e sz (.slice (some ⟨g, 0, none⟩) L.length cap) L.length L.flatten) (hp : p ≤ L.length)
    {A : Option Addr} (hA : (if cap = p then (some ⟨g, 0, none⟩ : Option Addr) else some ⟨g, p * sz, none⟩) = A) : RdF sz W (.slice A (L.length - p) (cap - p)) (L.drop p) := by
  obtain ⟨_, h1, h2⟩ := row_cap h
  by_cases hc : cap = p
  · rw [if_pos hc] at hA
    have e1 : L.length - p = 0 := by omega
    rw [← hA, e1, List.drop_eq_nil_of_le (by omega)]
    exact RdF.empty (by omega)
  · rw [if_neg hc] at hA
    rw [← hA]
    have := (RdF.of_row hr h).drop p hp
    simpa using this
/-- An append of rows to a row of the call's own, in a region that draws. -/
theorem step_appendF {P : Program} {w : World} {ops : Array Oper} {o : Oper} {a : Act} {K : Act → World → Prop} {Q : Exit → Act → World → Prop} {N : Prop} (hgd : o.guard = none) (s x : Operand) (t : TypeId)
    (ho : o.op = .call { callee := .builtin .append, args := #[s, x], argTypes := #[t, t] }) (base : Nat) (e : TypeId) (i : TypeInfo) (z : Value) (size bytes : Nat) (ht : P.underlying t = some (.slice e)) (hi : P.info? e = some i) (hz : i.zero = some z)
    (hsize : i.size = size) (hby : i.bytes = bytes) (hzs : z.cells.size = size) (hsz : 0 < size)
    (v : Value) (n : Nat) (xs : List Value) (hs : a.eval s = v) (hown : w.ownsRow base e size v n xs)
    (y : Value) (L : List (List Value)) (hL : ∀ r ∈ L, r.length = size) (hone : ∀ u ∈ L.flatten, u.oneCell' = true) (hx : a.eval x = y) (hy : RdF size w y L) (hnil : ∀ c, y = .slice none 0 c → c = 0)
    (h63 : n + L.length ≤ maxLen) (hbytes : (n + L.length) * bytes ≤ 140737488355328) (hbase : base ≤ w.heap.size)
    (hK : ∀ v' w', w'.ownsRow base e size v' (n + L.length) (xs ++ L.flatten) → w.grownBy w' v.ownBlock → K (a.put o.dst v') w') :
    if Region.wanted o (yielded ops a.tmps) = true then Oper.wp P o a w K Q else N := by
  have hw : Region.wanted o (yielded ops a.tmps) = true := by simp [Region.wanted, hgd]
  rw [if_pos hw]
  obtain ⟨ad, cap, rfl, h1, h2, h3, h4⟩ := hy
  by_cases hne : L = []
  · subst hne
    cases ad with
    | none =>
      obtain rfl := hnil cap rfl
      have hrun := run_append_owned_none (P := P) (w := w) base t o.type e i size ht hi v n xs hown
      unfold Oper.wp
      simp only [List.length_nil] at hx
      simp [execOp, ho, resolve, invoke, builtin, hs, hx, hrun, Result.andThen]
      exact hK v w (by simpa using hown) ⟨rfl, rfl, rfl, Nat.le_refl _, fun _ _ _ => rfl⟩
    | some ad =>
      exact wp_append_own w s x t ho base e i z size bytes ht hi hz hsize hby hzs hsz v n xs hs hown ad 0 cap [] hx (by simp) (by simp) (by simp) h63 hbytes hbase (fun v' w' g1 g2 _ => hK v' w' (by simpa using g1) g2)
  · obtain ⟨b, off, rfl, hc⟩ := h4 hne
    refine wp_append_own w s x t ho base e i z size bytes ht hi hz hsize hby hzs hsz v n xs hs hown ⟨b, off, none⟩ L.length cap L.flatten hx (flat_len size L hL) ?_ hone h63 hbytes hbase (fun v' w' g1 g2 _ => hK v' w' g1 g2)
    intro j u hj
    have hjl : j < L.length * size := by
      have := (List.getElem?_eq_some_iff.1 hj).1
      rwa [flat_len size L hL] at this
    have hq : j / size < L.length := Nat.div_lt_of_lt_mul (by rwa [Nat.mul_comm] at hjl)
    have hr : j % size < size := Nat.mod_lt _ hsz
    have ej : j = j / size * size + j % size := by rw [Nat.mul_comm]; exact (Nat.div_add_mod j size).symm
    have hf := flat_at size L hL (j / size) hq (j % size) hr
    rw [← ej, hj] at hf
    have := hc (j / size) hq (j % size) u hf.symm
    rw [Addr.add_lit]
    rw [show off + j = off + j / size * size + j % size by rw [Nat.add_assoc, ← ej]]
    exact this
/-- What an append of rows to a row of the call's own comes to. -/
theorem run_append_rows {P : Program} {w : World} (t ty : TypeId) (base : Nat) (e : TypeId) (i : TypeInfo) (z : Value) (size bytes : Nat) (ht : P.underlying t = some (.slice e)) (hi : P.info? e = some i) (hz : i.zero = some z)
    (hsize : i.size = size) (hby : i.bytes = bytes) (hzs : z.cells.size = size) (hsz : 0 < size) (g cap n : Nat) (xs : List Value) (hown : w.ownsRow base e size (.slice (some ⟨g, 0, none⟩) n cap) n xs)
    (y : Value) (L : List (List Value)) (hL : ∀ r ∈ L, r.length = size) (hone : ∀ u ∈ L.flatten, u.oneCell' = true) (hy : RdF size w y L) (hnil : ∀ c, y = .slice none 0 c → c = 0)
    (h63 : n + L.length ≤ maxLen) (hbytes : (n + L.length) * bytes ≤ 140737488355328) (hbase : base ≤ w.heap.size) :
    ∃ g' cap' w', (Builtin.append_ #[t, t] ty #[.slice (some ⟨g, 0, none⟩) n cap, y]).run P w = .ok (.slice (some ⟨g', 0, none⟩) (n + L.length) cap') w' ∧ w'.ownsRow base e size (.slice (some ⟨g', 0, none⟩) (n + L.length) cap') (n + L.length) (xs ++ L.flatten) ∧ w.grownBy w' (some g) := by
  obtain ⟨ad, c, rfl, h1, h2, h3, h4⟩ := hy
  by_cases hne : L = []
  · subst hne
    cases ad with
    | none =>
      obtain rfl := hnil c rfl
      exact ⟨g, cap, w, run_append_owned_none (P := P) (w := w) base t ty e i size ht hi _ n xs hown, by simpa using hown, rfl, rfl, rfl, Nat.le_refl _, fun _ _ _ => rfl⟩
    | some ad =>
      subst hsize
      rcases hown.2 with ⟨h', _⟩ | ⟨g', cap', cur, h', hbg, hgb, hnc, hcm, hcs, htake⟩
      · simp at h'
      · simp only [Value.slice.injEq, Option.some.injEq, Addr.mk.injEq, and_true] at h'
        obtain ⟨rfl, _, rfl⟩ := h'
        have hr := run_append_room (P := P) w t ty e i ht hi g n cap cur hgb ad 0 c [] (by simp) (by simp) (by simp) (by omega) (by rw [hcs]; simpa using Nat.mul_le_mul_right _ hnc)
        refine ⟨g, cap, _, hr, ⟨by simpa using hown.1, .inr ⟨g, cap, _, rfl, hbg, setRow_heap w g cur _ e _ hgb, hnc, hcm, ?_, ?_⟩⟩, ⟨rfl, rfl, rfl, by simp, fun k _ hk => setRow_other w g k _ (fun e => hk (by rw [e]))⟩⟩
        · have hle : n * i.size ≤ cur.size := by rw [hcs]; exact Nat.mul_le_mul_right _ hnc
          simp only [List.size_toArray, List.length_append, List.length_take, List.length_drop, Array.length_toList, List.append_nil, List.length_nil, Nat.add_zero]
          have := hown.1
          omega
        · rw [htake, List.flatten_nil, List.append_nil]
          have : n * i.size = xs.length := hown.1.symm
          simp [this]
  · obtain ⟨b, off, rfl, hc⟩ := h4 hne
    obtain ⟨v', w', q1, q2, q3, _⟩ := run_append_own (P := P) w base t ty e i z size bytes ht hi hz hsize hby hzs hsz _ n xs hown ⟨b, off, none⟩ L.length c L.flatten (flat_len size L hL) (fun j u hj => by
      have hjl : j < L.length * size := by
        have := (List.getElem?_eq_some_iff.1 hj).1
        rwa [flat_len size L hL] at this
      have hq : j / size < L.length := Nat.div_lt_of_lt_mul (by rwa [Nat.mul_comm] at hjl)
      have hr : j % size < size := Nat.mod_lt _ hsz
      have ej : j = j / size * size + j % size := by rw [Nat.mul_comm]; exact (Nat.div_add_mod j size).symm
      have hf := flat_at size L hL (j / size) hq (j % size) hr
      rw [← ej, hj] at hf
      have := hc (j / size) hq (j % size) u hf.symm
      rw [Addr.add_lit]
      rw [show off + j = off + j / size * size + j % size by rw [Nat.add_assoc, ← ej]]
      exact this) hone h63 hbytes hbase
    have hpos : 0 < L.length := List.length_pos_iff.2 hne
    rcases q2.2 with ⟨_, h0⟩ | ⟨g', c', _, h2', _⟩
    · omega
    · subst h2'
      exact ⟨g', c', w', q1, q2, q3⟩
/-- The same at a step of a region that draws, and at one of a list. -/
theorem step_appendG {P : Program} {w : World} {ops : Array Oper} {o : Oper} {a : Act} {K : Act → World → Prop} {Q : Exit → Act → World → Prop} {N : Prop} (hgd : o.guard = none) (s x : Operand) (t : TypeId)
    (ho : o.op = .call { callee := .builtin .append, args := #[s, x], argTypes := #[t, t] }) (base : Nat) (e : TypeId) (i : TypeInfo) (z : Value) (size bytes : Nat) (ht : P.underlying t = some (.slice e)) (hi : P.info? e = some i) (hz : i.zero = some z)
    (hsize : i.size = size) (hby : i.bytes = bytes) (hzs : z.cells.size = size) (hsz : 0 < size) (g cap n : Nat) (xs : List Value) (hs : a.eval s = .slice (some ⟨g, 0, none⟩) n cap) (hown : w.ownsRow base e size (.slice (some ⟨g, 0, none⟩) n cap) n xs)
    (y : Value) (L : List (List Value)) (hL : ∀ r ∈ L, r.length = size) (hone : ∀ u ∈ L.flatten, u.oneCell' = true) (hx : a.eval x = y) (hy : RdF size w y L) (hnil : ∀ c, y = .slice none 0 c → c = 0)
    (h63 : n + L.length ≤ maxLen) (hbytes : (n + L.length) * bytes ≤ 140737488355328) (hbase : base ≤ w.heap.size)
    (hK : ∀ g' cap' w', w'.ownsRow base e size (.slice (some ⟨g', 0, none⟩) (n + L.length) cap') (n + L.length) (xs ++ L.flatten) → w.grownBy w' (some g) → K (a.put o.dst (.slice (some ⟨g', 0, none⟩) (n + L.length) cap')) w') :
    if Region.wanted o (yielded ops a.tmps) = true then Oper.wp P o a w K Q else N := by
  have hw : Region.wanted o (yielded ops a.tmps) = true := by simp [Region.wanted, hgd]
  rw [if_pos hw]
  obtain ⟨g', cap', w', hrun, r1, r2⟩ := run_append_rows (P := P) (w := w) t o.type base e i z size bytes ht hi hz hsize hby hzs hsz g cap n xs hown y L hL hone hy hnil h63 hbytes hbase
  unfold Oper.wp
  simp [execOp, ho, resolve, invoke, builtin, hs, hx, hrun, Result.andThen]
  exact hK g' cap' w' r1 r2
theorem wpList_appendG {P : Program} {w : World} {ops : Array Oper} {rest : List Oper} {o : Oper} {a : Act} {Q : Exit → Act → World → Prop} (hgd : o.guard = none) (s x : Operand) (t : TypeId)
    (ho : o.op = .call { callee := .builtin .append, args := #[s, x], argTypes := #[t, t] }) (base : Nat) (e : TypeId) (i : TypeInfo) (z : Value) (size bytes : Nat) (ht : P.underlying t = some (.slice e)) (hi : P.info? e = some i) (hz : i.zero = some z)
    (hsize : i.size = size) (hby : i.bytes = bytes) (hzs : z.cells.size = size) (hsz : 0 < size) (g cap n : Nat) (xs : List Value) (hs : a.eval s = .slice (some ⟨g, 0, none⟩) n cap) (hown : w.ownsRow base e size (.slice (some ⟨g, 0, none⟩) n cap) n xs)
    (y : Value) (L : List (List Value)) (hL : ∀ r ∈ L, r.length = size) (hone : ∀ u ∈ L.flatten, u.oneCell' = true) (hx : a.eval x = y) (hy : RdF size w y L) (hnil : ∀ c, y = .slice none 0 c → c = 0)
    (h63 : n + L.length ≤ maxLen) (hbytes : (n + L.length) * bytes ≤ 140737488355328) (hbase : base ≤ w.heap.size)
    (h : ∀ g' cap' w', w'.ownsRow base e size (.slice (some ⟨g', 0, none⟩) (n + L.length) cap') (n + L.length) (xs ++ L.flatten) → w.grownBy w' (some g) → wpList P ops Q rest (a.put o.dst (.slice (some ⟨g', 0, none⟩) (n + L.length) cap')) w') : wpList P ops Q (o :: rest) a w := by
  refine wpList_plain hgd fun K hK => ?_
  obtain ⟨g', cap', w', hrun, r1, r2⟩ := run_append_rows (P := P) (w := w) t o.type base e i z size bytes ht hi hz hsize hby hzs hsz g cap n xs hown y L hL hone hy hnil h63 hbytes hbase
  unfold Oper.wp
  simp [execOp, ho, resolve, invoke, builtin, hs, hx, hrun, Result.andThen]
  exact hK _ _ (h g' cap' w' r1 r2)
/-- A row's cell may be written; what it is then. -/
theorem row_free {W : World} {base g n cap sz : Nat} {e : TypeId} {k : Nat} {xs : List Value} (h : W.ownsRow base e sz (.slice (some ⟨g, 0, none⟩) n cap) k xs) (j : Nat) : W.frozen? ⟨g, j, none⟩ = false := by
  rcases h.2 with ⟨h', _⟩ | ⟨g', cap', cur, h', hb, hg, _⟩
  · simp at h'
  · simp only [Value.slice.injEq, Option.some.injEq, Addr.mk.injEq, and_true] at h'
    obtain ⟨rfl, _, rfl⟩ := h'
    exact frozen_of_row W g j cur _ hg
end Go.Proofs.Ytcgjiddiegepkaa

/- hblref11's Store as it lies: rows of keys, each with its versions. -/
namespace Go.Proofs.Ytcgjiddiegepkaa
open Go.RowKit

/-- The block that a slice lies in. -/
def sBlk : Value → Option Nat
  | .slice (some a) _ _ => some a.block
  | _ => none
theorem own_sBlk {v : Value} {j : Nat} (h : v.ownBlock = some j) : sBlk v = some j := by
  cases v <;> simp [Value.ownBlock, sBlk] at h ⊢
  next a n c =>
    cases a <;> simp_all
theorem RdF.frm {F : Nat → Prop} {sz : Nat} {w w' : World} {v : Value} {L : List (List Value)} (h : RdF sz w v L) (hf : Frm F w w') (hn : ∀ j, sBlk v = some j → ¬ F j) : RdF sz w' v L := by
  obtain ⟨a, cap, hv, h1, h2, h3, h4⟩ := h
  refine ⟨a, cap, hv, h1, h2, h3, fun hl => ?_⟩
  obtain ⟨b, off, ha, hc⟩ := h4 hl
  refine ⟨b, off, ha, fun i hi j u hu => ?_⟩
  have h5 := hc i hi j u hu
  have hlt := World.block_lt_of_cell? w _ h5
  have hb : ¬ F b := hn b (by rw [hv, ha]; rfl)
  rw [← h5]
  have e := hf.block b hlt hb
  simp only [World.cell?, e]
/-- A row: its key, the slice of its versions, they. -/
abbrev RRow := List UInt8 × Value × List VerVS
def cellsR (r : RRow) : List Value := [str r.1, r.2.1]
theorem cellsR_len (l : List RRow) : ∀ r ∈ l.map cellsR, r.length = 2 := by
  intro r hr; obtain ⟨p, _, rfl⟩ := List.mem_map.1 hr; rfl
def chR (R : List RRow) : ChC := R.map (fun r => (r.1, r.2.2))
theorem chR_len (R : List RRow) : (chR R).length = R.length := by simp [chR]
/-- A store as it lies: its box, its rows in a row of their own, each chain in blocks of other kinds. -/
structure RS (W : World) (B b : Nat) (vo : Value) (R : List RRow) (low : Int) : Prop where
  box : W.heap[b]? = some (.cells #[vo, .int .i64 low] 69 (0, 0))
  row : W.ownsRow B 118 2 vo R.length (R.map cellsR).flatten
  ch : ∀ r ∈ R, RdVS W r.2.1 r.2.2 ∧ (∀ c, r.2.1 = .slice none 0 c → c = 0) ∧ ∀ j, sBlk r.2.1 = some j → B ≤ j ∧ ∃ cs z, W.heap[j]? = some (.cells cs 93 z)
  rs : RisB (chR R)
  lt : B ≤ b
variable {W : World} {B b : Nat} {vo : Value} {R : List RRow} {low : Int}
theorem RS.blt (h : RS W B b vo R low) : b < W.heap.size := (Array.getElem?_eq_some_iff.1 h.box).1
theorem RS.cells (h : RS W B b vo R low) : W.cell? ⟨b, 0, none⟩ = some vo ∧ W.cell? ⟨b, 1, none⟩ = some (.int .i64 low) ∧ W.frozen? ⟨b, 0, none⟩ = false ∧ W.frozen? ⟨b, 1, none⟩ = false := by
  have hb := h.box
  exact ⟨by simp [World.cell?, hb], by simp [World.cell?, hb], frozen_of_row W b 0 _ _ hb, frozen_of_row W b 1 _ _ hb⟩
/-- The rows' block is not the box. -/
theorem RS.ne (h : RS W B b vo R low) : vo.ownBlock ≠ some b := by
  intro e
  rcases h.row.2 with ⟨rfl, _⟩ | ⟨g, cap, cur, rfl, _, hg, _⟩
  · cases e
  · simp only [Value.ownBlock, Option.some.injEq] at e
    subst e
    rw [h.box] at hg
    simp at hg
/-- The blocks that a call of it may turn. -/
def BlkR (b : Nat) (vo : Value) (k : Nat) : Prop := k = b ∨ vo.ownBlock = some k
theorem RS.five (h : RS W B b vo R low) : ∀ k, BlkR b vo k → ∀ cs T z, W.heap[k]? = some (.cells cs T z) → cs.size ≠ 5 := by
  intro k hk cs T z hc
  rcases hk with rfl | hk
  · rw [h.box] at hc
    simp only [Option.some.injEq, Obj.cells.injEq] at hc
    obtain ⟨rfl, _, _⟩ := hc
    simp
  · obtain ⟨cap, e⟩ := owns_size h.row hk hc
    omega
theorem RS.blk (h : RS W B b vo R low) : ∀ k, BlkR b vo k → B ≤ k ∧ k < W.heap.size := by
  intro k hk
  rcases hk with rfl | hk
  · exact ⟨h.lt, h.blt⟩
  · exact h.row.lt k hk
/-- A chain's block is none of these. -/
theorem RS.apart (h : RS W B b vo R low) {r : RRow} (hr : r ∈ R) {j : Nat} (hj : sBlk r.2.1 = some j) : ¬ BlkR b vo j := by
  obtain ⟨_, cs, z, h5⟩ := (h.ch r hr).2.2 j hj
  rintro (rfl | e)
  · rw [h.box] at h5; simp at h5
  · rcases h.row.2 with ⟨rfl, _⟩ | ⟨g, cap, cur, rfl, _, hg, _⟩
    · cases e
    · simp only [Value.ownBlock, Option.some.injEq] at e
      subst e
      rw [h5] at hg
      simp at hg
/-- It stands when other blocks turn. -/
theorem RS.frm {F : Nat → Prop} {W' : World} (h : RS W B b vo R low) (hf : Frm F W W') (hb : ∀ k, BlkR b vo k → ¬ F k) (hc : ∀ r ∈ R, ∀ j, sBlk r.2.1 = some j → ¬ F j) : RS W' B b vo R low := by
  refine ⟨by rw [hf.block b h.blt (hb b (.inl rfl))]; exact h.box, owns_frm h.row hf (fun k hk => hb k (.inr hk)), fun r hr => ?_, h.rs, h.lt⟩
  obtain ⟨h1, h2, h3⟩ := h.ch r hr
  refine ⟨RdF.frm h1 hf (hc r hr), h2, fun j hj => ?_⟩
  obtain ⟨h4, cs, z, h5⟩ := h3 j hj
  exact ⟨h4, cs, z, by rw [hf.block j (Array.getElem?_eq_some_iff.1 h5).1 (hc r hr j hj)]; exact h5⟩
theorem RS.below {W' : World} (h : RS W B b vo R low) (hb : Below W.heap.size W W') : RS W' B b vo R low :=
  h.frm (F := fun _ => False) (Frm.of_below hb) (fun _ _ h => h) (fun _ _ _ _ h => h)
theorem RS.drewN (h : RS W B b vo R low) (q : Nat) : RS (W.drewN q) B b vo R low := h.below (Below.drewsN (Below.refl _ _) q)
theorem RS.rd (h : RS W B b vo R low) : RdF 2 W vo (R.map cellsR) := RdF.of_row (cellsR_len R) (by simpa using h.row)
/-- A row's cells. -/
theorem RS.get (h : RS W B b vo R low) {i : Nat} (hi : i < R.length) : ∃ g cap, vo = .slice (some ⟨g, 0, none⟩) R.length cap ∧ W.cell? ⟨g, i * 2, none⟩ = some (str R[i].1) ∧ W.cell? ⟨g, i * 2 + 1, none⟩ = some R[i].2.1 := by
  rcases h.row.2 with ⟨rfl, h0⟩ | ⟨g, cap, cur, rfl, _, hg, _⟩
  · omega
  · refine ⟨g, cap, rfl, ?_⟩
    obtain ⟨a', c', he, _, _, _, h4⟩ := h.rd
    simp only [Value.slice.injEq] at he
    obtain ⟨rfl, _, rfl⟩ := he
    obtain ⟨b', off, ha, hc⟩ := h4 (by intro e; rw [List.map_eq_nil_iff] at e; rw [e] at hi; simp at hi)
    simp only [Option.some.injEq, Addr.mk.injEq, and_true] at ha
    obtain ⟨rfl, rfl⟩ := ha
    have hi' : i < (R.map cellsR).length := by simpa using hi
    have q0 := hc i hi' 0 (str R[i].1) (by simp [cellsR])
    have q1 := hc i hi' 1 R[i].2.1 (by simp [cellsR])
    rw [Nat.zero_add] at q0 q1
    exact ⟨q0, q1⟩
theorem RS.form (h : RS W B b vo R low) : ∃ a cap, vo = .slice a R.length cap := by
  obtain ⟨a, cap, hv, _⟩ := h.rd
  exact ⟨a, cap, by rw [hv, List.length_map]⟩
/-- The place of a key. -/
structure PlaceB {Y : Type} (key : List UInt8) (C : List (List UInt8 × Y)) (p : Nat) : Prop where
  le : p ≤ C.length
  lo : ∀ j (h : j < C.length), j < p → Op.bytesLess C[j].1 key = true
  hi : ∀ j (h : j < C.length), p ≤ j → Op.bytesLess C[j].1 key = false
theorem blB_irr (a : List UInt8) : Op.bytesLess a a = false := bl_irr a
theorem getB_at {Y : Type} (key : List UInt8) : ∀ {C : List (List UInt8 × Y)} {p : Nat}, RisB C → PlaceB key C p → getB key C = if h : p < C.length then (if C[p].1 = key then some C[p].2 else none) else none
  | [], p, _, _ => by simp [getB]
  | (k', y') :: t, 0, hr, hp => by
    have h0 := hp.hi 0 (by simp) (Nat.le_refl _)
    simp only [List.getElem_cons_zero] at h0
    unfold getB
    by_cases e : Op.bytesLess key k' = true
    · have hne : ¬ k' = key := by rintro rfl; rw [bl_irr] at e; cases e
      simp [e, hne]
    · have e' : Op.bytesLess key k' = false := by simpa using e
      have : k' = key := bl_tot _ _ h0 e'
      subst this
      simp [bl_irr]
  | (k', y') :: t, p + 1, hr, hp => by
    have h0 := hp.lo 0 (by simp) (by omega)
    simp only [List.getElem_cons_zero] at h0
    have h1 : Op.bytesLess key k' = false := by
      cases e : Op.bytesLess key k' with
      | false => rfl
      | true => have := bl_tr _ _ _ h0 e; rw [bl_irr] at this; cases this
    have ih := getB_at key (C := t) (p := p) (List.pairwise_cons.1 hr).2 ⟨by have := hp.le; simpa using this, fun j h hj => hp.lo (j + 1) (by simpa using h) (by omega), fun j h hj => hp.hi (j + 1) (by simpa using h) (by omega)⟩
    unfold getB
    rw [if_neg (by simp [h1]), if_pos h0, ih]
    simp
theorem insB_at {Y : Type} (key : List UInt8) (y : Y) : ∀ {C : List (List UInt8 × Y)} {p : Nat}, PlaceB key C p → insB key y C = if (∃ h : p < C.length, C[p].1 = key) then C.take p ++ (key, y) :: C.drop (p + 1) else C.take p ++ (key, y) :: C.drop p
  | [], p, hp => by
    have := hp.le
    obtain rfl : p = 0 := by simpa using this
    simp [insB]
  | (k', y') :: t, 0, hp => by
    have h0 := hp.hi 0 (by simp) (Nat.le_refl _)
    simp only [List.getElem_cons_zero] at h0
    unfold insB
    by_cases e : Op.bytesLess key k' = true
    · rw [if_pos e, if_neg (by rintro ⟨_, h⟩; simp at h; subst h; rw [bl_irr] at e; cases e)]
      simp
    · have e' : Op.bytesLess key k' = false := by simpa using e
      have : k' = key := bl_tot _ _ h0 e'
      rw [if_neg e, if_neg (by simp [h0]), if_pos ⟨by simp, by simpa using this⟩]
      simp
  | (k', y') :: t, p + 1, hp => by
    have h0 := hp.lo 0 (by simp) (by omega)
    simp only [List.getElem_cons_zero] at h0
    have h1 : Op.bytesLess key k' = false := by
      cases e : Op.bytesLess key k' with
      | false => rfl
      | true => have := bl_tr _ _ _ h0 e; rw [bl_irr] at this; cases this
    have ih := insB_at key y (C := t) (p := p) ⟨by have := hp.le; simpa using this, fun j h hj => hp.lo (j + 1) (by simpa using h) (by omega), fun j h hj => hp.hi (j + 1) (by simpa using h) (by omega)⟩
    unfold insB
    rw [if_neg (by simp [h1]), if_pos h0, ih]
    have e : (∃ h : p + 1 < ((k', y') :: t).length, ((k', y') :: t)[p + 1].1 = key) ↔ (∃ h : p < t.length, t[p].1 = key) := by
      constructor
      · rintro ⟨h, e⟩; exact ⟨by simpa using h, e⟩
      · rintro ⟨h, e⟩; exact ⟨by simpa using h, e⟩
    by_cases g : ∃ h : p < t.length, t[p].1 = key
    · rw [if_pos g, if_pos (e.2 g)]
      simp
    · rw [if_neg g, if_neg (fun q => g (e.1 q))]
      simp
end Go.Proofs.Ytcgjiddiegepkaa

/- hblref11's find: the place of a key. -/
namespace Go.Proofs.Ytcgjiddiegepkaa
open Go.RowKit

def FindP (W : World) (R : List RRow) (key : List UInt8) (e : Ending) (w' : World) : Prop :=
  ∃ (p : Nat) (z : Bool), e = .returned (.tuple #[.int .i64 (p : Int), .bool z]) ∧ PlaceB key (chR R) p ∧ (z = true ↔ ∃ h : p < R.length, R[p].1 = key) ∧ Below W.heap.size W w'
theorem chR_key {R : List RRow} {i : Nat} (h : i < (chR R).length) (h' : i < R.length) : (chR R)[i].1 = R[i].1 := by simp [chR]
theorem rs_lt {R : List RRow} (h : RisB (chR R)) {i j : Nat} (hij : i < j) (hj : j < R.length) : Op.bytesLess (R[i]'(by omega)).1 R[j].1 = true := by
  have := (List.pairwise_iff_getElem.1 h) i j (by rw [chR_len]; omega) (by rw [chR_len]; exact hj) hij
  rwa [chR_key _ (by omega), chR_key _ hj] at this
theorem rs_up {R : List RRow} (h : RisB (chR R)) {key : List UInt8} {m : Nat} (hm : m < R.length) (hl : Op.bytesLess R[m].1 key = true) : ∀ k (hk : k < R.length), k < m + 1 → Op.bytesLess R[k].1 key = true := by
  intro k hk hkm
  by_cases e : k = m
  · subst e; exact hl
  · exact bl_tr _ _ _ (rs_lt h (show k < m by omega) hm) hl
theorem rs_down {R : List RRow} (h : RisB (chR R)) {key : List UInt8} {m : Nat} (hm : m < R.length) (hl : Op.bytesLess R[m].1 key = false) : ∀ k (hk : k < R.length), m ≤ k → Op.bytesLess R[k].1 key = false := by
  intro k hk hkm
  by_cases e : k = m
  · subst e; exact hl
  · cases h2 : Op.bytesLess R[k].1 key with
    | false => rfl
    | true =>
      have := bl_tr _ _ _ (rs_lt h (show m < k by omega) hk) h2
      rw [hl] at this; cases this
set_option maxRecDepth 100000 in
set_option maxHeartbeats 8000000 in
theorem rfind_any {W : World} {B b : Nat} {vo : Value} {R : List RRow} {low : Int} (h : RS W B b vo R low) (hn : R.length ≤ 1000000) (key : List UInt8) :
    Calls Try.prog 63 #[.pointer (some ⟨b, 0, none⟩), str key] W (FindP W R key) := by
  obtain ⟨s0, _, _, _⟩ := h.cells
  obtain ⟨a, cap, rfl⟩ := h.form
  have HS := Lib.hid h
  clear h
  go_enter Try.func63, Try.ntmps63
  go_wp2_with fail
  go_quiet (fail)
  obtain ⟨W1, hW1⟩ : ∃ W1, W1 = W.drewN nq := ⟨_, rfl⟩
  rw [← hW1]
  have HW1 := Lib.hid hW1
  have s0 : W1.cell? ⟨b, 0, none⟩ = some (.slice a R.length cap) := by rw [hW1]; exact s0
  clear hW1
  go_wp2_with fail
  go_loopw [6, 7] (fun vi vj wr => ∃ i j : Nat, i ≤ j ∧ j ≤ R.length ∧ vi = .int .i64 (i : Int) ∧ vj = .int .i64 (j : Int) ∧ Hid ((∀ k (h : k < R.length), k < i → Op.bytesLess R[k].1 key = true) ∧ (∀ k (h : k < R.length), j ≤ k → Op.bytesLess R[k].1 key = false)) ∧ wr = W1) (fun vi vj _ => (intOf vj).toNat - (intOf vi).toNat)
  case atStart => exact ⟨0, R.length, Nat.zero_le _, Nat.le_refl _, rfl, rfl, Lib.hid ⟨fun _ _ h => absurd h (by omega), fun _ h h' => absurd h (by omega)⟩, rfl⟩
  case round =>
    obtain ⟨i, j, hij, hj, rfl, rfl, HI, rfl⟩ := hrel
    by_cases hlt : i < j
    · have g1 : (i : Int) < (j : Int) := by omega
      obtain ⟨m, hm⟩ : ∃ m, m = (i + j) / 2 := ⟨_, rfl⟩
      have hm1 : i ≤ m := by omega
      have hm2 : m < j := by omega
      have hmn : m < R.length := by omega
      have w1 : IntKind.i64.wrap ((i : Int) + (j : Int)) = (i : Int) + (j : Int) := IntWalk.i64_in _ ⟨by omega, by omega⟩
      have w2 : Int.tdiv ((i : Int) + (j : Int)) 2 = (m : Int) := by rw [Int.tdiv_eq_ediv_of_nonneg (by omega)]; omega
      have w3 : IntKind.i64.wrap (m : Int) = (m : Int) := IntWalk.i64_in _ ⟨by omega, by omega⟩
      have w4 : IntKind.i64.wrap ((m : Int) + 1) = (m : Int) + 1 := IntWalk.i64_in _ ⟨by omega, by omega⟩
      have g2 : (m : Int) < (R.length : Int) := by omega
      have g3 : (0 : Int) ≤ (m : Int) := by omega
      obtain ⟨g, cap', ha, c0, _⟩ := HS.out.get hmn
      simp only [Value.slice.injEq, true_and] at ha
      obtain ⟨rfl, rfl⟩ := ha
      have c1 : wr.cell? ⟨g, m * 2, none⟩ = some (str R[m].1) := by rw [HW1.out]; exact c0
      obtain ⟨y, hy⟩ : ∃ y, y = R[m].1 := ⟨_, rfl⟩
      rw [← hy] at c1
      have HY := Lib.hid hy
      clear c0 hm hy
      cases hl : Op.bytesLess y key with
      | true =>
        have HN := Lib.hid (And.intro (rs_up HS.out.rs hmn (by rw [← HY.out]; exact hl)) HI.out.2)
        go_wp2_with fail
        go_roundw
        case rel => exact ⟨m + 1, j, by omega, hj, by go_num, rfl, HN, by first | rfl | trivial⟩
        case measure => simp [intOf]; omega
      | false =>
        have HN := Lib.hid (And.intro HI.out.1 (rs_down HS.out.rs hmn (by rw [← HY.out]; exact hl)))
        go_wp2_with fail
        go_roundw
        case rel => exact ⟨i, m, by omega, by omega, rfl, rfl, HN, by first | rfl | trivial⟩
        case measure => simp [intOf]; omega
    · obtain rfl : i = j := by omega
      have g1 : ¬ (i : Int) < (i : Int) := by omega
      have HP : Hid (PlaceB key (chR R) i) := Lib.hid ⟨by rw [chR_len]; exact hj, fun k h hk => by rw [chR_key h (by rw [chR_len] at h; exact h)]; exact HI.out.1 k _ hk, fun k h hk => by rw [chR_key h (by rw [chR_len] at h; exact h)]; exact HI.out.2 k _ hk⟩
      by_cases hin : i < R.length
      · have g2 : (i : Int) < (R.length : Int) := by omega
        have g2d : decide ((i : Int) < (R.length : Int)) = true := by simp; omega
        have g3 : (0 : Int) ≤ (i : Int) := by omega
        obtain ⟨g, cap', ha, c0, _⟩ := HS.out.get hin
        simp only [Value.slice.injEq, true_and] at ha
        obtain ⟨rfl, rfl⟩ := ha
        have c1 : wr.cell? ⟨g, i * 2, none⟩ = some (str R[i].1) := by rw [HW1.out]; exact c0
        obtain ⟨y, hy⟩ : ∃ y, y = R[i].1 := ⟨_, rfl⟩
        rw [← hy] at c1
        obtain ⟨z, hz⟩ : ∃ z, z = (y == key) := ⟨_, rfl⟩
        have hz2 := hz.symm
        have HZ : Hid (z = true ↔ ∃ h : i < R.length, R[i].1 = key) := Lib.hid (by
          rw [hz, beq_iff_eq, hy]
          exact ⟨fun h => ⟨hin, h⟩, fun ⟨_, h⟩ => h⟩)
        clear c0 hy hz
        go_wp2_with fail
        go_quiet (fail)
        go_wp2_with fail
        go_ret2
        exact ⟨i, z, rfl, HP.out, HZ.out, by rw [HW1.out]; exact Below.drewsN (Below.drewsN (Below.refl _ _) _) _⟩
      · have g2 : ¬ (i : Int) < (R.length : Int) := by omega
        have g2d : decide ((i : Int) < (R.length : Int)) = false := by simp; omega
        go_wp2_with fail
        go_quiet (fail)
        go_wp2_with fail
        go_ret2
        exact ⟨i, false, rfl, HP.out, ⟨fun h => (by cases h), fun ⟨h, _⟩ => absurd h hin⟩, by rw [HW1.out]; exact Below.drewsN (Below.drewsN (Below.refl _ _) _) _⟩
end Go.Proofs.Ytcgjiddiegepkaa

/- A store told by its chains: Count, Last, Chain. -/
namespace Go.Proofs.Ytcgjiddiegepkaa
open Go.RowKit

variable {X W : World} {K : Nat → Prop} {s mb : Nat} {C : ChC} {low : Int} {n : Nat}
theorem lastG (h : SG X K W s mb C low n) (hn : n ≤ 10000) (key : List UInt8) : Calls Try.prog 24 #[.pointer (some ⟨s, 0, none⟩), str key] W fun e W' => e = .returned (.int .i64 (lastTVS (verC key C))) ∧ W = W' := by
  obtain ⟨t, S, h1, h2, h3, h4, h5⟩ := h
  have := lastVS_any h1 (by omega) key
  rw [ver_chs, h2] at this
  exact this
/-- A chain cloned, whatever its slice is. -/
def CloQ (l : List VerVS) (w : World) (e : Ending) (w' : World) : Prop := ∃ v, e = .returned v ∧ RdVS w' v l ∧ Below w.heap.size w w'
end Go.Proofs.Ytcgjiddiegepkaa

/- hblref11's seen, Get, Chain, Last, Low. -/
namespace Go.Proofs.Ytcgjiddiegepkaa
open Go.RowKit

set_option maxRecDepth 100000 in
set_option maxHeartbeats 4000000 in
theorem rseen_any (v : Value) (l : List VerVS) (t : Int) (w : World) (hv : RdVS w v l) (hr : RisT (timesVS l)) (hl : l.length ≤ 1000000) (hg : ∀ x ∈ l, x.2.2 = true → x.2.1 = []) :
    Calls Try.prog 64 #[v, .int .i64 t] w fun e w' => e = seenEVS (seenVS l t) ∧ Below w.heap.size w w' := by
  obtain ⟨av, cv, rfl, _⟩ := hv.form
  have HV := Lib.hid hv
  have HR := Lib.hid hr
  have HG := Lib.hid hg
  clear hv hr hg
  have w0 : IntKind.i64.wrap ((l.length : Int) - 1) = (l.length : Int) - 1 := IntWalk.i64_in _ ⟨by omega, by omega⟩
  go_enter Try.func64, Try.ntmps64
  go_wp2_with fail
  go_loopw [6] (fun vi wr => ∃ i : Int, -1 ≤ i ∧ i < (l.length : Int) ∧ vi = .int .i64 i ∧ Hid (∀ j (h : j < l.length), i < (j : Int) → t < l[j].1) ∧ wr = w) (fun vi _ => (intOf vi + 1).toNat)
  case atStart => exact ⟨(l.length : Int) - 1, by omega, by omega, by go_num, Lib.hid (fun j h h' => absurd h' (by omega)), rfl⟩
  case round =>
    obtain ⟨i, hi1, hi2, rfl, HI, rfl⟩ := hrel
    by_cases h0 : 0 ≤ i
    · obtain ⟨n, rfl⟩ : ∃ n : Nat, i = (n : Int) := ⟨i.toNat, by omega⟩
      have hn : n < l.length := by omega
      have g1 : (0 : Int) ≤ (n : Int) := by omega
      have g2 : (n : Int) < (l.length : Int) := by omega
      have w1 : IntKind.i64.wrap ((n : Int) - 1) = (n : Int) - 1 := IntWalk.i64_in _ ⟨by omega, by omega⟩
      obtain ⟨bA, oA, rfl, c0, c1, c2⟩ := HV.out.get hn
      obtain ⟨⟨ca, cs, cg⟩, hc⟩ : ∃ c, c = l[n] := ⟨_, rfl⟩
      rw [← hc] at c0 c1 c2
      dsimp only at c0 c1 c2
      have HC := Lib.hid hc
      clear hc h0
      by_cases ht : ca ≤ t
      · have HS : Hid (seenVS l t = if cg = true then none else some cs) := Lib.hid (by
          unfold seenVS
          rw [upN_is (n := n + 1) (by simp [timesVS]; omega) (fun p h hp => ?_) (fun p h hp => ?_), lastVS_succ hn, ← HC.out]
          · have hp2 : p < l.length := by simpa [timesVS] using h
            have e : (timesVS l)[p] = l[p].1 := by simp [timesVS]
            rw [e]
            by_cases e2 : p = n
            · subst e2; rw [← HC.out]; exact ht
            · have := risT_at HR.out h (show n < (timesVS l).length by simpa [timesVS] using hn) (show p < n by omega)
              have e3 : (timesVS l)[n]'(by simpa [timesVS] using hn) = l[n].1 := by simp [timesVS]
              rw [e, e3, ← HC.out] at this
              dsimp only at this
              omega
          · have hp2 : p < l.length := by simpa [timesVS] using h
            have e : (timesVS l)[p] = l[p].1 := by simp [timesVS]
            rw [e]
            exact HI.out p hp2 (by omega))
        have HN : Hid (cg = true → cs = []) := Lib.hid (fun h => by
          have := HG.out l[n] (List.getElem_mem hn)
          rw [← HC.out] at this
          exact this h)
        clear HV HR HG HI HC
        go_wp2_with fail
        go_quiet (fail)
        go_wp2_with fail
        go_ret2
        refine ⟨?_, Below.drewsN (Below.refl _ _) _⟩
        rw [HS.out]
        cases cg with
        | true => rw [HN.out rfl]; rfl
        | false => rfl
      · have HN : Hid (∀ j (h : j < l.length), (n : Int) - 1 < (j : Int) → t < l[j].1) := Lib.hid (fun j h hj => by
          by_cases e : j = n
          · subst e; rw [← HC.out]; show t < ca; omega
          · exact HI.out j h (by omega))
        clear HI HC c1 c2
        go_wp2_with fail
        go_roundw
        case rel => exact ⟨(n : Int) - 1, by omega, by omega, by go_num, HN, by first | rfl | trivial⟩
        case measure => simp [intOf]
    · obtain rfl : i = -1 := by omega
      have HS : Hid (seenVS l t = none) := Lib.hid (by
        unfold seenVS
        rw [upN_is (n := 0) (Nat.zero_le _) (fun p h hp => absurd hp (by omega)) (fun p h hp => ?_), lastVS_zero]
        have hp2 : p < l.length := by simpa [timesVS] using h
        have e : (timesVS l)[p] = l[p].1 := by simp [timesVS]
        rw [e]
        exact HI.out p hp2 (by omega))
      clear HV HR HG HI
      go_wp2_with fail
      go_ret2
      refine ⟨?_, Below.refl _ _⟩
      rw [HS.out]
      rfl
variable {W : World} {B b : Nat} {vo : Value} {R : List RRow} {low : Int}
/-- What a place says of a key's chain. -/
theorem RS.ver_yes (h : RS W B b vo R low) {key : List UInt8} {p : Nat} (hp : PlaceB key (chR R) p) (hq : p < R.length) (hk : R[p].1 = key) : verC key (chR R) = R[p].2.2 := by
  unfold verC
  rw [getB_at key h.rs hp, dif_pos (by rw [chR_len]; exact hq), if_pos (by rw [chR_key _ hq]; exact hk)]
  simp [chR]
theorem RS.ver_no (h : RS W B b vo R low) {key : List UInt8} {p : Nat} (hp : PlaceB key (chR R) p) (hk : ¬ ∃ hq : p < R.length, R[p].1 = key) : verC key (chR R) = [] := by
  unfold verC
  rw [getB_at key h.rs hp]
  by_cases hq : p < (chR R).length
  · rw [dif_pos hq, if_neg (fun e => hk ⟨by rw [chR_len] at hq; exact hq, by rw [chR_key hq (by rw [chR_len] at hq; exact hq)] at e; exact e⟩)]; rfl
  · rw [dif_neg hq]; rfl
set_option maxRecDepth 100000 in
set_option maxHeartbeats 4000000 in
theorem rget_any (h : RS W B b vo R low) (hn : R.length ≤ 1000000) (hc : ∀ r ∈ R, RisT (timesVS r.2.2) ∧ r.2.2.length ≤ 1000000 ∧ ∀ x ∈ r.2.2, x.2.2 = true → x.2.1 = []) (key : List UInt8) (t : Int) :
    Calls Try.prog 44 #[.pointer (some ⟨b, 0, none⟩), str key, .int .i64 t] W fun e w' => e = seenEVS (seenVS (verC key (chR R)) t) ∧ Below W.heap.size W w' := by
  have CF := Lib.hid (rfind_any h hn key)
  have HS := Lib.hid h
  have HC := Lib.hid hc
  clear h hc
  go_enter Try.func44, Try.ntmps44
  go_wp2_with fail
  refine CF.out.mono ?_
  rintro e w1 ⟨p, z, rfl, hp, hz, hb⟩
  cases z with
  | false =>
    have HV := Lib.hid (HS.out.ver_no hp (fun h => by have := hz.2 h; cases this))
    have HB := Lib.hid hb
    clear hp hz hb CF
    go_wp2_with fail
    go_ret2
    refine ⟨?_, HB.out⟩
    rw [HV.out]
    rfl
  | true =>
    obtain ⟨hq, hk⟩ := hz.1 rfl
    have HV := Lib.hid (HS.out.ver_yes hp hq hk)
    have HS1 := HS.out.below hb
    obtain ⟨g, cap, hvo, c0, c1⟩ := HS1.get hq
    obtain ⟨s0, _, _, _⟩ := HS1.cells
    obtain ⟨hv1, _, _⟩ := HS1.ch R[p] (List.getElem_mem hq)
    obtain ⟨hr1, hr2, hr3⟩ := HC.out R[p] (List.getElem_mem hq)
    have CS := Lib.hid (rseen_any R[p].2.1 R[p].2.2 t w1 hv1 hr1 hr2 hr3)
    have HB := Lib.hid hb
    obtain ⟨u, hu⟩ : ∃ u, u = R[p].2.1 := ⟨_, rfl⟩
    obtain ⟨sv, hsv⟩ : ∃ sv, sv = seenVS R[p].2.2 t := ⟨_, rfl⟩
    rw [← hu] at c1
    rw [← hu, ← hsv] at CS
    have HSV : Hid (seenVS (verC key (chR R)) t = sv) := Lib.hid (by rw [HV.out, hsv])
    rw [hvo] at s0
    have g1 : (p : Int) < (R.length : Int) := by omega
    have g2 : (0 : Int) ≤ (p : Int) := by omega
    clear hp hz hb CF c0 hu hv1 hr1 hr2 hr3 HS1 hk HV hsv
    go_wp2_with fail
    refine CS.out.mono ?_
    rintro e w2 ⟨rfl, hb2⟩
    have HB2 := Lib.hid (HB.out.trans (hb2.mono HB.out.size))
    clear hb2 CS
    unfold seenEVS
    go_wp2_with fail
    go_ret2
    refine ⟨?_, HB2.out⟩
    rw [HSV.out]
    first | rfl | done
theorem infoRV : (Try.prog.info? 93).map (fun i => (i.zero, i.size, i.bytes)) = some (some (.agg #[.int .i64 0, str [], .bool false]), 3, 32) := by kernel_rfl
theorem one_cellsVS (l : List VerVS) : ∀ u ∈ (l.map cellsVS).flatten, u.oneCell' = true := by
  intro u hu
  obtain ⟨r, hr, hu⟩ := List.mem_flatten.1 hu
  obtain ⟨c, _, rfl⟩ := List.mem_map.1 hr
  simp only [cellsVS, List.mem_cons, List.not_mem_nil, or_false] at hu
  rcases hu with rfl | rfl | rfl <;> rfl
set_option maxRecDepth 100000 in
set_option maxHeartbeats 4000000 in
theorem rchain_any (h : RS W B b vo R low) (hn : R.length ≤ 1000000) (hc : ∀ r ∈ R, r.2.2.length ≤ 1000000) (key : List UInt8) :
    Calls Try.prog 75 #[.pointer (some ⟨b, 0, none⟩), str key] W (CloQ (verC key (chR R)) W) := by
  have CF := Lib.hid (rfind_any h hn key)
  have HS := Lib.hid h
  have HC := Lib.hid hc
  obtain ⟨i0, hi, hz0, hz1, hz2⟩ := info_parts infoRV
  clear h hc
  go_enter Try.func75, Try.ntmps75
  go_wp2_with fail
  refine CF.out.mono ?_
  rintro e w1 ⟨p, z, rfl, hp, hz, hb⟩
  cases z with
  | false =>
    have HV := Lib.hid (HS.out.ver_no hp (fun h => by have := hz.2 h; cases this))
    have HB := Lib.hid hb
    clear hp hz hb CF
    go_wp2_with fail
    go_ret
    refine ⟨_, rfl, ?_, HB.out⟩
    rw [HV.out]
    exact ⟨none, 0, rfl, by simp, by simp, by simp, fun h => absurd rfl h⟩
  | true =>
    obtain ⟨hq, hk⟩ := hz.1 rfl
    have HV := Lib.hid (HS.out.ver_yes hp hq hk)
    have HS1 := HS.out.below hb
    obtain ⟨g, cap, hvo, c0, c1⟩ := HS1.get hq
    obtain ⟨s0, _, _, _⟩ := HS1.cells
    obtain ⟨hv1, hnil, _⟩ := HS1.ch R[p] (List.getElem_mem hq)
    have hr2 := HC.out R[p] (List.getElem_mem hq)
    have HB := Lib.hid hb
    obtain ⟨u, hu⟩ : ∃ u, u = R[p].2.1 := ⟨_, rfl⟩
    obtain ⟨l, hl⟩ : ∃ l, l = R[p].2.2 := ⟨_, rfl⟩
    rw [← hu] at c1 hv1 hnil
    rw [← hl] at hv1 hr2 HV
    rw [hvo] at s0
    have HV1 := Lib.hid (And.intro hv1 hnil)
    have g1 : (p : Int) < (R.length : Int) := by omega
    have g2 : (0 : Int) ≤ (p : Int) := by omega
    have HW2 : Hid (Below w1.heap.size w1 (w1.alloc (.cells #[] 93))) := Lib.hid (below_alloc w1 _)
    have s1 := (HW2.out.cell (p := ⟨b, 0, none⟩) (World.block_lt_of_cell? w1 _ s0)).trans s0
    have c2 := (HW2.out.cell (p := ⟨g, p * 2 + 1, none⟩) (World.block_lt_of_cell? w1 _ c1)).trans c1
    clear hp hz hb CF c0 hu hl hv1 hnil HS1 hk s0 c1
    go_wp2_with (at_builtin; refine hold ?_)
    intro _
    refine wpList_appendG (by rfl) _ _ 116 (by rfl) w1.heap.size 93 i0 _ 3 32 Try.underlying116 hi hz0 hz1 hz2 rfl (by decide) w1.heap.size 0 0 [] (by rfl) (World.ownsRow_lit (e := 93) (size := 3) w1 #[] 0 (Nat.le_refl _) (by decide) rfl) u (l.map cellsVS) (cellsVS_len l) (one_cellsVS l) (by rfl) (RdVS.up HV1.out.1 (below_alloc w1 _)) HV1.out.2 ?_ ?_ ?_ ?_
    · rw [List.length_map]; simp [maxLen]; omega
    · rw [List.length_map]; omega
    · simp
    intro g0 c0 w0 ho0 hg0
    rw [List.length_map, Nat.zero_add, List.nil_append] at ho0
    rw [List.length_map, Nat.zero_add]
    have HF : Hid (RdVS w0 (.slice (some ⟨g0, 0, none⟩) l.length c0) l ∧ Below W.heap.size W w0) := Lib.hid ⟨rd_rowVS ho0, HB.out.trans ((((Below.refl _ w1).alloc (Nat.le_refl _) _).grown hg0 (by simp) (fun k e => by cases e; exact Nat.le_refl _)).mono HB.out.size)⟩
    clear ho0 hg0 s1 c2 HW2 HV1
    go_wp2_with fail
    go_ret
    refine ⟨_, rfl, ?_, HF.out.2⟩
    rw [HV.out]
    exact HF.out.1
set_option maxRecDepth 100000 in
set_option maxHeartbeats 4000000 in
theorem rlast_any (h : RS W B b vo R low) (hn : R.length ≤ 1000000) (hc : ∀ r ∈ R, r.2.2.length ≤ 1000000) (key : List UInt8) :
    Calls Try.prog 55 #[.pointer (some ⟨b, 0, none⟩), str key] W fun e w' => e = .returned (.int .i64 (lastTVS (verC key (chR R)))) ∧ Below W.heap.size W w' := by
  have CC := Lib.hid (rchain_any h hn hc key)
  obtain ⟨l, hl⟩ : ∃ l, l = verC key (chR R) := ⟨_, rfl⟩
  have hlen : l.length ≤ 1000000 := by
    rw [hl]
    unfold verC
    cases e : getB key (chR R) with
    | none => simp
    | some y =>
      have := getB_mem e
      obtain ⟨r, hr, e2⟩ := List.mem_map.1 this
      have := hc r hr
      simp only [Prod.mk.injEq] at e2
      rw [Option.getD_some, ← e2.2]; exact this
  rw [← hl] at CC ⊢
  clear h hn hc hl
  go_enter Try.func55, Try.ntmps55
  go_wp2_with fail
  refine CC.out.mono ?_
  rintro e w1 ⟨v, rfl, hv, hb⟩
  obtain ⟨av, cv, rfl, _⟩ := hv.form
  have HB := Lib.hid hb
  have HV := Lib.hid hv
  clear hb hv CC
  by_cases h0 : l.length = 0
  · have g0 : ((l.length : Int) == 0) = true := by rw [h0]; rfl
    obtain rfl := List.eq_nil_of_length_eq_zero h0
    clear h0
    go_wp2_with fail
    go_ret
    exact ⟨rfl, HB.out⟩
  · have g0 : ((l.length : Int) == 0) = false := by rw [beq_eq_false_iff_ne]; omega
    have hn : l.length - 1 < l.length := by omega
    obtain ⟨bA, oA, rfl, c0, c1, c2⟩ := HV.out.get hn
    have w1' : IntKind.i64.wrap ((l.length : Int) - 1) = (l.length : Int) - 1 := IntWalk.i64_in _ ⟨by omega, by omega⟩
    have g1 : (0 : Int) ≤ (l.length : Int) - 1 := by omega
    have g2 : (l.length : Int) - 1 < (l.length : Int) := by omega
    have g3 : ((l.length : Int) - 1).toNat = l.length - 1 := by omega
    have HL : Hid (lastTVS l = l[l.length - 1].1) := Lib.hid (by
      unfold lastTVS
      rw [List.getLast?_eq_getElem?, List.getElem?_eq_getElem hn]
      rfl)
    obtain ⟨x, hx⟩ : ∃ x, x = l[l.length - 1].1 := ⟨_, rfl⟩
    rw [← hx] at c0 HL
    clear c1 c2 hx h0 HV
    go_wp2_with fail
    go_ret
    exact ⟨by rw [HL.out]; rfl, HB.out⟩
end Go.Proofs.Ytcgjiddiegepkaa

/- hblref11's add: plain facts; what an insert, a store leave. -/
namespace Go.Proofs.Ytcgjiddiegepkaa
open Go.RowKit

theorem insB_twice {Y : Type} (k : List UInt8) (y z : Y) : ∀ C : List (List UInt8 × Y), insB k y (insB k z C) = insB k y C
  | [] => by simp [insB, bl_irr]
  | (k', y') :: t => by
    have ih := insB_twice k y z t
    cases h1 : Op.bytesLess k k' with
    | true => simp [insB, h1, bl_irr]
    | false =>
      cases h2 : Op.bytesLess k' k with
      | true => simp [insB, h1, h2, ih]
      | false => simp [insB, h1, h2, bl_irr]
theorem place_ins {Y : Type} {key : List UInt8} {C : List (List UInt8 × Y)} {p : Nat} {y : Y} (h : PlaceB key C p) : PlaceB key (C.take p ++ (key, y) :: C.drop p) p := by
  have hl : (C.take p ++ (key, y) :: C.drop p).length = C.length + 1 := by
    rw [List.length_append, List.length_take, List.length_cons, List.length_drop]; have := h.le; omega
  have htl : (C.take p).length = p := by rw [List.length_take]; have := h.le; omega
  refine ⟨by have := h.le; omega, fun j hj hjp => ?_, fun j hj hjp => ?_⟩
  · have hjC : j < C.length := by have := h.le; omega
    rw [List.getElem_append_left (by omega), List.getElem_take]
    exact h.lo j hjC hjp
  · rw [List.getElem_append_right (by omega)]
    by_cases e : j = p
    · subst e
      have : j - (C.take j).length = 0 := by omega
      simp only [this, List.getElem_cons_zero]
      exact bl_irr _
    · have hk : j - (C.take p).length = (j - p - 1) + 1 := by omega
      simp only [hk, List.getElem_cons_succ, List.getElem_drop]
      exact h.hi _ _ (by omega)
theorem ris_keys {Y : Type} {C D : List (List UInt8 × Y)} (h : RisB C) (e : D.map Prod.fst = C.map Prod.fst) : RisB D := by
  unfold RisB at h ⊢
  have h1 : (C.map Prod.fst).Pairwise (fun a b => Op.bytesLess a b = true) := List.pairwise_map.2 h
  rw [← e] at h1
  exact List.pairwise_map.1 h1
def newR (key : List UInt8) : RRow := (key, .slice none 0 0, [])
theorem chR_ins (R : List RRow) (p : Nat) (r : RRow) : chR (R.take p ++ r :: R.drop p) = (chR R).take p ++ (r.1, r.2.2) :: (chR R).drop p := by simp [chR, List.map_take, List.map_drop]
theorem flatR_ins (R : List RRow) (p : Nat) (r : List RRow) : ((R.take p ++ r).map cellsR).flatten = ((R.map cellsR).take p).flatten ++ (r.map cellsR).flatten := by simp [List.map_take]
theorem one_cellsR (l : List RRow) (h : ∀ r ∈ l, r.2.1.oneCell' = true) : ∀ u ∈ (l.map cellsR).flatten, u.oneCell' = true := by
  intro u hu
  obtain ⟨r, hr, hu⟩ := List.mem_flatten.1 hu
  obtain ⟨c, hc, rfl⟩ := List.mem_map.1 hr
  simp only [cellsR, List.mem_cons, List.not_mem_nil, or_false] at hu
  rcases hu with rfl | rfl
  · rfl
  · exact h c hc
section
variable {W : World} {B b : Nat} {vo : Value} {R : List RRow} {low : Int}
theorem RS.ones (h : RS W B b vo R low) : ∀ r ∈ R, r.2.1.oneCell' = true := by
  intro r hr
  obtain ⟨⟨a, c, e, _⟩, _⟩ := h.ch r hr
  rw [e]; rfl
/-- A key more. -/
theorem RS.ins {W6 : World} {key : List UInt8} {p g3 c3 : Nat} (h : RS W B b vo R low) (hp : PlaceB key (chR R) p) (hno : ¬ ∃ hq : p < R.length, R[p].1 = key)
    (hr : W6.ownsRow B 118 2 (.slice (some ⟨g3, 0, none⟩) (R.length + 1) c3) (R.length + 1) ((R.take p ++ newR key :: R.drop p).map cellsR).flatten) (hf : Frm (fun i => vo.ownBlock = some i) W W6) :
    RS (W6.setCell ⟨b, 0, none⟩ (.slice (some ⟨g3, 0, none⟩) (R.length + 1) c3)) B b (.slice (some ⟨g3, 0, none⟩) (R.length + 1) c3) (R.take p ++ newR key :: R.drop p) low ∧ Frm (BlkR b vo) W (W6.setCell ⟨b, 0, none⟩ (.slice (some ⟨g3, 0, none⟩) (R.length + 1) c3)) ∧ W6.cell? ⟨b, 0, none⟩ = some vo ∧ W6.frozen? ⟨b, 0, none⟩ = false := by
  have hpl : p ≤ R.length := by have := hp.le; rwa [chR_len] at this
  have hbx : W6.heap[b]? = some (.cells #[vo, .int .i64 low] 69 (0, 0)) := by rw [hf.block b h.blt h.ne]; exact h.box
  have hgb : g3 ≠ b := by
    rintro rfl
    rcases hr.2 with ⟨h', _⟩ | ⟨g', cap', cur, h', _, hg, _⟩
    · simp at h'
    · simp only [Value.slice.injEq, Option.some.injEq, Addr.mk.injEq, and_true] at h'
      obtain ⟨rfl, _⟩ := h'
      rw [hbx] at hg
      simp at hg
  have f2 : Frm (fun i => i = b) W6 (W6.setCell ⟨b, 0, none⟩ (.slice (some ⟨g3, 0, none⟩) (R.length + 1) c3)) := Frm.set _ rfl
  have hfr : Frm (BlkR b vo) W (W6.setCell ⟨b, 0, none⟩ (.slice (some ⟨g3, 0, none⟩) (R.length + 1) c3)) := (hf.mono (fun i _ e => .inr e)).trans f2 (fun i _ e => .inl e)
  have hlen : (R.take p ++ newR key :: R.drop p).length = R.length + 1 := by simp; omega
  refine ⟨⟨?_, ?_, ?_, ?_, h.lt⟩, hfr, by simp [World.cell?, hbx], frozen_of_row W6 b 0 _ _ hbx⟩
  · rw [heap_setCell_same W6 b 0 _ _ _ hbx]; rfl
  · rw [hlen]
    exact owns_frm hr f2 (fun k hk e => by simp only [Value.ownBlock, Option.some.injEq] at hk; omega)
  · intro r hr'
    have hm : r ∈ R ∨ r = newR key := by
      rcases List.mem_append.1 hr' with h1 | h1
      · exact .inl (List.mem_of_mem_take h1)
      · rcases List.mem_cons.1 h1 with rfl | h1
        · exact .inr rfl
        · exact .inl (List.mem_of_mem_drop h1)
    rcases hm with hm | rfl
    · obtain ⟨h1, h2, h3⟩ := h.ch r hm
      refine ⟨RdF.frm h1 hfr (fun j hj => h.apart hm hj), h2, fun j hj => ?_⟩
      obtain ⟨h4, cs, z, h5⟩ := h3 j hj
      exact ⟨h4, cs, z, by rw [hfr.block j (Array.getElem?_eq_some_iff.1 h5).1 (h.apart hm hj)]; exact h5⟩
    · refine ⟨(show RdVS _ (.slice none 0 0) [] from ⟨none, 0, rfl, by simp, by simp, by simp, fun h => absurd rfl h⟩), fun c e => ?_, fun j hj => by cases hj⟩
      simp only [newR, Value.slice.injEq, true_and] at e
      exact e.symm
  · rw [chR_ins]
    have : insB key [] (chR R) = (chR R).take p ++ (key, []) :: (chR R).drop p := by
      rw [insB_at key [] hp, if_neg (fun ⟨hq, e⟩ => hno ⟨by rwa [chR_len] at hq, by rw [chR_key hq (by rwa [chR_len] at hq)] at e; exact e⟩)]
    show RisB ((chR R).take p ++ (key, []) :: (chR R).drop p)
    rw [← this]
    exact insB_ris h.rs
/-- A chain laid in the place of another. -/
theorem RS.setv {W8 : World} {g cap p : Nat} {u : Value} {l : List VerVS} (h : RS W B b (.slice (some ⟨g, 0, none⟩) R.length cap) R low) (hp : p < R.length) (hf : Below W.heap.size W W8) (hu : RdVS W8 u l) (hnil : ∀ c, u = .slice none 0 c → c = 0)
    (hb : ∀ j, sBlk u = some j → B ≤ j ∧ ∃ cs z, W8.heap[j]? = some (.cells cs 93 z)) :
    RS (W8.setCell ⟨g, p * 2 + 1, none⟩ u) B b (.slice (some ⟨g, 0, none⟩) R.length cap) (R.set p (R[p].1, u, l)) low ∧ Frm (BlkR b (.slice (some ⟨g, 0, none⟩) R.length cap)) W (W8.setCell ⟨g, p * 2 + 1, none⟩ u) ∧ W8.cell? ⟨g, p * 2 + 1, none⟩ = some R[p].2.1 ∧ W8.frozen? ⟨g, p * 2 + 1, none⟩ = false := by
  have h8 := h.below hf
  obtain ⟨g', cap', he, _, c1⟩ := h8.get hp
  simp only [Value.slice.injEq, Option.some.injEq, Addr.mk.injEq, and_true] at he
  obtain ⟨rfl, _, rfl⟩ := he
  have hs := World.ownsRow.stored h8.row (p * 2 + 1) u
  have f2 : Frm (fun i => i = g) W8 (W8.setCell ⟨g, p * 2 + 1, none⟩ u) := Frm.set _ rfl
  have hfr : Frm (BlkR b (.slice (some ⟨g, 0, none⟩) R.length cap)) W (W8.setCell ⟨g, p * 2 + 1, none⟩ u) := (Frm.of_below (F := BlkR b (.slice (some ⟨g, 0, none⟩) R.length cap)) hf).trans f2 (fun i _ e => .inr (by rw [e]; rfl))
  have hgb : b ≠ g := fun e => h8.ne (by rw [e]; rfl)
  have ef : (R.map cellsR).flatten.set (p * 2 + 1) u = ((R.set p (R[p].1, u, l)).map cellsR).flatten := by
    rw [flat_set 2 _ (cellsR_len R) p (by simpa using hp) 1 (by decide), List.map_set]
    simp [cellsR]
  refine ⟨⟨?_, ?_, ?_, ?_, h.lt⟩, hfr, c1, row_free h8.row _⟩
  · rw [f2.block b h8.blt hgb]; exact h8.box
  · rw [List.length_set, ← ef]; exact hs.1
  · intro r hr'
    rcases List.mem_or_eq_of_mem_set hr' with hm | rfl
    · obtain ⟨h1, h2, h3⟩ := h.ch r hm
      refine ⟨RdF.frm h1 hfr (fun j hj => h.apart hm hj), h2, fun j hj => ?_⟩
      obtain ⟨h4, cs, z, h5⟩ := h3 j hj
      exact ⟨h4, cs, z, by rw [hfr.block j (Array.getElem?_eq_some_iff.1 h5).1 (h.apart hm hj)]; exact h5⟩
    · have hjg : ∀ j, sBlk u = some j → j ≠ g := by
        rintro j hj rfl
        obtain ⟨_, cs, z, h5⟩ := hb j hj
        rcases h8.row.2 with ⟨h', _⟩ | ⟨g', cap', cur, h', _, hg, _⟩
        · simp at h'
        · simp only [Value.slice.injEq, Option.some.injEq, Addr.mk.injEq, and_true] at h'
          obtain ⟨rfl, _⟩ := h'
          rw [h5] at hg
          simp at hg
      refine ⟨RdF.frm hu f2 (fun j hj e => hjg j hj e), hnil, fun j hj => ?_⟩
      obtain ⟨h4, cs, z, h5⟩ := hb j hj
      exact ⟨h4, cs, z, by rw [f2.block j (Array.getElem?_eq_some_iff.1 h5).1 (hjg j hj)]; exact h5⟩
  · refine ris_keys h.rs ?_
    unfold chR
    rw [List.map_map, List.map_map, List.map_set]
    refine List.ext_getElem (by simp) (fun i h1 h2 => ?_)
    rw [List.getElem_set]
    split
    · next e => subst e; simp
    · rfl
theorem chR_set {R : List RRow} {p : Nat} {key : List UInt8} {u : Value} {l : List VerVS} (hp : PlaceB key (chR R) p) (hq : p < R.length) (hk : R[p].1 = key) : chR (R.set p (R[p].1, u, l)) = insB key l (chR R) := by
  rw [insB_at key l hp, if_pos ⟨by rw [chR_len]; exact hq, by rw [chR_key _ hq]; exact hk⟩]
  unfold chR
  rw [List.map_set, List.set_eq_take_append_cons_drop, if_pos (by simpa using hq), hk]
end
end Go.Proofs.Ytcgjiddiegepkaa
