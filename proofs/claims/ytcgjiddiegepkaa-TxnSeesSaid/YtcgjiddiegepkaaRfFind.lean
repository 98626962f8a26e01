import Derived.Test.YtcgjiddiegepkaaAppN
import Derived.Laws.AppendOwnNone
import Derived.Laws.OwnMore
import Derived.Test.YtcgjiddiegepkaaV11StayM
import Derived.Deep.QuietTactic
import Derived.BigQuiet
/- Rows of structs: parts of them, an append of rows in a region that draws, a cell stored. -/
namespace Go.Proofs.Ytcgjiddiegepkaa
open Go.RowKit

theorem flat_take (sz : Nat) : ∀ (L : List (List Value)) (_ : ∀ r ∈ L, r.length = sz) (k : Nat), L.flatten.take (k * sz) = (L.take k).flatten
  | [], _, k => by simp
  | r :: t, _, 0 => by simp
  | r :: t, hr, k + 1 => by
    have e := hr r (by simp)
    have ih := flat_take sz t (fun r hr' => hr r (by simp [hr'])) k
    rw [List.flatten_cons, List.take_succ_cons, List.flatten_cons, List.take_append, List.take_of_length_le (by rw [e, Nat.succ_mul]; omega), e, show (k + 1) * sz - sz = k * sz by rw [Nat.succ_mul]; omega, ih]
theorem flat_drop (sz : Nat) : ∀ (L : List (List Value)) (_ : ∀ r ∈ L, r.length = sz) (k : Nat), L.flatten.drop (k * sz) = (L.drop k).flatten
  | [], _, k => by simp
  | r :: t, _, 0 => by simp
  | r :: t, hr, k + 1 => by
    have e := hr r (by simp)
    have ih := flat_drop sz t (fun r hr' => hr r (by simp [hr'])) k
    rw [List.flatten_cons, List.drop_succ_cons, List.drop_append, List.drop_of_length_le (by rw [e, Nat.succ_mul]; omega), e, show (k + 1) * sz - sz = k * sz by rw [Nat.succ_mul]; omega, ih, List.nil_append]
theorem flat_set (sz : Nat) : ∀ (L : List (List Value)) (_ : ∀ r ∈ L, r.length = sz) (p : Nat) (hp : p < L.length) (j : Nat) (_ : j < sz) (u : Value), L.flatten.set (p * sz + j) u = (L.set p (L[p].set j u)).flatten
  | r :: t, hr, 0, _, j, hj, u => by
    have e := hr r (by simp)
    rw [Nat.zero_mul, Nat.zero_add, List.flatten_cons, List.set_append_left _ _ (by omega)]
    rfl
  | r :: t, hr, p + 1, hp, j, hj, u => by
    have e := hr r (by simp)
    have ih := flat_set sz t (fun r hr' => hr r (by simp [hr'])) p (by simpa using hp) j hj u
    rw [List.flatten_cons, List.set_append_right _ _ (by rw [e, Nat.succ_mul]; omega), e, show (p + 1) * sz + j - sz = p * sz + j by rw [Nat.succ_mul]; omega, ih]
    rfl
/-- The first of a row. -/
theorem row_takeF {W : World} {base g n cap sz : Nat} {e : TypeId} {xs : List Value} (h : W.ownsRow base e sz (.slice (some ⟨g, 0, none⟩) n cap) n xs) {k : Nat} (hk : k ≤ n) : W.ownsRow base e sz (.slice (some ⟨g, 0, none⟩) k cap) k (xs.take (k * sz)) := by
  have hl := h.1
  have hm : k * sz ≤ n * sz := Nat.mul_le_mul_right sz hk
  rcases h.2 with ⟨h', _⟩ | ⟨g', cap', cur, h', hb, hg, h1, h2, h3, h4⟩
  · simp at h'
  · simp only [Value.slice.injEq, Option.some.injEq, Addr.mk.injEq, and_true] at h'
    obtain ⟨rfl, _, rfl⟩ := h'
    refine ⟨by simp; omega, .inr ⟨g, cap, cur, rfl, hb, hg, by omega, h2, h3, ?_⟩⟩
    rw [← h4, List.take_take, Nat.min_eq_left hm]
theorem row_cap {W : World} {base g n cap sz : Nat} {e : TypeId} {k : Nat} {xs : List Value} (h : W.ownsRow base e sz (.slice (some ⟨g, 0, none⟩) n cap) k xs) : n = k ∧ n ≤ cap ∧ cap ≤ 9223372036854775807 := by
  rcases h.2 with ⟨h', _⟩ | ⟨g', cap', cur, h', hb, hg, h1, h2, h3, h4⟩
  · simp at h'
  · simp only [Value.slice.injEq, Option.some.injEq, Addr.mk.injEq, and_true] at h'
    obtain ⟨rfl, rfl, rfl⟩ := h'
    simp only [maxLen] at h2
    exact ⟨rfl, h1, by omega⟩
theorem RdF.drop {sz : Nat} {w : World} {g off n c : Nat} {L : List (List Value)} (h : RdF sz w (.slice (some ⟨g, off, none⟩) n c) L) (k : Nat) (hk : k ≤ L.length) : RdF sz w (.slice (some ⟨g, off + k * sz, none⟩) (n - k) (c - k)) (L.drop k) := by
  obtain ⟨a', c', he, h1, h2, h3, h4⟩ := h
  simp only [Value.slice.injEq] at he
  obtain ⟨ha, rfl, rfl⟩ := he
  refine ⟨_, c - k, by rw [List.length_drop], by rw [List.length_drop]; omega, by rw [List.length_drop]; omega, by omega, fun hne => ⟨g, off + k * sz, rfl, fun i hi j u hu => ?_⟩⟩
  obtain ⟨b, o, hb, hc⟩ := h4 (by intro e; apply hne; simp [e])
  rw [← ha] at hb
  simp only [Option.some.injEq, Addr.mk.injEq, and_true] at hb
  obtain ⟨rfl, rfl⟩ := hb
  have hi' : k + i < L.length := by rw [List.length_drop] at hi; omega
  have := hc (k + i) hi' j u (by rw [List.getElem_drop] at hu; exact hu)
  rw [show off + k * sz + i * sz + j = off + (k + i) * sz + j by rw [Nat.add_mul]; omega]
  exact this
theorem RdF.empty {sz : Nat} {w : World} {a : Addr} {c : Nat} (hc : c ≤ 9223372036854775807) : RdF sz w (.slice (some a) 0 c) [] := ⟨_, c, rfl, by simp, by simp, hc, fun h => absurd rfl h⟩
/-- What stands from p on in a row of the call's own, wherever the slice is said to lie. -/
theorem rdf_behind {W : World} {base g cap sz p : Nat} {e : TypeId} {L : List (List Value)} (hr : ∀ r ∈ L, r.length = sz) (h : W.ownsRow base e sz (.slice (some ⟨g, 0, none⟩) L.length cap) L.length L.flatten) (hp : p ≤ L.length)
    {A : Option Addr} (hA : (if cap = p then (some ⟨g, 0, none⟩ : Option Addr) else some ⟨g, p * sz, none⟩) = A) : RdF sz W (.slice A (L.length - p) (cap - p)) (L.drop p) := by
  obtain ⟨_, h1, h2⟩ := row_cap h
  by_cases hc : cap = p
  · rw [if_pos hc] at hA
    have e1 : L.length - p = 0 := by omega
    rw [← hA, e1, List.drop_eq_nil_of_le (by omega)]
    exact RdF.empty (by omega)
  · rw [if_neg hc] at hA
    rw [← hA]
    have := (RdF.of_row hr h).drop p hp
    simpa using this
/-- An append of rows to a row of the call's own, in a region that draws. -/
theorem step_appendF {P : Program} {w : World} {ops : Array Oper} {o : Oper} {a : Act} {K : Act → World → Prop} {Q : Exit → Act → World → Prop} {N : Prop} (hgd : o.guard = none) (s x : Operand) (t : TypeId)
    (ho : o.op = .call { callee := .builtin .append, args := #[s, x], argTypes := #[t, t] }) (base : Nat) (e : TypeId) (i : TypeInfo) (z : Value) (size bytes : Nat) (ht : P.underlying t = some (.slice e)) (hi : P.info? e = some i) (hz : i.zero = some z)
    (hsize : i.size = size) (hby : i.bytes = bytes) (hzs : z.cells.size = size) (hsz : 0 < size)
    (v : Value) (n : Nat) (xs : List Value) (hs : a.eval s = v) (hown : w.ownsRow base e size v n xs)
    (y : Value) (L : List (List Value)) (hL : ∀ r ∈ L, r.length = size) (hone : ∀ u ∈ L.flatten, u.oneCell' = true) (hx : a.eval x = y) (hy : RdF size w y L) (hnil : ∀ c, y = .slice none 0 c → c = 0)
    (h63 : n + L.length ≤ maxLen) (hbytes : (n + L.length) * bytes ≤ 140737488355328) (hbase : base ≤ w.heap.size)
    (hK : ∀ v' w', w'.ownsRow base e size v' (n + L.length) (xs ++ L.flatten) → w.grownBy w' v.ownBlock → K (a.put o.dst v') w') :
    if Region.wanted o (yielded ops a.tmps) = true then Oper.wp P o a w K Q else N := by
  have hw : Region.wanted o (yielded ops a.tmps) = true := by simp [Region.wanted, hgd]
  rw [if_pos hw]
  obtain ⟨ad, cap, rfl, h1, h2, h3, h4⟩ := hy
  by_cases hne : L = []
  · subst hne
    cases ad with
    | none =>
      obtain rfl := hnil cap rfl
      have hrun := run_append_owned_none (P := P) (w := w) base t o.type e i size ht hi v n xs hown
      unfold Oper.wp
      simp only [List.length_nil] at hx
      simp [execOp, ho, resolve, invoke, builtin, hs, hx, hrun, Result.andThen]
      exact hK v w (by simpa using hown) ⟨rfl, rfl, rfl, Nat.le_refl _, fun _ _ _ => rfl⟩
    | some ad =>
      exact wp_append_own w s x t ho base e i z size bytes ht hi hz hsize hby hzs hsz v n xs hs hown ad 0 cap [] hx (by simp) (by simp) (by simp) h63 hbytes hbase (fun v' w' g1 g2 _ => hK v' w' (by simpa using g1) g2)
  · obtain ⟨b, off, rfl, hc⟩ := h4 hne
    refine wp_append_own w s x t ho base e i z size bytes ht hi hz hsize hby hzs hsz v n xs hs hown ⟨b, off, none⟩ L.length cap L.flatten hx (flat_len size L hL) ?_ hone h63 hbytes hbase (fun v' w' g1 g2 _ => hK v' w' g1 g2)
    intro j u hj
    have hjl : j < L.length * size := by
      have := (List.getElem?_eq_some_iff.1 hj).1
      rwa [flat_len size L hL] at this
    have hq : j / size < L.length := Nat.div_lt_of_lt_mul (by rwa [Nat.mul_comm] at hjl)
    have hr : j % size < size := Nat.mod_lt _ hsz
    have ej : j = j / size * size + j % size := by rw [Nat.mul_comm]; exact (Nat.div_add_mod j size).symm
    have hf := flat_at size L hL (j / size) hq (j % size) hr
    rw [← ej, hj] at hf
    have := hc (j / size) hq (j % size) u hf.symm
    rw [Addr.add_lit]
    rw [show off + j = off + j / size * size + j % size by rw [Nat.add_assoc, ← ej]]
    exact this
/-- What an append of rows to a row of the call's own comes to. -/
theorem run_append_rows {P : Program} {w : World} (t ty : TypeId) (base : Nat) (e : TypeId) (i : TypeInfo) (z : Value) (size bytes : Nat) (ht : P.underlying t = some (.slice e)) (hi : P.info? e = some i) (hz : i.zero = some z)
    (hsize : i.size = size) (hby : i.bytes = bytes) (hzs : z.cells.size = size) (hsz : 0 < size) (g cap n : Nat) (xs : List Value) (hown : w.ownsRow base e size (.slice (some ⟨g, 0, none⟩) n cap) n xs)
    (y : Value) (L : List (List Value)) (hL : ∀ r ∈ L, r.length = size) (hone : ∀ u ∈ L.flatten, u.oneCell' = true) (hy : RdF size w y L) (hnil : ∀ c, y = .slice none 0 c → c = 0)
    (h63 : n + L.length ≤ maxLen) (hbytes : (n + L.length) * bytes ≤ 140737488355328) (hbase : base ≤ w.heap.size) :
    ∃ g' cap' w', (Builtin.append_ #[t, t] ty #[.slice (some ⟨g, 0, none⟩) n cap, y]).run P w = .ok (.slice (some ⟨g', 0, none⟩) (n + L.length) cap') w' ∧ w'.ownsRow base e size (.slice (some ⟨g', 0, none⟩) (n + L.length) cap') (n + L.length) (xs ++ L.flatten) ∧ w.grownBy w' (some g) := by
  obtain ⟨ad, c, rfl, h1, h2, h3, h4⟩ := hy
  by_cases hne : L = []
  · subst hne
    cases ad with
    | none =>
      obtain rfl := hnil c rfl
      exact ⟨g, cap, w, run_append_owned_none (P := P) (w := w) base t ty e i size ht hi _ n xs hown, by simpa using hown, rfl, rfl, rfl, Nat.le_refl _, fun _ _ _ => rfl⟩
    | some ad =>
      subst hsize
      rcases hown.2 with ⟨h', _⟩ | ⟨g', cap', cur, h', hbg, hgb, hnc, hcm, hcs, htake⟩
      · simp at h'
      · simp only [Value.slice.injEq, Option.some.injEq, Addr.mk.injEq, and_true] at h'
        obtain ⟨rfl, _, rfl⟩ := h'
        have hr := run_append_room (P := P) w t ty e i ht hi g n cap cur hgb ad 0 c [] (by simp) (by simp) (by simp) (by omega) (by rw [hcs]; simpa using Nat.mul_le_mul_right _ hnc)
        refine ⟨g, cap, _, hr, ⟨by simpa using hown.1, .inr ⟨g, cap, _, rfl, hbg, setRow_heap w g cur _ e _ hgb, hnc, hcm, ?_, ?_⟩⟩, ⟨rfl, rfl, rfl, by simp, fun k _ hk => setRow_other w g k _ (fun e => hk (by rw [e]))⟩⟩
        · have hle : n * i.size ≤ cur.size := by rw [hcs]; exact Nat.mul_le_mul_right _ hnc
          simp only [List.size_toArray, List.length_append, List.length_take, List.length_drop, Array.length_toList, List.append_nil, List.length_nil, Nat.add_zero]
          have := hown.1
          omega
        · rw [htake, List.flatten_nil, List.append_nil]
          have : n * i.size = xs.length := hown.1.symm
          simp [this]
  · obtain ⟨b, off, rfl, hc⟩ := h4 hne
    obtain ⟨v', w', q1, q2, q3, _⟩ := run_append_own (P := P) w base t ty e i z size bytes ht hi hz hsize hby hzs hsz _ n xs hown ⟨b, off, none⟩ L.length c L.flatten (flat_len size L hL) (fun j u hj => by
      have hjl : j < L.length * size := by
        have := (List.getElem?_eq_some_iff.1 hj).1
        rwa [flat_len size L hL] at this
      have hq : j / size < L.length := Nat.div_lt_of_lt_mul (by rwa [Nat.mul_comm] at hjl)
      have hr : j % size < size := Nat.mod_lt _ hsz
      have ej : j = j / size * size + j % size := by rw [Nat.mul_comm]; exact (Nat.div_add_mod j size).symm
      have hf := flat_at size L hL (j / size) hq (j % size) hr
      rw [← ej, hj] at hf
      have := hc (j / size) hq (j % size) u hf.symm
      rw [Addr.add_lit]
      rw [show off + j = off + j / size * size + j % size by rw [Nat.add_assoc, ← ej]]
      exact this) hone h63 hbytes hbase
    have hpos : 0 < L.length := List.length_pos_iff.2 hne
    rcases q2.2 with ⟨_, h0⟩ | ⟨g', c', _, h2', _⟩
    · omega
    · subst h2'
      exact ⟨g', c', w', q1, q2, q3⟩
/-- The same at a step of a region that draws, and at one of a list. -/
theorem step_appendG {P : Program} {w : World} {ops : Array Oper} {o : Oper} {a : Act} {K : Act → World → Prop} {Q : Exit → Act → World → Prop} {N : Prop} (hgd : o.guard = none) (s x : Operand) (t : TypeId)
    (ho : o.op = .call { callee := .builtin .append, args := #[s, x], argTypes := #[t, t] }) (base : Nat) (e : TypeId) (i : TypeInfo) (z : Value) (size bytes : Nat) (ht : P.underlying t = some (.slice e)) (hi : P.info? e = some i) (hz : i.zero = some z)
    (hsize : i.size = size) (hby : i.bytes = bytes) (hzs : z.cells.size = size) (hsz : 0 < size) (g cap n : Nat) (xs : List Value) (hs : a.eval s = .slice (some ⟨g, 0, none⟩) n cap) (hown : w.ownsRow base e size (.slice (some ⟨g, 0, none⟩) n cap) n xs)
    (y : Value) (L : List (List Value)) (hL : ∀ r ∈ L, r.length = size) (hone : ∀ u ∈ L.flatten, u.oneCell' = true) (hx : a.eval x = y) (hy : RdF size w y L) (hnil : ∀ c, y = .slice none 0 c → c = 0)
    (h63 : n + L.length ≤ maxLen) (hbytes : (n + L.length) * bytes ≤ 140737488355328) (hbase : base ≤ w.heap.size)
    (hK : ∀ g' cap' w', w'.ownsRow base e size (.slice (some ⟨g', 0, none⟩) (n + L.length) cap') (n + L.length) (xs ++ L.flatten) → w.grownBy w' (some g) → K (a.put o.dst (.slice (some ⟨g', 0, none⟩) (n + L.length) cap')) w') :
    if Region.wanted o (yielded ops a.tmps) = true then Oper.wp P o a w K Q else N := by
  have hw : Region.wanted o (yielded ops a.tmps) = true := by simp [Region.wanted, hgd]
  rw [if_pos hw]
  obtain ⟨g', cap', w', hrun, r1, r2⟩ := run_append_rows (P := P) (w := w) t o.type base e i z size bytes ht hi hz hsize hby hzs hsz g cap n xs hown y L hL hone hy hnil h63 hbytes hbase
  unfold Oper.wp
  simp [execOp, ho, resolve, invoke, builtin, hs, hx, hrun, Result.andThen]
  exact hK g' cap' w' r1 r2
theorem wpList_appendG {P : Program} {w : World} {ops : Array Oper} {rest : List Oper} {o : Oper} {a : Act} {Q : Exit → Act → World → Prop} (hgd : o.guard = none) (s x : Operand) (t : TypeId)
    (ho : o.op = .call { callee := .builtin .append, args := #[s, x], argTypes := #[t, t] }) (base : Nat) (e : TypeId) (i : TypeInfo) (z : Value) (size bytes : Nat) (ht : P.underlying t = some (.slice e)) (hi : P.info? e = some i) (hz : i.zero = some z)
    (hsize : i.size = size) (hby : i.bytes = bytes) (hzs : z.cells.size = size) (hsz : 0 < size) (g cap n : Nat) (xs : List Value) (hs : a.eval s = .slice (some ⟨g, 0, none⟩) n cap) (hown : w.ownsRow base e size (.slice (some ⟨g, 0, none⟩) n cap) n xs)
    (y : Value) (L : List (List Value)) (hL : ∀ r ∈ L, r.length = size) (hone : ∀ u ∈ L.flatten, u.oneCell' = true) (hx : a.eval x = y) (hy : RdF size w y L) (hnil : ∀ c, y = .slice none 0 c → c = 0)
    (h63 : n + L.length ≤ maxLen) (hbytes : (n + L.length) * bytes ≤ 140737488355328) (hbase : base ≤ w.heap.size)
    (h : ∀ g' cap' w', w'.ownsRow base e size (.slice (some ⟨g', 0, none⟩) (n + L.length) cap') (n + L.length) (xs ++ L.flatten) → w.grownBy w' (some g) → wpList P ops Q rest (a.put o.dst (.slice (some ⟨g', 0, none⟩) (n + L.length) cap')) w') : wpList P ops Q (o :: rest) a w := by
  refine wpList_plain hgd fun K hK => ?_
  obtain ⟨g', cap', w', hrun, r1, r2⟩ := run_append_rows (P := P) (w := w) t o.type base e i z size bytes ht hi hz hsize hby hzs hsz g cap n xs hown y L hL hone hy hnil h63 hbytes hbase
  unfold Oper.wp
  simp [execOp, ho, resolve, invoke, builtin, hs, hx, hrun, Result.andThen]
  exact hK _ _ (h g' cap' w' r1 r2)
/-- A row's cell may be written; what it is then. -/
theorem row_free {W : World} {base g n cap sz : Nat} {e : TypeId} {k : Nat} {xs : List Value} (h : W.ownsRow base e sz (.slice (some ⟨g, 0, none⟩) n cap) k xs) (j : Nat) : W.frozen? ⟨g, j, none⟩ = false := by
  rcases h.2 with ⟨h', _⟩ | ⟨g', cap', cur, h', hb, hg, _⟩
  · simp at h'
  · simp only [Value.slice.injEq, Option.some.injEq, Addr.mk.injEq, and_true] at h'
    obtain ⟨rfl, _, rfl⟩ := h'
    exact frozen_of_row W g j cur _ hg
end Go.Proofs.Ytcgjiddiegepkaa

/- hblref11's Store as it lies: rows of keys, each with its versions. -/
namespace Go.Proofs.Ytcgjiddiegepkaa
open Go.RowKit

/-- The block that a slice lies in. -/
def sBlk : Value → Option Nat
  | .slice (some a) _ _ => some a.block
  | _ => none
theorem own_sBlk {v : Value} {j : Nat} (h : v.ownBlock = some j) : sBlk v = some j := by
  cases v <;> simp [Value.ownBlock, sBlk] at h ⊢
  next a n c =>
    cases a <;> simp_all
theorem RdF.frm {F : Nat → Prop} {sz : Nat} {w w' : World} {v : Value} {L : List (List Value)} (h : RdF sz w v L) (hf : Frm F w w') (hn : ∀ j, sBlk v = some j → ¬ F j) : RdF sz w' v L := by
  obtain ⟨a, cap, hv, h1, h2, h3, h4⟩ := h
  refine ⟨a, cap, hv, h1, h2, h3, fun hl => ?_⟩
  obtain ⟨b, off, ha, hc⟩ := h4 hl
  refine ⟨b, off, ha, fun i hi j u hu => ?_⟩
  have h5 := hc i hi j u hu
  have hlt := World.block_lt_of_cell? w _ h5
  have hb : ¬ F b := hn b (by rw [hv, ha]; rfl)
  rw [← h5]
  have e := hf.block b hlt hb
  simp only [World.cell?, e]
/-- A row: its key, the slice of its versions, they. -/
abbrev RRow := List UInt8 × Value × List VerVS
def cellsR (r : RRow) : List Value := [str r.1, r.2.1]
theorem cellsR_len (l : List RRow) : ∀ r ∈ l.map cellsR, r.length = 2 := by
  intro r hr; obtain ⟨p, _, rfl⟩ := List.mem_map.1 hr; rfl
def chR (R : List RRow) : ChC := R.map (fun r => (r.1, r.2.2))
theorem chR_len (R : List RRow) : (chR R).length = R.length := by simp [chR]
/-- A store as it lies: its box, its rows in a row of their own, each chain in blocks of other kinds. -/
structure RS (W : World) (B b : Nat) (vo : Value) (R : List RRow) (low : Int) : Prop where
  box : W.heap[b]? = some (.cells #[vo, .int .i64 low] 69 (0, 0))
  row : W.ownsRow B 118 2 vo R.length (R.map cellsR).flatten
  ch : ∀ r ∈ R, RdVS W r.2.1 r.2.2 ∧ (∀ c, r.2.1 = .slice none 0 c → c = 0) ∧ ∀ j, sBlk r.2.1 = some j → B ≤ j ∧ ∃ cs z, W.heap[j]? = some (.cells cs 93 z)
  rs : RisB (chR R)
  lt : B ≤ b
variable {W : World} {B b : Nat} {vo : Value} {R : List RRow} {low : Int}
theorem RS.blt (h : RS W B b vo R low) : b < W.heap.size := (Array.getElem?_eq_some_iff.1 h.box).1
theorem RS.cells (h : RS W B b vo R low) : W.cell? ⟨b, 0, none⟩ = some vo ∧ W.cell? ⟨b, 1, none⟩ = some (.int .i64 low) ∧ W.frozen? ⟨b, 0, none⟩ = false ∧ W.frozen? ⟨b, 1, none⟩ = false := by
  have hb := h.box
  exact ⟨by simp [World.cell?, hb], by simp [World.cell?, hb], frozen_of_row W b 0 _ _ hb, frozen_of_row W b 1 _ _ hb⟩
/-- The rows' block is not the box. -/
theorem RS.ne (h : RS W B b vo R low) : vo.ownBlock ≠ some b := by
  intro e
  rcases h.row.2 with ⟨rfl, _⟩ | ⟨g, cap, cur, rfl, _, hg, _⟩
  · cases e
  · simp only [Value.ownBlock, Option.some.injEq] at e
    subst e
    rw [h.box] at hg
    simp at hg
/-- The blocks that a call of it may turn. -/
def BlkR (b : Nat) (vo : Value) (k : Nat) : Prop := k = b ∨ vo.ownBlock = some k
theorem RS.five (h : RS W B b vo R low) : ∀ k, BlkR b vo k → ∀ cs T z, W.heap[k]? = some (.cells cs T z) → cs.size ≠ 5 := by
  intro k hk cs T z hc
  rcases hk with rfl | hk
  · rw [h.box] at hc
    simp only [Option.some.injEq, Obj.cells.injEq] at hc
    obtain ⟨rfl, _, _⟩ := hc
    simp
  · obtain ⟨cap, e⟩ := owns_size h.row hk hc
    omega
theorem RS.blk (h : RS W B b vo R low) : ∀ k, BlkR b vo k → B ≤ k ∧ k < W.heap.size := by
  intro k hk
  rcases hk with rfl | hk
  · exact ⟨h.lt, h.blt⟩
  · exact h.row.lt k hk
/-- A chain's block is none of these. -/
theorem RS.apart (h : RS W B b vo R low) {r : RRow} (hr : r ∈ R) {j : Nat} (hj : sBlk r.2.1 = some j) : ¬ BlkR b vo j := by
  obtain ⟨_, cs, z, h5⟩ := (h.ch r hr).2.2 j hj
  rintro (rfl | e)
  · rw [h.box] at h5; simp at h5
  · rcases h.row.2 with ⟨rfl, _⟩ | ⟨g, cap, cur, rfl, _, hg, _⟩
    · cases e
    · simp only [Value.ownBlock, Option.some.injEq] at e
      subst e
      rw [h5] at hg
      simp at hg
/-- It stands when other blocks turn. -/
theorem RS.frm {F : Nat → Prop} {W' : World} (h : RS W B b vo R low) (hf : Frm F W W') (hb : ∀ k, BlkR b vo k → ¬ F k) (hc : ∀ r ∈ R, ∀ j, sBlk r.2.1 = some j → ¬ F j) : RS W' B b vo R low := by
  refine ⟨by rw [hf.block b h.blt (hb b (.inl rfl))]; exact h.box, owns_frm h.row hf (fun k hk => hb k (.inr hk)), fun r hr => ?_, h.rs, h.lt⟩
  obtain ⟨h1, h2, h3⟩ := h.ch r hr
  refine ⟨RdF.frm h1 hf (hc r hr), h2, fun j hj => ?_⟩
  obtain ⟨h4, cs, z, h5⟩ := h3 j hj
  exact ⟨h4, cs, z, by rw [hf.block j (Array.getElem?_eq_some_iff.1 h5).1 (hc r hr j hj)]; exact h5⟩
theorem RS.below {W' : World} (h : RS W B b vo R low) (hb : Below W.heap.size W W') : RS W' B b vo R low :=
  h.frm (F := fun _ => False) (Frm.of_below hb) (fun _ _ h => h) (fun _ _ _ _ h => h)
theorem RS.drewN (h : RS W B b vo R low) (q : Nat) : RS (W.drewN q) B b vo R low := h.below (Below.drewsN (Below.refl _ _) q)
theorem RS.rd (h : RS W B b vo R low) : RdF 2 W vo (R.map cellsR) := RdF.of_row (cellsR_len R) (by simpa using h.row)
/-- A row's cells. -/
theorem RS.get (h : RS W B b vo R low) {i : Nat} (hi : i < R.length) : ∃ g cap, vo = .slice (some ⟨g, 0, none⟩) R.length cap ∧ W.cell? ⟨g, i * 2, none⟩ = some (str R[i].1) ∧ W.cell? ⟨g, i * 2 + 1, none⟩ = some R[i].2.1 := by
  rcases h.row.2 with ⟨rfl, h0⟩ | ⟨g, cap, cur, rfl, _, hg, _⟩
  · omega
  · refine ⟨g, cap, rfl, ?_⟩
    obtain ⟨a', c', he, _, _, _, h4⟩ := h.rd
    simp only [Value.slice.injEq] at he
    obtain ⟨rfl, _, rfl⟩ := he
    obtain ⟨b', off, ha, hc⟩ := h4 (by intro e; rw [List.map_eq_nil_iff] at e; rw [e] at hi; simp at hi)
    simp only [Option.some.injEq, Addr.mk.injEq, and_true] at ha
    obtain ⟨rfl, rfl⟩ := ha
    have hi' : i < (R.map cellsR).length := by simpa using hi
    have q0 := hc i hi' 0 (str R[i].1) (by simp [cellsR])
    have q1 := hc i hi' 1 R[i].2.1 (by simp [cellsR])
    rw [Nat.zero_add] at q0 q1
    exact ⟨q0, q1⟩
theorem RS.form (h : RS W B b vo R low) : ∃ a cap, vo = .slice a R.length cap := by
  obtain ⟨a, cap, hv, _⟩ := h.rd
  exact ⟨a, cap, by rw [hv, List.length_map]⟩
/-- The place of a key. -/
structure PlaceB {Y : Type} (key : List UInt8) (C : List (List UInt8 × Y)) (p : Nat) : Prop where
  le : p ≤ C.length
  lo : ∀ j (h : j < C.length), j < p → Op.bytesLess C[j].1 key = true
  hi : ∀ j (h : j < C.length), p ≤ j → Op.bytesLess C[j].1 key = false
theorem blB_irr (a : List UInt8) : Op.bytesLess a a = false := bl_irr a
theorem getB_at {Y : Type} (key : List UInt8) : ∀ {C : List (List UInt8 × Y)} {p : Nat}, RisB C → PlaceB key C p → getB key C = if h : p < C.length then (if C[p].1 = key then some C[p].2 else none) else none
  | [], p, _, _ => by simp [getB]
  | (k', y') :: t, 0, hr, hp => by
    have h0 := hp.hi 0 (by simp) (Nat.le_refl _)
    simp only [List.getElem_cons_zero] at h0
    unfold getB
    by_cases e : Op.bytesLess key k' = true
    · have hne : ¬ k' = key := by rintro rfl; rw [bl_irr] at e; cases e
      simp [e, hne]
    · have e' : Op.bytesLess key k' = false := by simpa using e
      have : k' = key := bl_tot _ _ h0 e'
      subst this
      simp [bl_irr]
  | (k', y') :: t, p + 1, hr, hp => by
    have h0 := hp.lo 0 (by simp) (by omega)
    simp only [List.getElem_cons_zero] at h0
    have h1 : Op.bytesLess key k' = false := by
      cases e : Op.bytesLess key k' with
      | false => rfl
      | true => have := bl_tr _ _ _ h0 e; rw [bl_irr] at this; cases this
    have ih := getB_at key (C := t) (p := p) (List.pairwise_cons.1 hr).2 ⟨by have := hp.le; simpa using this, fun j h hj => hp.lo (j + 1) (by simpa using h) (by omega), fun j h hj => hp.hi (j + 1) (by simpa using h) (by omega)⟩
    unfold getB
    rw [if_neg (by simp [h1]), if_pos h0, ih]
    simp
theorem insB_at {Y : Type} (key : List UInt8) (y : Y) : ∀ {C : List (List UInt8 × Y)} {p : Nat}, PlaceB key C p → insB key y C = if (∃ h : p < C.length, C[p].1 = key) then C.take p ++ (key, y) :: C.drop (p + 1) else C.take p ++ (key, y) :: C.drop p
  | [], p, hp => by
    have := hp.le
    obtain rfl : p = 0 := by simpa using this
    simp [insB]
  | (k', y') :: t, 0, hp => by
    have h0 := hp.hi 0 (by simp) (Nat.le_refl _)
    simp only [List.getElem_cons_zero] at h0
    unfold insB
    by_cases e : Op.bytesLess key k' = true
    · rw [if_pos e, if_neg (by rintro ⟨_, h⟩; simp at h; subst h; rw [bl_irr] at e; cases e)]
      simp
    · have e' : Op.bytesLess key k' = false := by simpa using e
      have : k' = key := bl_tot _ _ h0 e'
      rw [if_neg e, if_neg (by simp [h0]), if_pos ⟨by simp, by simpa using this⟩]
      simp
  | (k', y') :: t, p + 1, hp => by
    have h0 := hp.lo 0 (by simp) (by omega)
    simp only [List.getElem_cons_zero] at h0
    have h1 : Op.bytesLess key k' = false := by
      cases e : Op.bytesLess key k' with
      | false => rfl
      | true => have := bl_tr _ _ _ h0 e; rw [bl_irr] at this; cases this
    have ih := insB_at key y (C := t) (p := p) ⟨by have := hp.le; simpa using this, fun j h hj => hp.lo (j + 1) (by simpa using h) (by omega), fun j h hj => hp.hi (j + 1) (by simpa using h) (by omega)⟩
    unfold insB
    rw [if_neg (by simp [h1]), if_pos h0, ih]
    have e : (∃ h : p + 1 < ((k', y') :: t).length, ((k', y') :: t)[p + 1].1 = key) ↔ (∃ h : p < t.length, t[p].1 = key) := by
      constructor
      · rintro ⟨h, e⟩; exact ⟨by simpa using h, e⟩
      · rintro ⟨h, e⟩; exact ⟨by simpa using h, e⟩
    by_cases g : ∃ h : p < t.length, t[p].1 = key
    · rw [if_pos g, if_pos (e.2 g)]
      simp
    · rw [if_neg g, if_neg (fun q => g (e.1 q))]
      simp
end Go.Proofs.Ytcgjiddiegepkaa

/- hblref11's find: the place of a key. -/
namespace Go.Proofs.Ytcgjiddiegepkaa
open Go.RowKit

def FindP (W : World) (R : List RRow) (key : List UInt8) (e : Ending) (w' : World) : Prop :=
  ∃ (p : Nat) (z : Bool), e = .returned (.tuple #[.int .i64 (p : Int), .bool z]) ∧ PlaceB key (chR R) p ∧ (z = true ↔ ∃ h : p < R.length, R[p].1 = key) ∧ Below W.heap.size W w'
theorem chR_key {R : List RRow} {i : Nat} (h : i < (chR R).length) (h' : i < R.length) : (chR R)[i].1 = R[i].1 := by simp [chR]
theorem rs_lt {R : List RRow} (h : RisB (chR R)) {i j : Nat} (hij : i < j) (hj : j < R.length) : Op.bytesLess (R[i]'(by omega)).1 R[j].1 = true := by
  have := (List.pairwise_iff_getElem.1 h) i j (by rw [chR_len]; omega) (by rw [chR_len]; exact hj) hij
  rwa [chR_key _ (by omega), chR_key _ hj] at this
theorem rs_up {R : List RRow} (h : RisB (chR R)) {key : List UInt8} {m : Nat} (hm : m < R.length) (hl : Op.bytesLess R[m].1 key = true) : ∀ k (hk : k < R.length), k < m + 1 → Op.bytesLess R[k].1 key = true := by
  intro k hk hkm
  by_cases e : k = m
  · subst e; exact hl
  · exact bl_tr _ _ _ (rs_lt h (show k < m by omega) hm) hl
theorem rs_down {R : List RRow} (h : RisB (chR R)) {key : List UInt8} {m : Nat} (hm : m < R.length) (hl : Op.bytesLess R[m].1 key = false) : ∀ k (hk : k < R.length), m ≤ k → Op.bytesLess R[k].1 key = false := by
  intro k hk hkm
  by_cases e : k = m
  · subst e; exact hl
  · cases h2 : Op.bytesLess R[k].1 key with
    | false => rfl
    | true =>
      have := bl_tr _ _ _ (rs_lt h (show m < k by omega) hk) h2
      rw [hl] at this; cases this
set_option maxRecDepth 100000 in
set_option maxHeartbeats 8000000 in
theorem rfind_any {W : World} {B b : Nat} {vo : Value} {R : List RRow} {low : Int} (h : RS W B b vo R low) (hn : R.length ≤ 1000000) (key : List UInt8) :
    Calls Try.prog 63 #[.pointer (some ⟨b, 0, none⟩), str key] W (FindP W R key) := by
  obtain ⟨s0, _, _, _⟩ := h.cells
  obtain ⟨a, cap, rfl⟩ := h.form
  have HS := Lib.hid h
  clear h
  go_enter Try.func63, Try.ntmps63
  go_wp2_with fail
  go_quiet (fail)
  obtain ⟨W1, hW1⟩ : ∃ W1, W1 = W.drewN nq := ⟨_, rfl⟩
  rw [← hW1]
  have HW1 := Lib.hid hW1
  have s0 : W1.cell? ⟨b, 0, none⟩ = some (.slice a R.length cap) := by rw [hW1]; exact s0
  clear hW1
  go_wp2_with fail
  go_loopw [6, 7] (fun vi vj wr => ∃ i j : Nat, i ≤ j ∧ j ≤ R.length ∧ vi = .int .i64 (i : Int) ∧ vj = .int .i64 (j : Int) ∧ Hid ((∀ k (h : k < R.length), k < i → Op.bytesLess R[k].1 key = true) ∧ (∀ k (h : k < R.length), j ≤ k → Op.bytesLess R[k].1 key = false)) ∧ wr = W1) (fun vi vj _ => (intOf vj).toNat - (intOf vi).toNat)
  case atStart => exact ⟨0, R.length, Nat.zero_le _, Nat.le_refl _, rfl, rfl, Lib.hid ⟨fun _ _ h => absurd h (by omega), fun _ h h' => absurd h (by omega)⟩, rfl⟩
  case round =>
    obtain ⟨i, j, hij, hj, rfl, rfl, HI, rfl⟩ := hrel
    by_cases hlt : i < j
    · have g1 : (i : Int) < (j : Int) := by omega
      obtain ⟨m, hm⟩ : ∃ m, m = (i + j) / 2 := ⟨_, rfl⟩
      have hm1 : i ≤ m := by omega
      have hm2 : m < j := by omega
      have hmn : m < R.length := by omega
      have w1 : IntKind.i64.wrap ((i : Int) + (j : Int)) = (i : Int) + (j : Int) := IntWalk.i64_in _ ⟨by omega, by omega⟩
      have w2 : Int.tdiv ((i : Int) + (j : Int)) 2 = (m : Int) := by rw [Int.tdiv_eq_ediv_of_nonneg (by omega)]; omega
      have w3 : IntKind.i64.wrap (m : Int) = (m : Int) := IntWalk.i64_in _ ⟨by omega, by omega⟩
      have w4 : IntKind.i64.wrap ((m : Int) + 1) = (m : Int) + 1 := IntWalk.i64_in _ ⟨by omega, by omega⟩
      have g2 : (m : Int) < (R.length : Int) := by omega
      have g3 : (0 : Int) ≤ (m : Int) := by omega
      obtain ⟨g, cap', ha, c0, _⟩ := HS.out.get hmn
      simp only [Value.slice.injEq, true_and] at ha
      obtain ⟨rfl, rfl⟩ := ha
      have c1 : wr.cell? ⟨g, m * 2, none⟩ = some (str R[m].1) := by rw [HW1.out]; exact c0
      obtain ⟨y, hy⟩ : ∃ y, y = R[m].1 := ⟨_, rfl⟩
      rw [← hy] at c1
      have HY := Lib.hid hy
      clear c0 hm hy
      cases hl : Op.bytesLess y key with
      | true =>
        have HN := Lib.hid (And.intro (rs_up HS.out.rs hmn (by rw [← HY.out]; exact hl)) HI.out.2)
        go_wp2_with fail
        go_roundw
        case rel => exact ⟨m + 1, j, by omega, hj, by go_num, rfl, HN, by first | rfl | trivial⟩
        case measure => simp [intOf]; omega
      | false =>
        have HN := Lib.hid (And.intro HI.out.1 (rs_down HS.out.rs hmn (by rw [← HY.out]; exact hl)))
        go_wp2_with fail
        go_roundw
        case rel => exact ⟨i, m, by omega, by omega, rfl, rfl, HN, by first | rfl | trivial⟩
        case measure => simp [intOf]; omega
    · obtain rfl : i = j := by omega
      have g1 : ¬ (i : Int) < (i : Int) := by omega
      have HP : Hid (PlaceB key (chR R) i) := Lib.hid ⟨by rw [chR_len]; exact hj, fun k h hk => by rw [chR_key h (by rw [chR_len] at h; exact h)]; exact HI.out.1 k _ hk, fun k h hk => by rw [chR_key h (by rw [chR_len] at h; exact h)]; exact HI.out.2 k _ hk⟩
      by_cases hin : i < R.length
      · have g2 : (i : Int) < (R.length : Int) := by omega
        have g2d : decide ((i : Int) < (R.length : Int)) = true := by simp; omega
        have g3 : (0 : Int) ≤ (i : Int) := by omega
        obtain ⟨g, cap', ha, c0, _⟩ := HS.out.get hin
        simp only [Value.slice.injEq, true_and] at ha
        obtain ⟨rfl, rfl⟩ := ha
        have c1 : wr.cell? ⟨g, i * 2, none⟩ = some (str R[i].1) := by rw [HW1.out]; exact c0
        obtain ⟨y, hy⟩ : ∃ y, y = R[i].1 := ⟨_, rfl⟩
        rw [← hy] at c1
        obtain ⟨z, hz⟩ : ∃ z, z = (y == key) := ⟨_, rfl⟩
        have hz2 := hz.symm
        have HZ : Hid (z = true ↔ ∃ h : i < R.length, R[i].1 = key) := Lib.hid (by
          rw [hz, beq_iff_eq, hy]
          exact ⟨fun h => ⟨hin, h⟩, fun ⟨_, h⟩ => h⟩)
        clear c0 hy hz
        go_wp2_with fail
        go_quiet (fail)
        go_wp2_with fail
        go_ret2
        exact ⟨i, z, rfl, HP.out, HZ.out, by rw [HW1.out]; exact Below.drewsN (Below.drewsN (Below.refl _ _) _) _⟩
      · have g2 : ¬ (i : Int) < (R.length : Int) := by omega
        have g2d : decide ((i : Int) < (R.length : Int)) = false := by simp; omega
        go_wp2_with fail
        go_quiet (fail)
        go_wp2_with fail
        go_ret2
        exact ⟨i, false, rfl, HP.out, ⟨fun h => (by cases h), fun ⟨h, _⟩ => absurd h hin⟩, by rw [HW1.out]; exact Below.drewsN (Below.drewsN (Below.refl _ _) _) _⟩
end Go.Proofs.Ytcgjiddiegepkaa
