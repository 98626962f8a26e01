/- Joined: AppN2, RowIns, D21RefM, D21Diff, D21RFold, D21Plain, D21Reads, D21ReadsW. -/
import Derived.Test.YteibiaplmmdppaaRowsF
import Derived.Test.YteibiaplmmdppaaKit
import Derived.Deep.RegionHeld3
import Derived.Laws.AppendOwnNone
import Derived.Laws.OwnMore
import Derived.Test.YteibiaplmmdppaaD21FoldM
import Derived.Test.YteibiaplmmdppaaD21Chg
import Derived.Test.YteibiaplmmdppaaRdV
import Derived.Test.YteibiaplmmdppaaMrgMath
import Derived.Deep.RegionWith
import Derived.Deep.QuietTactic
import Derived.BigQuiet
import Derived.Test.YteibiaplmmdppaaD21First
import Derived.Test.YteibiaplmmdppaaD21Few
import Derived.Test.YteibiaplmmdppaaD21Some
import Derived.Test.YteibiaplmmdppaaD21Pairs
import Derived.Test.YteibiaplmmdppaaD21Fold
import Derived.Test.YteibiaplmmdppaaCountSS
import Derived.Deep.CutRange
namespace Go.Proofs.Yteibiaplmmdppaa
open Go.RowKit

/-- An append of rows to a row of the call's own. -/
theorem wpList_appendF {P : Program} {w : World} {ops : Array Oper} {rest : List Oper} {o : Oper} {a : Act} {Q : Exit → Act → World → Prop} (hgd : o.guard = none) (s x : Operand) (t : TypeId)
    (ho : o.op = .call { callee := .builtin .append, args := #[s, x], argTypes := #[t, t] }) (base : Nat) (e : TypeId) (i : TypeInfo) (z : Value) (size bytes : Nat) (ht : P.underlying t = some (.slice e)) (hi : P.info? e = some i) (hz : i.zero = some z)
    (hsize : i.size = size) (hby : i.bytes = bytes) (hzs : z.cells.size = size) (hsz : 0 < size)
    (v : Value) (n : Nat) (xs : List Value) (hs : a.eval s = v) (hown : w.ownsRow base e size v n xs)
    (y : Value) (L : List (List Value)) (hL : ∀ r ∈ L, r.length = size) (hone : ∀ u ∈ L.flatten, u.oneCell' = true) (hx : a.eval x = y) (hy : RdF size w y L) (hnil : ∀ c, y = .slice none 0 c → c = 0)
    (h63 : n + L.length ≤ maxLen) (hbytes : (n + L.length) * bytes ≤ 140737488355328) (hbase : base ≤ w.heap.size)
    (h : ∀ v' w', w'.ownsRow base e size v' (n + L.length) (xs ++ L.flatten) → w.grownBy w' v.ownBlock → wpList P ops Q rest (a.put o.dst v') w') : wpList P ops Q (o :: rest) a w := by
  obtain ⟨ad, cap, rfl, h1, h2, h3, h4⟩ := hy
  by_cases hne : L = []
  · subst hne
    cases ad with
    | none =>
      obtain rfl := hnil cap rfl
      exact wpList_append_own_none hgd s x t ho base e i size ht hi v n xs hs hown hx (h v w (by simpa using hown) ⟨rfl, rfl, rfl, Nat.le_refl _, fun _ _ _ => rfl⟩)
    | some ad =>
      exact wpList_append_own w hgd s x t ho base e i z size bytes ht hi hz hsize hby hzs hsz v n xs hs hown ad 0 cap [] hx (by simp) (by simp) (by simp) h63 hbytes hbase (fun v' w' g1 g2 _ => h v' w' (by simpa using g1) g2)
  · obtain ⟨b, off, rfl, hc⟩ := h4 hne
    refine wpList_append_own w hgd s x t ho base e i z size bytes ht hi hz hsize hby hzs hsz v n xs hs hown ⟨b, off, none⟩ L.length cap L.flatten hx (flat_len size L hL) ?_ hone h63 hbytes hbase (fun v' w' g1 g2 _ => h v' w' g1 g2)
    intro j u hj
    have hjl : j < L.length * size := by
      have := (List.getElem?_eq_some_iff.1 hj).1
      rwa [flat_len size L hL] at this
    have hq : j / size < L.length := Nat.div_lt_of_lt_mul (by rwa [Nat.mul_comm] at hjl)
    have hr : j % size < size := Nat.mod_lt _ hsz
    have ej : j = j / size * size + j % size := by rw [Nat.mul_comm]; exact (Nat.div_add_mod j size).symm
    have hf := flat_at size L hL (j / size) hq (j % size) hr
    rw [← ej, hj] at hf
    have := hc (j / size) hq (j % size) u hf.symm
    rw [Addr.add_lit]
    rw [show off + j = off + j / size * size + j % size by rw [Nat.add_assoc, ← ej]]
    exact this
/-- What is owned below a mark stays as it is. -/
theorem owns_below {w w' : World} {base B size n : Nat} {e : TypeId} {v : Value} {xs : List Value} (h : w.ownsRow base e size v n xs) (hb : Below B w w') (hB : w.heap.size ≤ B) : w'.ownsRow base e size v n xs := by
  refine ⟨h.1, ?_⟩
  rcases h.2 with hn | ⟨g, cap, cur, rfl, hb', hg, rest⟩
  · exact .inl hn
  · refine .inr ⟨g, cap, cur, rfl, hb', ?_, rest⟩
    rw [hb.block g (Nat.lt_of_lt_of_le (Array.getElem?_eq_some_iff.1 hg).1 hB)]
    exact hg
end Go.Proofs.Yteibiaplmmdppaa
namespace Go.Proofs.Yteibiaplmmdppaa
open Go.RowKit

theorem flat_take (sz : Nat) : ∀ (L : List (List Value)) (_ : ∀ r ∈ L, r.length = sz) (k : Nat), L.flatten.take (k * sz) = (L.take k).flatten
  | [], _, k => by simp
  | r :: t, _, 0 => by simp
  | r :: t, hr, k + 1 => by
    have e := hr r (by simp)
    have ih := flat_take sz t (fun r hr' => hr r (by simp [hr'])) k
    rw [List.flatten_cons, List.take_succ_cons, List.flatten_cons, List.take_append, List.take_of_length_le (by rw [e, Nat.succ_mul]; omega), e, show (k + 1) * sz - sz = k * sz by rw [Nat.succ_mul]; omega, ih]
theorem flat_drop (sz : Nat) : ∀ (L : List (List Value)) (_ : ∀ r ∈ L, r.length = sz) (k : Nat), L.flatten.drop (k * sz) = (L.drop k).flatten
  | [], _, k => by simp
  | r :: t, _, 0 => by simp
  | r :: t, hr, k + 1 => by
    have e := hr r (by simp)
    have ih := flat_drop sz t (fun r hr' => hr r (by simp [hr'])) k
    rw [List.flatten_cons, List.drop_succ_cons, List.drop_append, List.drop_of_length_le (by rw [e, Nat.succ_mul]; omega), e, show (k + 1) * sz - sz = k * sz by rw [Nat.succ_mul]; omega, ih, List.nil_append]
theorem flat_set (sz : Nat) : ∀ (L : List (List Value)) (_ : ∀ r ∈ L, r.length = sz) (p : Nat) (hp : p < L.length) (j : Nat) (_ : j < sz) (u : Value), L.flatten.set (p * sz + j) u = (L.set p (L[p].set j u)).flatten
  | r :: t, hr, 0, _, j, hj, u => by
    have e := hr r (by simp)
    rw [Nat.zero_mul, Nat.zero_add, List.flatten_cons, List.set_append_left _ _ (by omega)]
    rfl
  | r :: t, hr, p + 1, hp, j, hj, u => by
    have e := hr r (by simp)
    have ih := flat_set sz t (fun r hr' => hr r (by simp [hr'])) p (by simpa using hp) j hj u
    rw [List.flatten_cons, List.set_append_right _ _ (by rw [e, Nat.succ_mul]; omega), e, show (p + 1) * sz + j - sz = p * sz + j by rw [Nat.succ_mul]; omega, ih]
    rfl
/-- The first of a row. -/
theorem row_takeF {W : World} {base g n cap sz : Nat} {e : TypeId} {xs : List Value} (h : W.ownsRow base e sz (.slice (some ⟨g, 0, none⟩) n cap) n xs) {k : Nat} (hk : k ≤ n) : W.ownsRow base e sz (.slice (some ⟨g, 0, none⟩) k cap) k (xs.take (k * sz)) := by
  have hl := h.1
  have hm : k * sz ≤ n * sz := Nat.mul_le_mul_right sz hk
  rcases h.2 with ⟨h', _⟩ | ⟨g', cap', cur, h', hb, hg, h1, h2, h3, h4⟩
  · simp at h'
  · simp only [Value.slice.injEq, Option.some.injEq, Addr.mk.injEq, and_true] at h'
    obtain ⟨rfl, _, rfl⟩ := h'
    refine ⟨by simp; omega, .inr ⟨g, cap, cur, rfl, hb, hg, by omega, h2, h3, ?_⟩⟩
    rw [← h4, List.take_take, Nat.min_eq_left hm]
theorem row_cap {W : World} {base g n cap sz : Nat} {e : TypeId} {k : Nat} {xs : List Value} (h : W.ownsRow base e sz (.slice (some ⟨g, 0, none⟩) n cap) k xs) : n = k ∧ n ≤ cap ∧ cap ≤ 9223372036854775807 := by
  rcases h.2 with ⟨h', _⟩ | ⟨g', cap', cur, h', hb, hg, h1, h2, h3, h4⟩
  · simp at h'
  · simp only [Value.slice.injEq, Option.some.injEq, Addr.mk.injEq, and_true] at h'
    obtain ⟨rfl, rfl, rfl⟩ := h'
    simp only [maxLen] at h2
    exact ⟨rfl, h1, by omega⟩
theorem RdF.drop {sz : Nat} {w : World} {g off n c : Nat} {L : List (List Value)} (h : RdF sz w (.slice (some ⟨g, off, none⟩) n c) L) (k : Nat) (hk : k ≤ L.length) : RdF sz w (.slice (some ⟨g, off + k * sz, none⟩) (n - k) (c - k)) (L.drop k) := by
  obtain ⟨a', c', he, h1, h2, h3, h4⟩ := h
  simp only [Value.slice.injEq] at he
  obtain ⟨ha, rfl, rfl⟩ := he
  refine ⟨_, c - k, by rw [List.length_drop], by rw [List.length_drop]; omega, by rw [List.length_drop]; omega, by omega, fun hne => ⟨g, off + k * sz, rfl, fun i hi j u hu => ?_⟩⟩
  obtain ⟨b, o, hb, hc⟩ := h4 (by intro e; apply hne; simp [e])
  rw [← ha] at hb
  simp only [Option.some.injEq, Addr.mk.injEq, and_true] at hb
  obtain ⟨rfl, rfl⟩ := hb
  have hi' : k + i < L.length := by rw [List.length_drop] at hi; omega
  have := hc (k + i) hi' j u (by rw [List.getElem_drop] at hu; exact hu)
  rw [show off + k * sz + i * sz + j = off + (k + i) * sz + j by rw [Nat.add_mul]; omega]
  exact this
theorem RdF.empty {sz : Nat} {w : World} {a : Addr} {c : Nat} (hc : c ≤ 9223372036854775807) : RdF sz w (.slice (some a) 0 c) [] := ⟨_, c, rfl, by simp, by simp, hc, fun h => absurd rfl h⟩
/-- What stands from p on in a row of the call's own, wherever the slice is said to lie. -/
theorem rdf_behind {W : World} {base g cap sz p : Nat} {e : TypeId} {L : List (List Value)} (hr : ∀ r ∈ L, r.length = sz) (h : W.ownsRow base e sz (.slice (some ⟨g, 0, none⟩) L.length cap) L.length L.flatten) (hp : p ≤ L.length)
    {A : Option Addr} (hA : (if cap = p then (some ⟨g, 0, none⟩ : Option Addr) else some ⟨g, p * sz, none⟩) = A) : RdF sz W (.slice A (L.length - p) (cap - p)) (L.drop p) := by
  obtain ⟨_, h1, h2⟩ := row_cap h
  by_cases hc : cap = p
  · rw [if_pos hc] at hA
    have e1 : L.length - p = 0 := by omega
    rw [← hA, e1, List.drop_eq_nil_of_le (by omega)]
    exact RdF.empty (by omega)
  · rw [if_neg hc] at hA
    rw [← hA]
    have := (RdF.of_row hr h).drop p hp
    simpa using this
/-- An append of rows to a row of the call's own, in a region that draws. -/
theorem step_appendF {P : Program} {w : World} {ops : Array Oper} {o : Oper} {a : Act} {K : Act → World → Prop} {Q : Exit → Act → World → Prop} {N : Prop} (hgd : o.guard = none) (s x : Operand) (t : TypeId)
    (ho : o.op = .call { callee := .builtin .append, args := #[s, x], argTypes := #[t, t] }) (base : Nat) (e : TypeId) (i : TypeInfo) (z : Value) (size bytes : Nat) (ht : P.underlying t = some (.slice e)) (hi : P.info? e = some i) (hz : i.zero = some z)
    (hsize : i.size = size) (hby : i.bytes = bytes) (hzs : z.cells.size = size) (hsz : 0 < size)
    (v : Value) (n : Nat) (xs : List Value) (hs : a.eval s = v) (hown : w.ownsRow base e size v n xs)
    (y : Value) (L : List (List Value)) (hL : ∀ r ∈ L, r.length = size) (hone : ∀ u ∈ L.flatten, u.oneCell' = true) (hx : a.eval x = y) (hy : RdF size w y L) (hnil : ∀ c, y = .slice none 0 c → c = 0)
    (h63 : n + L.length ≤ maxLen) (hbytes : (n + L.length) * bytes ≤ 140737488355328) (hbase : base ≤ w.heap.size)
    (hK : ∀ v' w', w'.ownsRow base e size v' (n + L.length) (xs ++ L.flatten) → w.grownBy w' v.ownBlock → K (a.put o.dst v') w') :
    if Region.wanted o (yielded ops a.tmps) = true then Oper.wp P o a w K Q else N := by
  have hw : Region.wanted o (yielded ops a.tmps) = true := by simp [Region.wanted, hgd]
  rw [if_pos hw]
  obtain ⟨ad, cap, rfl, h1, h2, h3, h4⟩ := hy
  by_cases hne : L = []
  · subst hne
    cases ad with
    | none =>
      obtain rfl := hnil cap rfl
      have hrun := run_append_owned_none (P := P) (w := w) base t o.type e i size ht hi v n xs hown
      unfold Oper.wp
      simp only [List.length_nil] at hx
      simp [execOp, ho, resolve, invoke, builtin, hs, hx, hrun, Result.andThen]
      exact hK v w (by simpa using hown) ⟨rfl, rfl, rfl, Nat.le_refl _, fun _ _ _ => rfl⟩
    | some ad =>
      exact wp_append_own w s x t ho base e i z size bytes ht hi hz hsize hby hzs hsz v n xs hs hown ad 0 cap [] hx (by simp) (by simp) (by simp) h63 hbytes hbase (fun v' w' g1 g2 _ => hK v' w' (by simpa using g1) g2)
  · obtain ⟨b, off, rfl, hc⟩ := h4 hne
    refine wp_append_own w s x t ho base e i z size bytes ht hi hz hsize hby hzs hsz v n xs hs hown ⟨b, off, none⟩ L.length cap L.flatten hx (flat_len size L hL) ?_ hone h63 hbytes hbase (fun v' w' g1 g2 _ => hK v' w' g1 g2)
    intro j u hj
    have hjl : j < L.length * size := by
      have := (List.getElem?_eq_some_iff.1 hj).1
      rwa [flat_len size L hL] at this
    have hq : j / size < L.length := Nat.div_lt_of_lt_mul (by rwa [Nat.mul_comm] at hjl)
    have hr : j % size < size := Nat.mod_lt _ hsz
    have ej : j = j / size * size + j % size := by rw [Nat.mul_comm]; exact (Nat.div_add_mod j size).symm
    have hf := flat_at size L hL (j / size) hq (j % size) hr
    rw [← ej, hj] at hf
    have := hc (j / size) hq (j % size) u hf.symm
    rw [Addr.add_lit]
    rw [show off + j = off + j / size * size + j % size by rw [Nat.add_assoc, ← ej]]
    exact this
/-- What an append of rows to a row of the call's own comes to. -/
theorem run_append_rows {P : Program} {w : World} (t ty : TypeId) (base : Nat) (e : TypeId) (i : TypeInfo) (z : Value) (size bytes : Nat) (ht : P.underlying t = some (.slice e)) (hi : P.info? e = some i) (hz : i.zero = some z)
    (hsize : i.size = size) (hby : i.bytes = bytes) (hzs : z.cells.size = size) (hsz : 0 < size) (g cap n : Nat) (xs : List Value) (hown : w.ownsRow base e size (.slice (some ⟨g, 0, none⟩) n cap) n xs)
    (y : Value) (L : List (List Value)) (hL : ∀ r ∈ L, r.length = size) (hone : ∀ u ∈ L.flatten, u.oneCell' = true) (hy : RdF size w y L) (hnil : ∀ c, y = .slice none 0 c → c = 0)
    (h63 : n + L.length ≤ maxLen) (hbytes : (n + L.length) * bytes ≤ 140737488355328) (hbase : base ≤ w.heap.size) :
    ∃ g' cap' w', (Builtin.append_ #[t, t] ty #[.slice (some ⟨g, 0, none⟩) n cap, y]).run P w = .ok (.slice (some ⟨g', 0, none⟩) (n + L.length) cap') w' ∧ w'.ownsRow base e size (.slice (some ⟨g', 0, none⟩) (n + L.length) cap') (n + L.length) (xs ++ L.flatten) ∧ w.grownBy w' (some g) := by
  obtain ⟨ad, c, rfl, h1, h2, h3, h4⟩ := hy
  by_cases hne : L = []
  · subst hne
    cases ad with
    | none =>
      obtain rfl := hnil c rfl
      exact ⟨g, cap, w, run_append_owned_none (P := P) (w := w) base t ty e i size ht hi _ n xs hown, by simpa using hown, rfl, rfl, rfl, Nat.le_refl _, fun _ _ _ => rfl⟩
    | some ad =>
      subst hsize
      rcases hown.2 with ⟨h', _⟩ | ⟨g', cap', cur, h', hbg, hgb, hnc, hcm, hcs, htake⟩
      · simp at h'
      · simp only [Value.slice.injEq, Option.some.injEq, Addr.mk.injEq, and_true] at h'
        obtain ⟨rfl, _, rfl⟩ := h'
        have hr := run_append_room (P := P) w t ty e i ht hi g n cap cur hgb ad 0 c [] (by simp) (by simp) (by simp) (by omega) (by rw [hcs]; simpa using Nat.mul_le_mul_right _ hnc)
        refine ⟨g, cap, _, hr, ⟨by simpa using hown.1, .inr ⟨g, cap, _, rfl, hbg, setRow_heap w g cur _ e _ hgb, hnc, hcm, ?_, ?_⟩⟩, ⟨rfl, rfl, rfl, by simp, fun k _ hk => setRow_other w g k _ (fun e => hk (by rw [e]))⟩⟩
        · have hle : n * i.size ≤ cur.size := by rw [hcs]; exact Nat.mul_le_mul_right _ hnc
          simp only [List.size_toArray, List.length_append, List.length_take, List.length_drop, Array.length_toList, List.append_nil, List.length_nil, Nat.add_zero]
          have := hown.1
          omega
        · rw [htake, List.flatten_nil, List.append_nil]
          have : n * i.size = xs.length := hown.1.symm
          simp [this]
  · obtain ⟨b, off, rfl, hc⟩ := h4 hne
    obtain ⟨v', w', q1, q2, q3, _⟩ := run_append_own (P := P) w base t ty e i z size bytes ht hi hz hsize hby hzs hsz _ n xs hown ⟨b, off, none⟩ L.length c L.flatten (flat_len size L hL) (fun j u hj => by
      have hjl : j < L.length * size := by
        have := (List.getElem?_eq_some_iff.1 hj).1
        rwa [flat_len size L hL] at this
      have hq : j / size < L.length := Nat.div_lt_of_lt_mul (by rwa [Nat.mul_comm] at hjl)
      have hr : j % size < size := Nat.mod_lt _ hsz
      have ej : j = j / size * size + j % size := by rw [Nat.mul_comm]; exact (Nat.div_add_mod j size).symm
      have hf := flat_at size L hL (j / size) hq (j % size) hr
      rw [← ej, hj] at hf
      have := hc (j / size) hq (j % size) u hf.symm
      rw [Addr.add_lit]
      rw [show off + j = off + j / size * size + j % size by rw [Nat.add_assoc, ← ej]]
      exact this) hone h63 hbytes hbase
    have hpos : 0 < L.length := List.length_pos_iff.2 hne
    rcases q2.2 with ⟨_, h0⟩ | ⟨g', c', _, h2', _⟩
    · omega
    · subst h2'
      exact ⟨g', c', w', q1, q2, q3⟩
/-- The same at a step of a region that draws, and at one of a list. -/
theorem step_appendG {P : Program} {w : World} {ops : Array Oper} {o : Oper} {a : Act} {K : Act → World → Prop} {Q : Exit → Act → World → Prop} {N : Prop} (hgd : o.guard = none) (s x : Operand) (t : TypeId)
    (ho : o.op = .call { callee := .builtin .append, args := #[s, x], argTypes := #[t, t] }) (base : Nat) (e : TypeId) (i : TypeInfo) (z : Value) (size bytes : Nat) (ht : P.underlying t = some (.slice e)) (hi : P.info? e = some i) (hz : i.zero = some z)
    (hsize : i.size = size) (hby : i.bytes = bytes) (hzs : z.cells.size = size) (hsz : 0 < size) (g cap n : Nat) (xs : List Value) (hs : a.eval s = .slice (some ⟨g, 0, none⟩) n cap) (hown : w.ownsRow base e size (.slice (some ⟨g, 0, none⟩) n cap) n xs)
    (y : Value) (L : List (List Value)) (hL : ∀ r ∈ L, r.length = size) (hone : ∀ u ∈ L.flatten, u.oneCell' = true) (hx : a.eval x = y) (hy : RdF size w y L) (hnil : ∀ c, y = .slice none 0 c → c = 0)
    (h63 : n + L.length ≤ maxLen) (hbytes : (n + L.length) * bytes ≤ 140737488355328) (hbase : base ≤ w.heap.size)
    (hK : ∀ g' cap' w', w'.ownsRow base e size (.slice (some ⟨g', 0, none⟩) (n + L.length) cap') (n + L.length) (xs ++ L.flatten) → w.grownBy w' (some g) → K (a.put o.dst (.slice (some ⟨g', 0, none⟩) (n + L.length) cap')) w') :
    if Region.wanted o (yielded ops a.tmps) = true then Oper.wp P o a w K Q else N := by
  have hw : Region.wanted o (yielded ops a.tmps) = true := by simp [Region.wanted, hgd]
  rw [if_pos hw]
  obtain ⟨g', cap', w', hrun, r1, r2⟩ := run_append_rows (P := P) (w := w) t o.type base e i z size bytes ht hi hz hsize hby hzs hsz g cap n xs hown y L hL hone hy hnil h63 hbytes hbase
  unfold Oper.wp
  simp [execOp, ho, resolve, invoke, builtin, hs, hx, hrun, Result.andThen]
  exact hK g' cap' w' r1 r2
theorem wpList_appendG {P : Program} {w : World} {ops : Array Oper} {rest : List Oper} {o : Oper} {a : Act} {Q : Exit → Act → World → Prop} (hgd : o.guard = none) (s x : Operand) (t : TypeId)
    (ho : o.op = .call { callee := .builtin .append, args := #[s, x], argTypes := #[t, t] }) (base : Nat) (e : TypeId) (i : TypeInfo) (z : Value) (size bytes : Nat) (ht : P.underlying t = some (.slice e)) (hi : P.info? e = some i) (hz : i.zero = some z)
    (hsize : i.size = size) (hby : i.bytes = bytes) (hzs : z.cells.size = size) (hsz : 0 < size) (g cap n : Nat) (xs : List Value) (hs : a.eval s = .slice (some ⟨g, 0, none⟩) n cap) (hown : w.ownsRow base e size (.slice (some ⟨g, 0, none⟩) n cap) n xs)
    (y : Value) (L : List (List Value)) (hL : ∀ r ∈ L, r.length = size) (hone : ∀ u ∈ L.flatten, u.oneCell' = true) (hx : a.eval x = y) (hy : RdF size w y L) (hnil : ∀ c, y = .slice none 0 c → c = 0)
    (h63 : n + L.length ≤ maxLen) (hbytes : (n + L.length) * bytes ≤ 140737488355328) (hbase : base ≤ w.heap.size)
    (h : ∀ g' cap' w', w'.ownsRow base e size (.slice (some ⟨g', 0, none⟩) (n + L.length) cap') (n + L.length) (xs ++ L.flatten) → w.grownBy w' (some g) → wpList P ops Q rest (a.put o.dst (.slice (some ⟨g', 0, none⟩) (n + L.length) cap')) w') : wpList P ops Q (o :: rest) a w := by
  refine wpList_plain hgd fun K hK => ?_
  obtain ⟨g', cap', w', hrun, r1, r2⟩ := run_append_rows (P := P) (w := w) t o.type base e i z size bytes ht hi hz hsize hby hzs hsz g cap n xs hown y L hL hone hy hnil h63 hbytes hbase
  unfold Oper.wp
  simp [execOp, ho, resolve, invoke, builtin, hs, hx, hrun, Result.andThen]
  exact hK _ _ (h g' cap' w' r1 r2)
/-- A row's cell may be written; what it is then. -/
theorem row_free {W : World} {base g n cap sz : Nat} {e : TypeId} {k : Nat} {xs : List Value} (h : W.ownsRow base e sz (.slice (some ⟨g, 0, none⟩) n cap) k xs) (j : Nat) : W.frozen? ⟨g, j, none⟩ = false := by
  rcases h.2 with ⟨h', _⟩ | ⟨g', cap', cur, h', hb, hg, _⟩
  · simp at h'
  · simp only [Value.slice.injEq, Option.some.injEq, Addr.mk.injEq, and_true] at h'
    obtain ⟨rfl, _, rfl⟩ := h'
    exact frozen_of_row W g j cur _ hg
end Go.Proofs.Yteibiaplmmdppaa
namespace Go.Proofs.Yteibiaplmmdppaa
open Go.RowKit

def encP (p : PairT) : Value × Value := (str p.1, str p.2)
theorem less_str (a b : List UInt8) : lessV (str a) (str b) = Op.bytesLess a b := by simp [lessV]
theorem same_str (a b : List UInt8) : sameBSS (str a) (str b) = (a == b) := by simp [sameBSS]
/-- What has changed, by definition. -/
def diffP : List PairT → List PairT → List ChgT
  | ra, [] => ra.map (fun p => (p.1, [], true))
  | [], x :: t => (x.1, x.2, false) :: diffP [] t
  | p :: ra, x :: t => if Op.bytesLess p.1 x.1 = true then (p.1, [], true) :: diffP ra (x :: t) else if Op.bytesLess x.1 p.1 = true then (x.1, x.2, false) :: diffP (p :: ra) t else if p.2 = x.2 then diffP ra t else (x.1, x.2, false) :: diffP ra t
termination_by a b => a.length + b.length
theorem diffP_end (ra : List PairT) : diffP ra [] = ra.map (fun p => (p.1, [], true)) := by cases ra <;> simp [diffP]
theorem diffP_nil (x : PairT) (t : List PairT) : diffP [] (x :: t) = (x.1, x.2, false) :: diffP [] t := by rw [diffP]
theorem diffP_less {p x : PairT} {ra t : List PairT} (h : Op.bytesLess p.1 x.1 = true) : diffP (p :: ra) (x :: t) = (p.1, [], true) :: diffP ra (x :: t) := by rw [diffP, if_pos h]
theorem diffP_more {p x : PairT} {ra t : List PairT} (h : Op.bytesLess p.1 x.1 = false) (h2 : Op.bytesLess x.1 p.1 = true) : diffP (p :: ra) (x :: t) = (x.1, x.2, false) :: diffP (p :: ra) t := by rw [diffP, if_neg (by simp [h]), if_pos h2]
theorem diffP_same {p x : PairT} {ra t : List PairT} (h : Op.bytesLess p.1 x.1 = false) (h2 : Op.bytesLess x.1 p.1 = false) (h3 : p.2 = x.2) : diffP (p :: ra) (x :: t) = diffP ra t := by rw [diffP, if_neg (by simp [h]), if_neg (by simp [h2]), if_pos h3]
theorem diffP_other {p x : PairT} {ra t : List PairT} (h : Op.bytesLess p.1 x.1 = false) (h2 : Op.bytesLess x.1 p.1 = false) (h3 : ¬ p.2 = x.2) : diffP (p :: ra) (x :: t) = (x.1, x.2, false) :: diffP ra t := by rw [diffP, if_neg (by simp [h]), if_neg (by simp [h2]), if_neg h3]
theorem diffP_len : ∀ a b : List PairT, (diffP a b).length ≤ a.length + b.length
  | ra, [] => by rw [diffP_end]; simp
  | [], x :: t => by have := diffP_len [] t; rw [diffP_nil]; simp at this ⊢; omega
  | p :: ra, x :: t => by
    have h1 := diffP_len ra (x :: t)
    have h2 := diffP_len (p :: ra) t
    have h3 := diffP_len ra t
    simp only [List.length_cons] at h1 h2 h3 ⊢
    rw [diffP]
    split
    · simp only [List.length_cons]; omega
    · split
      · simp only [List.length_cons]; omega
      · split
        · omega
        · simp only [List.length_cons]; omega
termination_by a b => a.length + b.length
theorem getL_past {k k' v : Value} {t : List (Value × Value)} (hk : KSSS k) (hk' : KSSS k') (h : lessV k' k = true) : getL k ((k', v) :: t) = getL k t := by
  have := ordSS.asym hk' hk h
  simp [getL, this, h]
theorem getL_here {k v : Value} {t : List (Value × Value)} (hk : KSSS k) : getL k ((k, v) :: t) = some v := by
  simp [getL, ordSS.irr k hk]
/-- What has become of one. -/
def chg1 (la lb : List (Value × Value)) (k : Value) : Option Value :=
  match getL k la, getL k lb with
  | some x, some y => if sameBSS x y = true then none else some (chgVSS k y false)
  | none, some y => some (chgVSS k y false)
  | _, none => some (chgVSS k (str []) true)
theorem chgP_eq (la lb : List (Value × Value)) : chgP la lb = (mrgL la lb).filterMap (fun p => chg1 la lb p.1) := rfl
theorem enc_keys (l : List PairT) : ∀ p ∈ l.map encP, KSSS p.1 := by
  intro p hp
  obtain ⟨q, _, rfl⟩ := List.mem_map.1 hp
  exact ⟨q.1, rfl⟩
theorem ris_tail {p : Value × Value} {l : List (Value × Value)} (h : Ris (p :: l)) : Ris l := h.2
theorem ris_head {p : Value × Value} {l : List (Value × Value)} (h : Ris (p :: l)) : ∀ q ∈ l, lessV p.1 q.1 = true := h.1
theorem fm_some {f : Value × Value → Option Value} {p : Value × Value} {t : List (Value × Value)} {c : Value} (h : f p = some c) : (p :: t).filterMap f = c :: t.filterMap f := by simp [h]
theorem fm_none {f : Value × Value → Option Value} {p : Value × Value} {t : List (Value × Value)} (h : f p = none) : (p :: t).filterMap f = t.filterMap f := by simp [h]
/-- What Diff tells is what has changed. -/
theorem chgP_diff : ∀ a b : List PairT, Ris (a.map encP) → Ris (b.map encP) → chgP (a.map encP) (b.map encP) = (diffP a b).map encC
  | ra, [], ha, _ => by
    rw [chgP_eq, List.map_nil, mrg_end, diffP_end, List.map_map, List.filterMap_map]
    have : ∀ p ∈ ra, ((fun p => chg1 (ra.map encP) [] p.1) ∘ encP) p = some (encC (p.1, [], true)) := by
      intro p hp
      show chg1 (ra.map encP) [] (str p.1) = _
      unfold chg1
      rw [show getL (str p.1) [] = none from rfl]
      cases getL (str p.1) (ra.map encP) <;> rfl
    rw [fmap_congr this]
    clear this ha
    induction ra with
    | nil => rfl
    | cons p t ih => simp [ih]
  | [], x :: t, _, hb => by
    rw [chgP_eq, List.map_nil, mrg_nil, diffP_nil]
    have hx : KSSS (str x.1) := ⟨x.1, rfl⟩
    have ih := chgP_diff [] t trivial (ris_tail hb)
    rw [chgP_eq, List.map_nil, mrg_nil] at ih
    rw [List.map_cons, List.map_cons]
    have e1 : chg1 [] (encP x :: t.map encP) (encP x).1 = some (encC (x.1, x.2, false)) := by
      unfold chg1
      rw [show getL (encP x).1 [] = none from rfl, show encP x = (str x.1, str x.2) from rfl, getL_here hx]
      rfl
    rw [fm_some (f := fun p : Value × Value => chg1 [] (encP x :: t.map encP) p.1) e1, ← ih]
    congr 1
    refine fmap_congr (fun p hp => ?_)
    have hp1 := ris_head hb p hp
    have hk := enc_keys t p hp
    unfold chg1
    rw [show encP x = (str x.1, str x.2) from rfl, getL_past hk hx hp1]
  | p :: ra, x :: t, ha, hb => by
    have hp : KSSS (str p.1) := ⟨p.1, rfl⟩
    have hx : KSSS (str x.1) := ⟨x.1, rfl⟩
    have ep : encP p = (str p.1, str p.2) := rfl
    have ex : encP x = (str x.1, str x.2) := rfl
    have ka := enc_keys ra
    have kb := enc_keys t
    have hA := ris_head ha
    have hB := ris_head hb
    cases hl : Op.bytesLess p.1 x.1 with
    | true =>
      have hl' : lessV (str p.1) (str x.1) = true := by rw [less_str]; exact hl
      have ih := chgP_diff ra (x :: t) (ris_tail ha) hb
      rw [diffP_less hl]
      show _ = encC _ :: (diffP ra (x :: t)).map encC
      rw [← ih, chgP_eq, chgP_eq]
      rw [List.map_cons, List.map_cons, mrg_less (show lessV (encP p).1 (encP x).1 = true from hl')]
      have e1 : chg1 (encP p :: ra.map encP) (encP x :: t.map encP) (encP p).1 = some (encC (p.1, [], true)) := by
        unfold chg1
        have hbel : getL (str p.1) (encP x :: t.map encP) = none := getL_below (fun q hq => by
          rcases List.mem_cons.1 hq with rfl | hq
          · exact hl'
          · exact ordSS.tr _ _ _ hp hx (kb q hq) hl' (hB q hq))
        rw [ep, getL_here hp]
        show (match some (str p.2), getL (str p.1) (encP x :: t.map encP) with | some x, some y => if sameBSS x y = true then none else some (chgVSS (str p.1) y false) | none, some y => some (chgVSS (str p.1) y false) | _, none => some (chgVSS (str p.1) (str []) true)) = _
        rw [hbel]
        rfl
      rw [fm_some (f := fun q : Value × Value => chg1 (encP p :: ra.map encP) (encP x :: t.map encP) q.1) e1]
      congr 1
      refine fmap_congr (fun q hq => ?_)
      have hq1 : lessV (str p.1) q.1 = true := mrg_mem (fun q => lessV (str p.1) q.1 = true) _ _ hA (fun q hq => by
        rcases List.mem_cons.1 hq with rfl | hq
        · exact hl'
        · exact ordSS.tr _ _ _ hp hx (kb q hq) hl' (hB q hq)) q hq
      have hqk : KSSS q.1 := mrg_mem (fun q => KSSS q.1) _ _ ka (fun q hq => by
        rcases List.mem_cons.1 hq with rfl | hq
        · exact hx
        · exact kb q hq) q hq
      unfold chg1
      rw [ep, getL_past hqk hp hq1]
    | false =>
      have hl' : lessV (str p.1) (str x.1) = false := by rw [less_str]; exact hl
      cases hm : Op.bytesLess x.1 p.1 with
      | true =>
        have hm' : lessV (str x.1) (str p.1) = true := by rw [less_str]; exact hm
        have ih := chgP_diff (p :: ra) t ha (ris_tail hb)
        rw [diffP_more hl hm]
        show _ = encC _ :: (diffP (p :: ra) t).map encC
        rw [← ih, chgP_eq, chgP_eq]
        rw [List.map_cons, List.map_cons, mrg_more (show lessV (encP p).1 (encP x).1 = false from hl') (show lessV (encP x).1 (encP p).1 = true from hm')]
        have e1 : chg1 (encP p :: ra.map encP) (encP x :: t.map encP) (encP x).1 = some (encC (x.1, x.2, false)) := by
          unfold chg1
          have hbel : getL (str x.1) (encP p :: ra.map encP) = none := getL_below (fun q hq => by
            rcases List.mem_cons.1 hq with rfl | hq
            · exact hm'
            · exact ordSS.tr _ _ _ hx hp (ka q hq) hm' (hA q hq))
          rw [ex, getL_here hx]
          show (match getL (str x.1) (encP p :: ra.map encP), some (str x.2) with | some x', some y => if sameBSS x' y = true then none else some (chgVSS (str x.1) y false) | none, some y => some (chgVSS (str x.1) y false) | _, none => some (chgVSS (str x.1) (str []) true)) = _
          rw [hbel]
          rfl
        rw [fm_some (f := fun q : Value × Value => chg1 (encP p :: ra.map encP) (encP x :: t.map encP) q.1) e1]
        congr 1
        refine fmap_congr (fun q hq => ?_)
        have hq1 : lessV (str x.1) q.1 = true := mrg_mem (fun q => lessV (str x.1) q.1 = true) _ _ (fun q hq => by
          rcases List.mem_cons.1 hq with rfl | hq
          · exact hm'
          · exact ordSS.tr _ _ _ hx hp (ka q hq) hm' (hA q hq)) hB q hq
        have hqk : KSSS q.1 := mrg_mem (fun q => KSSS q.1) _ _ (fun q hq => by
          rcases List.mem_cons.1 hq with rfl | hq
          · exact hp
          · exact ka q hq) kb q hq
        unfold chg1
        rw [ex, getL_past hqk hx hq1]
      | false =>
        have hm' : lessV (str x.1) (str p.1) = false := by rw [less_str]; exact hm
        have he : p.1 = x.1 := str_inj (ordSS.tot _ _ hp hx hl' hm')
        have ih := chgP_diff ra t (ris_tail ha) (ris_tail hb)
        rw [chgP_eq, List.map_cons, List.map_cons, mrg_same (show lessV (encP p).1 (encP x).1 = false from hl') (show lessV (encP x).1 (encP p).1 = false from hm')]
        have e1 : chg1 (encP p :: ra.map encP) (encP x :: t.map encP) (encP x).1 = if p.2 = x.2 then none else some (encC (x.1, x.2, false)) := by
          unfold chg1
          rw [ep, ex, he, getL_here hx, getL_here hx]
          dsimp only
          rw [same_str]
          by_cases h : p.2 = x.2
          · rw [if_pos h, if_pos (by rw [h]; exact beq_self_eq_true _)]
          · rw [if_neg h, if_neg (by simpa using h)]; rfl
        have e2 : (mrgL (ra.map encP) (t.map encP)).filterMap (fun q => chg1 (encP p :: ra.map encP) (encP x :: t.map encP) q.1) = (diffP ra t).map encC := by
          rw [← ih, chgP_eq]
          refine fmap_congr (fun q hq => ?_)
          have hq1 : lessV (str x.1) q.1 = true := mrg_mem (fun q => lessV (str x.1) q.1 = true) _ _ (fun q hq => by rw [← he]; exact hA q hq) hB q hq
          have hqk : KSSS q.1 := mrg_mem (fun q => KSSS q.1) _ _ ka kb q hq
          unfold chg1
          rw [ep, ex, he, getL_past hqk hx hq1, getL_past hqk hx hq1]
        by_cases h : p.2 = x.2
        · rw [if_pos h] at e1
          rw [fm_none (f := fun q : Value × Value => chg1 (encP p :: ra.map encP) (encP x :: t.map encP) q.1) e1, e2, diffP_same hl hm h]
        · rw [if_neg h] at e1
          rw [fm_some (f := fun q : Value × Value => chg1 (encP p :: ra.map encP) (encP x :: t.map encP) q.1) e1, e2, diffP_other hl hm h]; rfl
termination_by a b => a.length + b.length
/-- A pair laid among pairs, taken away. -/
def insPP (k v : List UInt8) : List PairT → List PairT
  | [] => [(k, v)]
  | p :: t => if Op.bytesLess k p.1 = true then (k, v) :: p :: t else if Op.bytesLess p.1 k = true then p :: insPP k v t else (k, v) :: t
def delPP (k : List UInt8) : List PairT → List PairT
  | [] => []
  | p :: t => if Op.bytesLess k p.1 = true then p :: t else if Op.bytesLess p.1 k = true then p :: delPP k t else t
theorem ins_enc (k v : List UInt8) : ∀ l : List PairT, insL (str k) (str v) (l.map encP) = (insPP k v l).map encP
  | [] => rfl
  | p :: t => by
    have ih := ins_enc k v t
    simp only [List.map_cons, insL, insPP, show encP p = (str p.1, str p.2) from rfl, less_str]
    split
    · rfl
    · split
      · rw [List.map_cons, ih]; rfl
      · rfl
theorem del_enc (k : List UInt8) : ∀ l : List PairT, delL (str k) (l.map encP) = (delPP k l).map encP
  | [] => rfl
  | p :: t => by
    have ih := del_enc k t
    simp only [List.map_cons, delL, delPP, show encP p = (str p.1, str p.2) from rfl, less_str]
    split
    · rfl
    · split
      · rw [List.map_cons, ih]; rfl
      · rfl
def chgDoP (s : List PairT) (c : ChgT) : List PairT := if c.2.2 = true then delPP c.1 s else insPP c.1 c.2.1 s
def foldPP (s : List PairT) (L : List ChgT) : List PairT := L.foldl chgDoP s
theorem chgDo_enc (s : List PairT) (c : ChgT) : chgDo (s.map encP) c = (chgDoP s c).map encP := by
  unfold chgDo chgDoP
  split
  · exact del_enc _ _
  · exact ins_enc _ _ _
theorem fold_enc : ∀ (L : List ChgT) (s : List PairT), foldV (s.map encP) L = (foldPP s L).map encP
  | [], _ => rfl
  | c :: L, s => by
    show foldV (chgDo (s.map encP) c) L = (foldPP (chgDoP s c) L).map encP
    rw [chgDo_enc]
    exact fold_enc L _
theorem foldPP_succ (s : List PairT) {L : List ChgT} {k : Nat} (hlt : k < L.length) : foldPP s (L.take (k + 1)) = chgDoP (foldPP s (L.take k)) L[k] := by
  unfold foldPP
  rw [List.take_succ_eq_append_getElem hlt, List.foldl_append]
  rfl
/-- Pairs as changes. -/
def asC (l : List PairT) : List ChgT := l.map (fun p => (p.1, p.2, false))
theorem mapV_fold (l : List PairT) : mapV l = (foldPP [] (asC l)).map encP := by
  rw [← fold_enc]
  unfold mapV foldV asC
  rw [List.foldl_map]
  rfl
def RisP (l : List PairT) : Prop := Ris (l.map encP)
theorem chgDoP_ris {s : List PairT} (c : ChgT) (h : RisP s) : RisP (chgDoP s c) := by
  unfold RisP
  rw [← chgDo_enc]
  exact (chgDo_inv c (enc_keys s) h).2
theorem foldPP_ris {s : List PairT} (L : List ChgT) (h : RisP s) : RisP (foldPP s L) := by
  unfold RisP
  rw [← fold_enc]
  exact (fold_inv L (enc_keys s) h).2
theorem insPP_len (k v : List UInt8) : ∀ l : List PairT, (insPP k v l).length ≤ l.length + 1
  | [] => by simp [insPP]
  | p :: t => by
    have := insPP_len k v t
    unfold insPP
    split
    · simp
    · split
      · simp; omega
      · simp
theorem delPP_len (k : List UInt8) : ∀ l : List PairT, (delPP k l).length ≤ l.length
  | [] => Nat.le_refl _
  | p :: t => by
    have := delPP_len k t
    unfold delPP
    split
    · exact Nat.le_refl _
    · split
      · simp; omega
      · simp
theorem chgDoP_len (s : List PairT) (c : ChgT) : (chgDoP s c).length ≤ s.length + 1 := by
  unfold chgDoP
  split
  · have := delPP_len c.1 s; omega
  · exact insPP_len _ _ _
theorem bl_false {a b : List UInt8} (h : Op.bytesLess a b = true) : Op.bytesLess b a = false := by
  have := ordSS.asym (ss_key a) (ss_key b) (by rw [less_str]; exact h)
  rw [less_str] at this; exact this
theorem bl_eq {a b : List UInt8} (h : Op.bytesLess a b = false) (h2 : Op.bytesLess b a = false) : a = b :=
  str_inj (ordSS.tot _ _ (ss_key a) (ss_key b) (by rw [less_str]; exact h) (by rw [less_str]; exact h2))
/-- Where it is laid, taken away. -/
theorem insPP_at (k v : List UInt8) : ∀ {l : List PairT} {p : Nat}, p ≤ l.length → (∀ j (h : j < l.length), j < p → Op.bytesLess l[j].1 k = true) → (∀ h : p < l.length, Op.bytesLess l[p].1 k = false) →
    insPP k v l = if (∃ h : p < l.length, l[p].1 = k) then l.take p ++ (k, v) :: l.drop (p + 1) else l.take p ++ (k, v) :: l.drop p
  | [], p, hp, _, _ => by
    obtain rfl : p = 0 := by simpa using hp
    simp [insPP]
  | a :: t, 0, _, _, h2 => by
    have h0 := h2 (by simp)
    simp only [List.getElem_cons_zero] at h0
    unfold insPP
    by_cases e : Op.bytesLess k a.1 = true
    · rw [if_pos e, if_neg (by rintro ⟨_, h⟩; simp at h; rw [h, bl_irr] at e; cases e)]
      simp
    · have e' : Op.bytesLess k a.1 = false := by simpa using e
      rw [if_neg e, if_neg (by simp [h0]), if_pos ⟨by simp, by simpa using bl_eq h0 e'⟩]
      simp
  | a :: t, p + 1, hp, h1, h2 => by
    have h0 := h1 0 (by simp) (by omega)
    simp only [List.getElem_cons_zero] at h0
    have h0' := bl_false h0
    unfold insPP
    rw [if_neg (by simp [h0']), if_pos h0, insPP_at k v (l := t) (p := p) (by simpa using hp) (fun j hj hjp => h1 (j + 1) (by simpa using hj) (by omega)) (fun hb => h2 (by simpa using hb))]
    have e : (∃ h : p + 1 < (a :: t).length, (a :: t)[p + 1].1 = k) ↔ (∃ h : p < t.length, t[p].1 = k) := by
      constructor
      · rintro ⟨h, e⟩; exact ⟨by simpa using h, e⟩
      · rintro ⟨h, e⟩; exact ⟨by simpa using h, e⟩
    by_cases g : ∃ h : p < t.length, t[p].1 = k
    · rw [if_pos g, if_pos (e.2 g)]
      simp
    · rw [if_neg g, if_neg (fun q => g (e.1 q))]
      simp
theorem delPP_at (k : List UInt8) : ∀ {l : List PairT} {p : Nat}, p ≤ l.length → (∀ j (h : j < l.length), j < p → Op.bytesLess l[j].1 k = true) → (∀ h : p < l.length, Op.bytesLess l[p].1 k = false) → RisP l →
    delPP k l = if (∃ h : p < l.length, l[p].1 = k) then l.take p ++ l.drop (p + 1) else l
  | [], p, hp, _, _, _ => by
    obtain rfl : p = 0 := by simpa using hp
    simp [delPP]
  | a :: t, 0, _, _, h2, _ => by
    have h0 := h2 (by simp)
    simp only [List.getElem_cons_zero] at h0
    unfold delPP
    by_cases e : Op.bytesLess k a.1 = true
    · rw [if_pos e, if_neg (by rintro ⟨_, h⟩; simp at h; rw [h, bl_irr] at e; cases e)]
    · have e' : Op.bytesLess k a.1 = false := by simpa using e
      rw [if_neg e, if_neg (by simp [h0]), if_pos ⟨by simp, by simpa using bl_eq h0 e'⟩]
      simp
  | a :: t, p + 1, hp, h1, h2, h3 => by
    have h0 := h1 0 (by simp) (by omega)
    simp only [List.getElem_cons_zero] at h0
    have h0' := bl_false h0
    unfold delPP
    rw [if_neg (by simp [h0']), if_pos h0, delPP_at k (l := t) (p := p) (by simpa using hp) (fun j hj hjp => h1 (j + 1) (by simpa using hj) (by omega)) (fun hb => h2 (by simpa using hb)) (ris_tail h3)]
    have e : (∃ h : p + 1 < (a :: t).length, (a :: t)[p + 1].1 = k) ↔ (∃ h : p < t.length, t[p].1 = k) := by
      constructor
      · rintro ⟨h, e⟩; exact ⟨by simpa using h, e⟩
      · rintro ⟨h, e⟩; exact ⟨by simpa using h, e⟩
    by_cases g : ∃ h : p < t.length, t[p].1 = k
    · rw [if_pos g, if_pos (e.2 g)]
      simp
    · rw [if_neg g, if_neg (fun q => g (e.1 q))]
end Go.Proofs.Yteibiaplmmdppaa
namespace Go.Proofs.Yteibiaplmmdppaa
open Go.RowKit

theorem diff_gone {la lb : List PairT} {p q : Nat} (hp : p < la.length) (hq : q ≤ lb.length) (h : ∀ hq : q < lb.length, Op.bytesLess la[p].1 lb[q].1 = true) : diffP (la.drop p) (lb.drop q) = (la[p].1, [], true) :: diffP (la.drop (p + 1)) (lb.drop q) := by
  rw [List.drop_eq_getElem_cons hp]
  by_cases hq' : q < lb.length
  · rw [List.drop_eq_getElem_cons hq', diffP_less (h hq')]
  · have e : lb.drop q = [] := List.drop_eq_nil_of_le (by omega)
    rw [e, diffP_end, diffP_end]; rfl
theorem diff_new {la lb : List PairT} {p q : Nat} (hq : q < lb.length) (hp : p ≤ la.length) (h : ∀ hp : p < la.length, Op.bytesLess la[p].1 lb[q].1 = false ∧ Op.bytesLess lb[q].1 la[p].1 = true) : diffP (la.drop p) (lb.drop q) = (lb[q].1, lb[q].2, false) :: diffP (la.drop p) (lb.drop (q + 1)) := by
  rw [List.drop_eq_getElem_cons hq]
  by_cases hp' : p < la.length
  · rw [List.drop_eq_getElem_cons hp', diffP_more (h hp').1 (h hp').2]
  · rw [List.drop_eq_nil_of_le (by omega), diffP_nil]
theorem diff_both {la lb : List PairT} {p q : Nat} (hp : p < la.length) (hq : q < lb.length) (h1 : Op.bytesLess la[p].1 lb[q].1 = false) (h2 : Op.bytesLess lb[q].1 la[p].1 = false) :
    diffP (la.drop p) (lb.drop q) = (if la[p].2 = lb[q].2 then [] else [(lb[q].1, lb[q].2, false)]) ++ diffP (la.drop (p + 1)) (lb.drop (q + 1)) := by
  rw [List.drop_eq_getElem_cons hp, List.drop_eq_getElem_cons hq]
  by_cases h : la[p].2 = lb[q].2
  · rw [if_pos h, diffP_same h1 h2 h]; rfl
  · rw [if_neg h, diffP_other h1 h2 h]; rfl
theorem snocC (oL : List ChgT) (c : ChgT) : ((oL ++ [c]).map cellsC).flatten = (oL.map cellsC).flatten ++ cellsC c := by simp
/-- Under way. -/
def DiffAt (w W : World) (v : Value) (la lb : List PairT) (i k : Nat) : Prop := ∃ oL : List ChgT, W.ownsRow w.heap.size 31 3 v oL.length (oL.map cellsC).flatten ∧ oL ++ diffP (la.drop i) (lb.drop k) = diffP la lb ∧ oL.length ≤ i + k ∧ Below w.heap.size w W
theorem DiffAt.bel {w W : World} {v : Value} {la lb : List PairT} {i k : Nat} (h : DiffAt w W v la lb i k) : Below w.heap.size w W := by
  obtain ⟨_, _, _, _, h⟩ := h
  exact h
/-- One more. -/
theorem DiffAt.next {w W W' : World} {v v' : Value} {la lb : List PairT} {i k i' k' : Nat} {oL : List ChgT} {c : ChgT} {o : Obj} {n : Nat} (hr : W.ownsRow w.heap.size 31 3 v oL.length (oL.map cellsC).flatten) (hb : Below w.heap.size w W)
    (he : oL ++ diffP (la.drop i) (lb.drop k) = diffP la lb) (hd : diffP (la.drop i) (lb.drop k) = c :: diffP (la.drop i') (lb.drop k')) (hl : oL.length ≤ i + k) (hik : i + k + 1 ≤ i' + k')
    (h1 : W'.ownsRow w.heap.size 31 3 v' (oL.length + 1) ((oL.map cellsC).flatten ++ cellsC c)) (h2 : ((W.alloc o).drewN n).grownBy W' v.ownBlock) : DiffAt w W' v' la lb i' k' := by
  refine ⟨oL ++ [c], by rw [snocC, List.length_append]; exact h1, by rw [List.append_assoc, ← he, hd]; rfl, by simp; omega, ?_⟩
  have hs := hb.size
  exact (Below.drewsN (hb.alloc hs o) n).grown h2 (by show w.heap.size ≤ (W.alloc o).heap.size; simp; omega) (fun j ej => (World.ownsRow.lt hr j ej).1)
theorem one_cellsC (c : ChgT) : ∀ u ∈ cellsC c, u.oneCell' = true := by
  intro u hu
  simp only [cellsC, List.mem_cons, List.not_mem_nil, or_false] at hu
  rcases hu with rfl | rfl | rfl <;> rfl
set_option maxRecDepth 100000 in
set_option maxHeartbeats 16000000 in
theorem diff_any (va vb : Value) (la lb : List PairT) (w : World) (ha : RdP w va la) (hb : RdP w vb lb) (hla : la.length ≤ 1000000) (hlb : lb.length ≤ 1000000) :
    Calls Try.prog 11 #[va, vb] w fun e w' => ∃ u, e = .returned u ∧ RdC w' u (diffP la lb) ∧ Below w.heap.size w w' := by
  obtain ⟨av, cv, rfl, _⟩ := ha.form
  obtain ⟨aw, cw, rfl, _⟩ := hb.form
  obtain ⟨i0, hi, hz0, hz1, hz2⟩ := info_parts infoRC
  have HA := Lib.hid ha
  have HB := Lib.hid hb
  clear ha hb
  go_enter Try.func11, Try.ntmps11
  go_wp2_with fail
  go_loopw [5, 6, 7] (fun o i k wr => ∃ p q : Nat, p ≤ la.length ∧ q ≤ lb.length ∧ i = .int .i64 (p : Int) ∧ k = .int .i64 (q : Int) ∧ Hid (DiffAt w wr o la lb p q)) (fun _ i k _ => (la.length - (intOf i).toNat) + (lb.length - (intOf k).toNat))
  case atStart => exact ⟨0, 0, Nat.zero_le _, Nat.zero_le _, rfl, rfl, Lib.hid ⟨[], World.ownsRow_nil w _ _ 3, rfl, by simp, Below.refl _ _⟩⟩
  case round =>
    obtain ⟨p, q, hp, hq, rfl, rfl, HR⟩ := hrel
    obtain ⟨vo, hvo⟩ : ∃ v, v = u5 := ⟨_, rfl⟩
    subst hvo
    obtain ⟨oL, hrow, heq, hlen, hbel⟩ := HR.out
    have HE := Lib.hid heq
    have HL := Lib.hid hlen
    have HW := Lib.hid (And.intro hrow hbel)
    clear hrow heq hlen hbel HR
    have e1 : (0 : Int) ≤ (p : Int) := by omega
    have e2 : (0 : Int) ≤ (q : Int) := by omega
    by_cases h1 : p < la.length
    · have g1 : (p : Int) < (la.length : Int) := by omega
      have g1d : decide ((p : Int) < (la.length : Int)) = true := by simp; omega
      have g1n : ((p : Int) == (la.length : Int)) = false := by simp; omega
      obtain ⟨bA, oA, rfl, c0, c1⟩ := HA.out.get h1
      obtain ⟨⟨ak, av1⟩, hac⟩ : ∃ c, c = la[p] := ⟨_, rfl⟩
      rw [← hac] at c0 c1
      dsimp only at c0 c1
      have hlA := World.block_lt_of_cell? w _ c0
      have HKA : Hid (∀ W, Below w.heap.size w W → W.cell? ⟨bA, oA + p * 2, none⟩ = some (str ak) ∧ W.cell? ⟨bA, oA + p * 2 + 1, none⟩ = some (str av1)) := Lib.hid (fun W h => by
        have h3 : bA < w.heap.size := hlA
        rw [h.cell (p := ⟨bA, oA + p * 2, none⟩) h3, h.cell (p := ⟨bA, oA + p * 2 + 1, none⟩) h3]
        exact ⟨c0, c1⟩)
      have HAC := Lib.hid hac
      obtain ⟨a0, a1⟩ := HKA.out wr HW.out.2
      clear c0 c1 hlA hac
      by_cases h2 : q < lb.length
      · have g2 : (q : Int) < (lb.length : Int) := by omega
        have g2d : decide ((q : Int) < (lb.length : Int)) = true := by simp; omega
        have g2n : ((q : Int) == (lb.length : Int)) = false := by simp; omega
        have g2w : IntKind.i64.wrap ((q : Int) + 1) = (q : Int) + 1 := IntWalk.i64_in _ ⟨by omega, by omega⟩
        obtain ⟨bB, oB, rfl, c0, c1⟩ := HB.out.get h2
        obtain ⟨⟨bk, bv1⟩, hbc⟩ : ∃ c, c = lb[q] := ⟨_, rfl⟩
        rw [← hbc] at c0 c1
        dsimp only at c0 c1
        have hlB := World.block_lt_of_cell? w _ c0
        have HKB : Hid (∀ W, Below w.heap.size w W → W.cell? ⟨bB, oB + q * 2, none⟩ = some (str bk) ∧ W.cell? ⟨bB, oB + q * 2 + 1, none⟩ = some (str bv1)) := Lib.hid (fun W h => by
          have h3 : bB < w.heap.size := hlB
          rw [h.cell (p := ⟨bB, oB + q * 2, none⟩) h3, h.cell (p := ⟨bB, oB + q * 2 + 1, none⟩) h3]
          exact ⟨c0, c1⟩)
        have HBC := Lib.hid hbc
        obtain ⟨b0, b1⟩ := HKB.out wr HW.out.2
        clear c0 c1 hlB hbc HA HB
        cases hl : Op.bytesLess ak bk with
        | true =>
          have HD : Hid (diffP (la.drop p) (lb.drop q) = (ak, [], true) :: diffP (la.drop (p + 1)) (lb.drop q)) := Lib.hid (by
            have := diff_gone h1 hq (fun h => by rw [← HAC.out, ← HBC.out]; exact hl)
            rw [← HAC.out] at this; exact this)
          go_wp2_with fail
          go_quiet (fail)
          clear HAC HBC HKB b0 b1
          obtain ⟨W1, hW1⟩ : ∃ W, W = wr.drewN nq := ⟨_, rfl⟩
          rw [← hW1]
          have HW := Lib.hid (show W1.ownsRow w.heap.size 31 3 vo oL.length (oL.map cellsC).flatten ∧ Below w.heap.size w W1 by rw [hW1]; exact ⟨HW.out.1, Below.drewsN HW.out.2 _⟩)
          clear a0 a1
          obtain ⟨a0, a1⟩ := HKA.out W1 HW.out.2
          clear hW1
          have HW5 := HW
          have HRW : Hid (Below w.heap.size w W1) := Lib.hid HW5.out.2
          clear HW HKA a1
          go_wp2_with (at_builtin; refine hold ?_)
          intro _
          refine wpList_appendF (by rfl) _ _ 27 (by rfl) w.heap.size 31 i0 _ 3 40 Try.underlying27 hi hz0 hz1 hz2 rfl (by decide) vo oL.length _ (by rfl) (World.ownsRow.alloc HW5.out.1 _) (.slice (some ⟨W1.heap.size, 0, none⟩) 1 1) [cellsC (ak, [], true)] (by simp [cellsC]) (by simp [cellsC, Value.oneCell']) (by rfl) (RdF.lit [cellsC (ak, [], true)] (by simp [cellsC]) (heap_alloc_new _ _) rfl (by simp)) (fun c h => by cases h) (by have := HL.out; simp [maxLen]; omega) (by have := HL.out; simp; omega) (by have := HW5.out.2.size; simp; omega) ?_
          intro v7 w7 ho7 hg7
          have HN : Hid (DiffAt w w7 v7 la lb (p + 1) q) := Lib.hid (DiffAt.next (n := 0) HW5.out.1 HW5.out.2 HE.out HD.out HL.out (by omega) (by simpa using ho7) hg7)
          clear ho7 hg7 HW5 HE HD a0
          go_wp2_with fail
          go_roundw
          case rel => exact ⟨p + 1, q, by omega, by omega, by go_num, rfl, HN⟩
          case measure => simp [intOf]; omega
        | false =>
          cases hm : Op.bytesLess bk ak with
          | true =>
            have HD : Hid (diffP (la.drop p) (lb.drop q) = (bk, bv1, false) :: diffP (la.drop p) (lb.drop (q + 1))) := Lib.hid (by
              have := diff_new h2 hp (fun h => by rw [← HAC.out, ← HBC.out]; exact ⟨hl, hm⟩)
              rw [← HBC.out] at this; exact this)
            go_wp2_with fail
            go_quiet (fail)
            obtain ⟨W1, hW1⟩ : ∃ W, W = wr.drewN nq := ⟨_, rfl⟩
            rw [← hW1]
            have HW := Lib.hid (show W1.ownsRow w.heap.size 31 3 vo oL.length (oL.map cellsC).flatten ∧ Below w.heap.size w W1 by rw [hW1]; exact ⟨HW.out.1, Below.drewsN HW.out.2 _⟩)
            clear a0 a1
            clear b0 b1
            obtain ⟨a0, a1⟩ := HKA.out W1 HW.out.2
            obtain ⟨b0, b1⟩ := HKB.out W1 HW.out.2
            clear hW1
            go_wp2_with fail
            go_quiet (fail)
            clear HAC HBC HKA a0 a1
            obtain ⟨W2, hW2⟩ : ∃ W, W = W1.drewN nq := ⟨_, rfl⟩
            rw [← hW2]
            have HW := Lib.hid (show W2.ownsRow w.heap.size 31 3 vo oL.length (oL.map cellsC).flatten ∧ Below w.heap.size w W2 by rw [hW2]; exact ⟨HW.out.1, Below.drewsN HW.out.2 _⟩)
            clear b0 b1
            obtain ⟨b0, b1⟩ := HKB.out W2 HW.out.2
            clear hW2
            have HW5 := HW
            have HW6 : Hid (W2.drew.ownsRow w.heap.size 31 3 vo oL.length (oL.map cellsC).flatten ∧ Below w.heap.size w W2.drew) := Lib.hid ⟨HW5.out.1, Below.drewsN HW5.out.2 1⟩
            have HDD := Lib.hid (HKB.out W2.drew HW6.out.2)
            have HAA : Hid (Below w.heap.size w (W2.alloc (.cells #[str bk, str bv1, .bool false] 31)).drew) := Lib.hid (Below.drewsN (HW5.out.2.alloc HW5.out.2.size _) 1)
            have hsz : w.heap.size ≤ W2.heap.size := HW5.out.2.size
            clear HW b0 b1
            go_wp2_with fail
            go_region_held3 (fun W => W.cell? ⟨bB, oB + q * 2, none⟩ = some (str bk) ∧ W.cell? ⟨bB, oB + q * 2 + 1, none⟩ = some (str bv1))
              (first
                | (exact HKB.out _ (DiffAt.bel HN.out))
                | (exact HKB.out _ HAA.out)
                | (exact HDD.out)
                | go_keep)
              ((first
                | (refine step_appendN (by rfl) _ _ 27 (by rfl) (size := 3) (bytes := 40) Try.underlying27 hi hz0 hz1 hz2 rfl (by decide) (by rfl) (World.ownsRow.alloc HW6.out.1 _) [str bk, str bv1, .bool false] (by rfl) (heap_alloc_new _ _) rfl (one_cellsC (bk, bv1, false)) ?_ ?_ ?_ ?_
                   · have := HL.out; unfold maxLen; omega
                   · have := HL.out; omega
                   · simp; omega
                   intro v7 w7 ho7 hg7
                   have HN : Hid (DiffAt w w7 v7 la lb p (q + 1)) := Lib.hid (DiffAt.next (n := 0) HW6.out.1 HW6.out.2 HE.out HD.out HL.out (by omega) ho7 hg7)
                   clear ho7 hg7)
                | fail))
            all_goals
              go_wp2_with fail
              go_roundw
              case rel => exact ⟨p, q + 1, by omega, by omega, rfl, by go_num, HN⟩
              case measure => simp [intOf]; omega
          | false =>
            by_cases hv : av1 = bv1
            · subst hv
              have HD : Hid (diffP (la.drop p) (lb.drop q) = diffP (la.drop (p + 1)) (lb.drop (q + 1))) := Lib.hid (by
                have := diff_both h1 h2 (by rw [← HAC.out, ← HBC.out]; exact hl) (by rw [← HAC.out, ← HBC.out]; exact hm)
                rw [← HAC.out, ← HBC.out, if_pos rfl] at this; exact this)
              have n1 : (av1 != av1) = false := bne_self_eq_false _
              go_wp2_with fail
              go_quiet (fail)
              obtain ⟨W1, hW1⟩ : ∃ W, W = wr.drewN nq := ⟨_, rfl⟩
              rw [← hW1]
              have HW := Lib.hid (show W1.ownsRow w.heap.size 31 3 vo oL.length (oL.map cellsC).flatten ∧ Below w.heap.size w W1 by rw [hW1]; exact ⟨HW.out.1, Below.drewsN HW.out.2 _⟩)
              clear a0 a1
              clear b0 b1
              obtain ⟨a0, a1⟩ := HKA.out W1 HW.out.2
              obtain ⟨b0, b1⟩ := HKB.out W1 HW.out.2
              clear hW1
              go_wp2_with fail
              go_quiet (fail)
              obtain ⟨W2, hW2⟩ : ∃ W, W = W1.drewN nq := ⟨_, rfl⟩
              rw [← hW2]
              have HW := Lib.hid (show W2.ownsRow w.heap.size 31 3 vo oL.length (oL.map cellsC).flatten ∧ Below w.heap.size w W2 by rw [hW2]; exact ⟨HW.out.1, Below.drewsN HW.out.2 _⟩)
              clear a0 a1
              clear b0 b1
              obtain ⟨a0, a1⟩ := HKA.out W2 HW.out.2
              obtain ⟨b0, b1⟩ := HKB.out W2 HW.out.2
              clear hW2
              go_wp2_with fail
              go_quiet (fail)
              obtain ⟨W3, hW3⟩ : ∃ W, W = W2.drewN nq := ⟨_, rfl⟩
              rw [← hW3]
              have HW := Lib.hid (show W3.ownsRow w.heap.size 31 3 vo oL.length (oL.map cellsC).flatten ∧ Below w.heap.size w W3 by rw [hW3]; exact ⟨HW.out.1, Below.drewsN HW.out.2 _⟩)
              clear a0 a1
              clear b0 b1
              obtain ⟨a0, a1⟩ := HKA.out W3 HW.out.2
              obtain ⟨b0, b1⟩ := HKB.out W3 HW.out.2
              clear hW3
              go_wp2_with fail
              go_roundw
              case rel => exact ⟨p + 1, q + 1, by omega, by omega, by go_num, by go_num, Lib.hid ⟨oL, HW.out.1, by rw [← HD.out]; exact HE.out, by have := HL.out; omega, HW.out.2⟩⟩
              case measure => simp [intOf]; omega
            · have HD : Hid (diffP (la.drop p) (lb.drop q) = (bk, bv1, false) :: diffP (la.drop (p + 1)) (lb.drop (q + 1))) := Lib.hid (by
                have := diff_both h1 h2 (by rw [← HAC.out, ← HBC.out]; exact hl) (by rw [← HAC.out, ← HBC.out]; exact hm)
                rw [← HAC.out, ← HBC.out, if_neg hv] at this; exact this)
              have n1 : (av1 == bv1) = false := by simpa using hv
              go_wp2_with fail
              go_quiet (fail)
              obtain ⟨W1, hW1⟩ : ∃ W, W = wr.drewN nq := ⟨_, rfl⟩
              rw [← hW1]
              have HW := Lib.hid (show W1.ownsRow w.heap.size 31 3 vo oL.length (oL.map cellsC).flatten ∧ Below w.heap.size w W1 by rw [hW1]; exact ⟨HW.out.1, Below.drewsN HW.out.2 _⟩)
              clear a0 a1
              clear b0 b1
              obtain ⟨a0, a1⟩ := HKA.out W1 HW.out.2
              obtain ⟨b0, b1⟩ := HKB.out W1 HW.out.2
              clear hW1
              go_wp2_with fail
              go_quiet (fail)
              obtain ⟨W2, hW2⟩ : ∃ W, W = W1.drewN nq := ⟨_, rfl⟩
              rw [← hW2]
              have HW := Lib.hid (show W2.ownsRow w.heap.size 31 3 vo oL.length (oL.map cellsC).flatten ∧ Below w.heap.size w W2 by rw [hW2]; exact ⟨HW.out.1, Below.drewsN HW.out.2 _⟩)
              clear a0 a1
              clear b0 b1
              obtain ⟨a0, a1⟩ := HKA.out W2 HW.out.2
              obtain ⟨b0, b1⟩ := HKB.out W2 HW.out.2
              clear hW2
              go_wp2_with fail
              go_quiet (fail)
              clear HAC HBC HKA a0 a1 hv
              obtain ⟨W3, hW3⟩ : ∃ W, W = W2.drewN nq := ⟨_, rfl⟩
              rw [← hW3]
              have HW := Lib.hid (show W3.ownsRow w.heap.size 31 3 vo oL.length (oL.map cellsC).flatten ∧ Below w.heap.size w W3 by rw [hW3]; exact ⟨HW.out.1, Below.drewsN HW.out.2 _⟩)
              clear b0 b1
              obtain ⟨b0, b1⟩ := HKB.out W3 HW.out.2
              clear hW3
              have HW5 := HW
              have HW6 : Hid (W3.drew.ownsRow w.heap.size 31 3 vo oL.length (oL.map cellsC).flatten ∧ Below w.heap.size w W3.drew) := Lib.hid ⟨HW5.out.1, Below.drewsN HW5.out.2 1⟩
              have HDD := Lib.hid (HKB.out W3.drew HW6.out.2)
              have HAA : Hid (Below w.heap.size w (W3.alloc (.cells #[str bk, str bv1, .bool false] 31)).drew) := Lib.hid (Below.drewsN (HW5.out.2.alloc HW5.out.2.size _) 1)
              have hsz : w.heap.size ≤ W3.heap.size := HW5.out.2.size
              clear HW b0 b1
              go_wp2_with fail
              go_region_held3 (fun W => W.cell? ⟨bB, oB + q * 2, none⟩ = some (str bk) ∧ W.cell? ⟨bB, oB + q * 2 + 1, none⟩ = some (str bv1))
                (first
                  | (exact HKB.out _ (DiffAt.bel HN.out))
                  | (exact HKB.out _ HAA.out)
                  | (exact HDD.out)
                  | go_keep)
                ((first
                  | (refine step_appendN (by rfl) _ _ 27 (by rfl) (size := 3) (bytes := 40) Try.underlying27 hi hz0 hz1 hz2 rfl (by decide) (by rfl) (World.ownsRow.alloc HW6.out.1 _) [str bk, str bv1, .bool false] (by rfl) (heap_alloc_new _ _) rfl (one_cellsC (bk, bv1, false)) ?_ ?_ ?_ ?_
                     · have := HL.out; unfold maxLen; omega
                     · have := HL.out; omega
                     · simp; omega
                     intro v7 w7 ho7 hg7
                     have HN : Hid (DiffAt w w7 v7 la lb (p + 1) (q + 1)) := Lib.hid (DiffAt.next (n := 0) HW6.out.1 HW6.out.2 HE.out HD.out HL.out (by omega) ho7 hg7)
                     clear ho7 hg7)
                  | fail))
              all_goals
                go_wp2_with fail
                go_roundw
                case rel => exact ⟨(p + 1), q + 1, by omega, by omega, by go_num, by go_num, HN⟩
                case measure => simp [intOf]; omega
      · obtain rfl : q = lb.length := by omega
        have g2 : ¬ (lb.length : Int) < (lb.length : Int) := by omega
        have g2d : decide ((lb.length : Int) < (lb.length : Int)) = false := by simp
        have HD : Hid (diffP (la.drop p) (lb.drop lb.length) = (ak, [], true) :: diffP (la.drop (p + 1)) (lb.drop lb.length)) := Lib.hid (by
          have := diff_gone h1 hq (fun h => absurd h (by omega))
          rw [← HAC.out] at this; exact this)
        clear HA HB HAC
        go_wp2_with fail
        go_quiet (fail)
        obtain ⟨W1, hW1⟩ : ∃ W, W = wr.drewN nq := ⟨_, rfl⟩
        rw [← hW1]
        have HW := Lib.hid (show W1.ownsRow w.heap.size 31 3 vo oL.length (oL.map cellsC).flatten ∧ Below w.heap.size w W1 by rw [hW1]; exact ⟨HW.out.1, Below.drewsN HW.out.2 _⟩)
        clear a0 a1
        obtain ⟨a0, a1⟩ := HKA.out W1 HW.out.2
        clear hW1
        have HW5 := HW
        have HRW : Hid (Below w.heap.size w W1) := Lib.hid HW5.out.2
        clear HW HKA a1
        go_wp2_with (at_builtin; refine hold ?_)
        intro _
        refine wpList_appendF (by rfl) _ _ 27 (by rfl) w.heap.size 31 i0 _ 3 40 Try.underlying27 hi hz0 hz1 hz2 rfl (by decide) vo oL.length _ (by rfl) (World.ownsRow.alloc HW5.out.1 _) (.slice (some ⟨W1.heap.size, 0, none⟩) 1 1) [cellsC (ak, [], true)] (by simp [cellsC]) (by simp [cellsC, Value.oneCell']) (by rfl) (RdF.lit [cellsC (ak, [], true)] (by simp [cellsC]) (heap_alloc_new _ _) rfl (by simp)) (fun c h => by cases h) (by have := HL.out; simp [maxLen]; omega) (by have := HL.out; simp; omega) (by have := HW5.out.2.size; simp; omega) ?_
        intro v7 w7 ho7 hg7
        have HN : Hid (DiffAt w w7 v7 la lb (p + 1) lb.length) := Lib.hid (DiffAt.next (n := 0) HW5.out.1 HW5.out.2 HE.out HD.out HL.out (by omega) (by simpa using ho7) hg7)
        clear ho7 hg7 HW5 HE HD a0
        go_wp2_with fail
        go_roundw
        case rel => exact ⟨p + 1, lb.length, by omega, by omega, by go_num, rfl, HN⟩
        case measure => simp [intOf]; omega
    · obtain rfl : p = la.length := by omega
      have g1 : ¬ (la.length : Int) < (la.length : Int) := by omega
      have g1d : decide ((la.length : Int) < (la.length : Int)) = false := by simp
      by_cases h2 : q < lb.length
      · have g2 : (q : Int) < (lb.length : Int) := by omega
        have g2d : decide ((q : Int) < (lb.length : Int)) = true := by simp; omega
        have g2n : ((q : Int) == (lb.length : Int)) = false := by simp; omega
        have g2w : IntKind.i64.wrap ((q : Int) + 1) = (q : Int) + 1 := IntWalk.i64_in _ ⟨by omega, by omega⟩
        obtain ⟨bB, oB, rfl, c0, c1⟩ := HB.out.get h2
        obtain ⟨⟨bk, bv1⟩, hbc⟩ : ∃ c, c = lb[q] := ⟨_, rfl⟩
        rw [← hbc] at c0 c1
        dsimp only at c0 c1
        have hlB := World.block_lt_of_cell? w _ c0
        have HKB : Hid (∀ W, Below w.heap.size w W → W.cell? ⟨bB, oB + q * 2, none⟩ = some (str bk) ∧ W.cell? ⟨bB, oB + q * 2 + 1, none⟩ = some (str bv1)) := Lib.hid (fun W h => by
          have h3 : bB < w.heap.size := hlB
          rw [h.cell (p := ⟨bB, oB + q * 2, none⟩) h3, h.cell (p := ⟨bB, oB + q * 2 + 1, none⟩) h3]
          exact ⟨c0, c1⟩)
        obtain ⟨b0, b1⟩ := HKB.out wr HW.out.2
        have HD : Hid (diffP (la.drop la.length) (lb.drop q) = (bk, bv1, false) :: diffP (la.drop la.length) (lb.drop (q + 1))) := Lib.hid (by
          have := diff_new h2 hp (fun h => absurd h (by omega))
          rw [← hbc] at this; exact this)
        clear c0 c1 hlB hbc HA HB
        go_wp2_with fail
        go_quiet (fail)
        obtain ⟨W1, hW1⟩ : ∃ W, W = wr.drewN nq := ⟨_, rfl⟩
        rw [← hW1]
        have HW := Lib.hid (show W1.ownsRow w.heap.size 31 3 vo oL.length (oL.map cellsC).flatten ∧ Below w.heap.size w W1 by rw [hW1]; exact ⟨HW.out.1, Below.drewsN HW.out.2 _⟩)
        clear b0 b1
        obtain ⟨b0, b1⟩ := HKB.out W1 HW.out.2
        clear hW1
        go_wp2_with fail
        go_quiet (fail)
        obtain ⟨W2, hW2⟩ : ∃ W, W = W1.drewN nq := ⟨_, rfl⟩
        rw [← hW2]
        have HW := Lib.hid (show W2.ownsRow w.heap.size 31 3 vo oL.length (oL.map cellsC).flatten ∧ Below w.heap.size w W2 by rw [hW2]; exact ⟨HW.out.1, Below.drewsN HW.out.2 _⟩)
        clear b0 b1
        obtain ⟨b0, b1⟩ := HKB.out W2 HW.out.2
        clear hW2
        have HW5 := HW
        have HW6 : Hid (W2.drew.ownsRow w.heap.size 31 3 vo oL.length (oL.map cellsC).flatten ∧ Below w.heap.size w W2.drew) := Lib.hid ⟨HW5.out.1, Below.drewsN HW5.out.2 1⟩
        have HDD := Lib.hid (HKB.out W2.drew HW6.out.2)
        have HAA : Hid (Below w.heap.size w (W2.alloc (.cells #[str bk, str bv1, .bool false] 31)).drew) := Lib.hid (Below.drewsN (HW5.out.2.alloc HW5.out.2.size _) 1)
        have hsz : w.heap.size ≤ W2.heap.size := HW5.out.2.size
        clear HW b0 b1
        go_wp2_with fail
        go_region_held3 (fun W => W.cell? ⟨bB, oB + q * 2, none⟩ = some (str bk) ∧ W.cell? ⟨bB, oB + q * 2 + 1, none⟩ = some (str bv1))
          (first
            | (exact HKB.out _ (DiffAt.bel HN.out))
            | (exact HKB.out _ HAA.out)
            | (exact HDD.out)
            | go_keep)
          ((first
            | (refine step_appendN (by rfl) _ _ 27 (by rfl) (size := 3) (bytes := 40) Try.underlying27 hi hz0 hz1 hz2 rfl (by decide) (by rfl) (World.ownsRow.alloc HW6.out.1 _) [str bk, str bv1, .bool false] (by rfl) (heap_alloc_new _ _) rfl (one_cellsC (bk, bv1, false)) ?_ ?_ ?_ ?_
               · have := HL.out; unfold maxLen; omega
               · have := HL.out; omega
               · simp; omega
               intro v7 w7 ho7 hg7
               have HN : Hid (DiffAt w w7 v7 la lb la.length (q + 1)) := Lib.hid (DiffAt.next (n := 0) HW6.out.1 HW6.out.2 HE.out HD.out HL.out (by omega) ho7 hg7)
               clear ho7 hg7)
            | fail))
        all_goals
          go_wp2_with fail
          go_roundw
          case rel => exact ⟨la.length, q + 1, by omega, by omega, rfl, by go_num, HN⟩
          case measure => simp [intOf]; omega
      · obtain rfl : q = lb.length := by omega
        have g2 : ¬ (lb.length : Int) < (lb.length : Int) := by omega
        have g2d : decide ((lb.length : Int) < (lb.length : Int)) = false := by simp
        have hR : RdC wr vo (diffP la lb) := by
          have h := HE.out
          rw [List.drop_length, List.drop_length, diffP_end, List.map_nil, List.append_nil] at h
          rw [← h]
          exact RdF.of_row (cellsC_len oL) (by simpa using HW.out.1)
        have HRR := Lib.hid hR
        clear hR HA HB HE
        go_wp2_with fail
        go_ret
        exact ⟨_, rfl, HRR.out, HW.out.2⟩
end Go.Proofs.Yteibiaplmmdppaa
namespace Go.Proofs.Yteibiaplmmdppaa
open Go.RowKit

theorem infoPr : (Try.prog.info? 61).map (fun i => (i.zero, i.size, i.bytes)) = some (some (.agg #[str [], str []]), 2, 32) := by kernel_rfl
theorem snocP (ol : List PairT) (p : Nat) (x : List PairT) : ((ol.take p ++ x).map cellsP).flatten = ((ol.map cellsP).take p).flatten ++ (x.map cellsP).flatten := by simp [List.map_take]
theorem one_cellsP (l : List PairT) : ∀ u ∈ (l.map cellsP).flatten, u.oneCell' = true := by
  intro u hu
  obtain ⟨r, hr, hu⟩ := List.mem_flatten.1 hu
  obtain ⟨c, _, rfl⟩ := List.mem_map.1 hr
  simp only [cellsP, List.mem_cons, List.not_mem_nil, or_false] at hu
  rcases hu with rfl | rfl <;> rfl
/-- A row of pairs of the call's own. -/
structure FoldR (w W : World) (g cap : Nat) (ol : List PairT) : Prop where
  row : W.ownsRow w.heap.size 61 2 (.slice (some ⟨g, 0, none⟩) ol.length cap) ol.length (ol.map cellsP).flatten
  bel : Below w.heap.size w W
theorem FoldR.drewN {w W : World} {g cap : Nat} {ol : List PairT} (h : FoldR w W g cap ol) (n : Nat) : FoldR w (W.drewN n) g cap ol := ⟨h.row, Below.drewsN h.bel n⟩
theorem FoldR.rd {w W : World} {g cap : Nat} {ol : List PairT} (h : FoldR w W g cap ol) : RdP W (.slice (some ⟨g, 0, none⟩) ol.length cap) ol := RdF.of_row (cellsP_len ol) (by simpa using h.row)
theorem FoldR.cell {w W : World} {g cap : Nat} {ol : List PairT} (h : FoldR w W g cap ol) {i : Nat} (hi : i < ol.length) : W.cell? ⟨g, i * 2, none⟩ = some (str ol[i].1) ∧ W.cell? ⟨g, i * 2 + 1, none⟩ = some (str ol[i].2) := by
  obtain ⟨b, off, e, c0, c1⟩ := h.rd.get hi
  simp only [Option.some.injEq, Addr.mk.injEq, and_true] at e
  obtain ⟨rfl, rfl⟩ := e
  rw [Nat.zero_add] at c0 c1
  exact ⟨c0, c1⟩
theorem FoldR.lt {w W : World} {g cap : Nat} {ol : List PairT} (h : FoldR w W g cap ol) : w.heap.size ≤ g := (h.row.lt g rfl).1
/-- What stands behind p. -/
theorem FoldR.behind {w W : World} {g cap p : Nat} {ol : List PairT} (h : FoldR w W g cap ol) (hp : p ≤ ol.length) {A : Option Addr} (hA : (if cap = p then (some ⟨g, 0, none⟩ : Option Addr) else some ⟨g, p * 2, none⟩) = A) :
    RdP W (.slice A (ol.length - p) (cap - p)) (ol.drop p) := by
  have := rdf_behind (sz := 2) (p := p) (cellsP_len ol) (by simpa using h.row) (by simpa using hp) hA
  simpa [RdP, List.map_drop] using this
theorem FoldR.ahead {w W : World} {g cap p : Nat} {ol : List PairT} (h : FoldR w W g cap ol) (hp : p ≤ ol.length) : W.ownsRow w.heap.size 61 2 (.slice (some ⟨g, 0, none⟩) p cap) p ((ol.map cellsP).take p).flatten := by
  have := row_takeF h.row hp
  rwa [flat_take 2 _ (cellsP_len ol)] at this
theorem ite_none {g p cap n m c : Nat} (h : (Value.slice (if cap = p then (some ⟨g, 0, none⟩ : Option Addr) else some ⟨g, p * 2, none⟩) n m) = .slice none 0 c) : c = 0 := by
  split at h <;> simp at h
/-- A row that has grown. -/
theorem FoldR.next {w W W' : World} {g cap p : Nat} {ol x : List PairT} {g' c' : Nat} (h : FoldR w W g cap ol) (h1 : W'.ownsRow w.heap.size 61 2 (.slice (some ⟨g', 0, none⟩) (p + (x.map cellsP).length) c') (p + (x.map cellsP).length) (((ol.map cellsP).take p).flatten ++ (x.map cellsP).flatten)) (hp : p ≤ ol.length) (hg : W.grownBy W' (some g)) :
    p + (x.map cellsP).length = (ol.take p ++ x).length ∧ FoldR w W' g' c' (ol.take p ++ x) := by
  have hl : (ol.take p ++ x).length = p + (x.map cellsP).length := by rw [List.length_append, List.length_take, Nat.min_eq_left hp, List.length_map]
  refine ⟨hl.symm, by rw [hl, snocP]; exact h1, h.bel.grown hg h.bel.size (fun k e => by cases e; exact h.lt)⟩
theorem ins_row20 {W : World} {base g c p : Nat} {ol : List PairT} {q : PairT} (h : W.ownsRow base 61 2 (.slice (some ⟨g, 0, none⟩) (1 + ((ol.drop p).map cellsP).length) c) (1 + ((ol.drop p).map cellsP).length) ([cellsP q].flatten ++ ((ol.drop p).map cellsP).flatten)) (m : Nat) (hm : m = 1 + (ol.length - p)) :
    RdF 2 W (.slice (some ⟨g, 0, none⟩) m c) ((q :: ol.drop p).map cellsP) := by
  subst hm
  have e : ((q :: ol.drop p).map cellsP).length = 1 + ((ol.drop p).map cellsP).length := by simp; omega
  have e2 : ((ol.drop p).map cellsP).length = ol.length - p := by simp
  rw [← e2, ← e]
  rw [← e] at h
  exact RdF.of_row (cellsP_len _) (by simpa using h)
/-- A new row beside it. -/
theorem FoldR.grown {w W W' : World} {g cap : Nat} {ol : List PairT} {row : Option Nat} (h : FoldR w W g cap ol) (hg : W.grownBy W' row) (h1 : ∀ j, row = some j → w.heap.size ≤ j ∧ j ≠ g) : FoldR w W' g cap ol := by
  refine ⟨h.row.kept hg ?_, h.bel.grown hg h.bel.size (fun k e => (h1 k e).1)⟩
  cases hr : row with
  | none => exact .inr (by rintro ⟨⟩)
  | some j => exact .inr (by rintro ⟨⟩; exact (h1 _ hr).2 rfl)
/-- A value stored over another one. -/
theorem FoldR.set {w W : World} {g cap p : Nat} {ol : List PairT} (h : FoldR w W g cap ol) (hp : p < ol.length) (v : List UInt8) : FoldR w (W.setCell ⟨g, p * 2 + 1, none⟩ (str v)) g cap (ol.take p ++ (ol[p].1, v) :: ol.drop (p + 1)) := by
  have hs := World.ownsRow.stored h.row (p * 2 + 1) (str v)
  have hl : (ol.take p ++ (ol[p].1, v) :: ol.drop (p + 1)).length = ol.length := by simp; omega
  have e : (ol.map cellsP).flatten.set (p * 2 + 1) (str v) = ((ol.take p ++ (ol[p].1, v) :: ol.drop (p + 1)).map cellsP).flatten := by
    rw [flat_set 2 _ (cellsP_len ol) p (by simpa using hp) 1 (by decide)]
    congr 1
    rw [List.set_eq_take_append_cons_drop]
    simp [hp, cellsP, List.map_take, List.map_drop]
  refine ⟨?_, ?_⟩
  · rw [hl, ← e]; exact hs.1
  · exact h.bel.setCell (p := ⟨g, p * 2 + 1, none⟩) (by show w.heap.size ≤ g; exact h.lt) _
set_option maxRecDepth 100000 in
set_option maxHeartbeats 16000000 in
theorem fold20_any (va vb : Value) (M : List PairT) (L : List ChgT) (w : World) (ha : RdP w va M) (hnil : ∀ c, va = .slice none 0 c → c = 0) (hb : RdC w vb L) (hla : M.length ≤ 1000000) (hlb : L.length ≤ 1000000) (hris : RisP M) :
    Calls Try.prog 23 #[va, vb] w fun e w' => ∃ g cap, e = .returned (.slice (some ⟨g, 0, none⟩) (foldPP M L).length cap) ∧ FoldR w w' g cap (foldPP M L) := by
  obtain ⟨aw, cw, rfl, _⟩ := hb.form
  obtain ⟨i0, hi, hz0, hz1, hz2⟩ := info_parts infoPr
  have HA := Lib.hid (And.intro ha hnil)
  have HB := Lib.hid hb
  have HRI := Lib.hid hris
  clear ha hb hnil hris
  go_enter Try.func23, Try.ntmps23
  go_wp2_with (at_builtin; refine hold ?_)
  intro _
  refine wpList_appendG (by rfl) _ _ 22 (by rfl) w.heap.size 61 i0 _ 2 32 Try.underlying22 hi hz0 hz1 hz2 rfl (by decide) w.heap.size 0 0 [] (by rfl) (World.ownsRow_lit (e := 61) (size := 2) w #[] 0 (Nat.le_refl _) (by decide) rfl) va (M.map cellsP) (cellsP_len M) (one_cellsP M) (by rfl) (RdF.below HA.out.1 (below_alloc w _) (Nat.le_refl _)) HA.out.2 ?_ ?_ ?_ ?_
  · rw [List.length_map]; simp [maxLen]; omega
  · rw [List.length_map]; omega
  · simp
  intro g0 c0 w0 ho0 hg0
  rw [List.length_map, Nat.zero_add, List.nil_append] at ho0
  have HF : Hid (FoldR w w0 g0 c0 M) := Lib.hid ⟨ho0, ((Below.refl _ w).alloc (Nat.le_refl _) _).grown hg0 (by simp) (fun k e => by cases e; exact Nat.le_refl _)⟩
  rw [List.length_map, Nat.zero_add]
  clear ho0 hg0 HA
  go_wp2_with fail
  go_loopw [5, 6] (fun o i wr => ∃ (k g cap : Nat) (ol : List PairT), k ≤ L.length ∧ i = .int .i64 (k : Int) ∧ o = .slice (some ⟨g, 0, none⟩) ol.length cap ∧ Hid (FoldR w wr g cap ol ∧ ol = foldPP M (L.take k) ∧ ol.length ≤ M.length + k)) (fun _ i _ => L.length - (intOf i).toNat)
  case atStart => exact ⟨0, g0, c0, M, Nat.zero_le _, rfl, rfl, Lib.hid ⟨HF.out, rfl, by simp⟩⟩
  case round =>
    obtain ⟨k, g, cap, ol, hk, rfl, rfl, HR⟩ := hrel
    clear HF
    by_cases hlt : k < L.length
    · have g1 : (k : Int) < (L.length : Int) := by omega
      have g2 : (0 : Int) ≤ (k : Int) := by omega
      have g2w : IntKind.i64.wrap ((k : Int) + 1) = (k : Int) + 1 := IntWalk.i64_in _ ⟨by omega, by omega⟩
      obtain ⟨bA, oA, rfl, c0, c1, c2⟩ := HB.out.get hlt
      obtain ⟨⟨ck, cv, cg⟩, hc⟩ : ∃ c, c = L[k] := ⟨_, rfl⟩
      rw [← hc] at c0 c1 c2
      dsimp only at c0 c1 c2
      have hlA := World.block_lt_of_cell? w _ c0
      have HKA : Hid (∀ W, Below w.heap.size w W → W.cell? ⟨bA, oA + k * 3, none⟩ = some (str ck) ∧ W.cell? ⟨bA, oA + k * 3 + 1, none⟩ = some (str cv) ∧ W.cell? ⟨bA, oA + k * 3 + 2, none⟩ = some (.bool cg)) := Lib.hid (fun W h => by
        have h3 : bA < w.heap.size := hlA
        rw [h.cell (p := ⟨bA, oA + k * 3, none⟩) h3, h.cell (p := ⟨bA, oA + k * 3 + 1, none⟩) h3, h.cell (p := ⟨bA, oA + k * 3 + 2, none⟩) h3]
        exact ⟨c0, c1, c2⟩)
      have HST := Lib.hid (show foldPP M (L.take (k + 1)) = chgDoP (foldPP M (L.take k)) (ck, cv, cg) by rw [foldPP_succ M hlt, ← hc])
      have HO := Lib.hid HR.out.2
      have HF := Lib.hid HR.out.1
      have hol : ol.length ≤ 2000000 := by have := HO.out.2; omega
      have hcap : ol.length ≤ cap := (row_cap HF.out.row).2.1
      clear c0 c1 c2 hlA hc HB HR
      obtain ⟨c0, c1, c2⟩ := HKA.out wr HF.out.bel
      go_wp2_with fail
      go_loopw [7] (fun kv wr2 => ∃ p q : Nat, p ≤ ol.length ∧ kv = .int .i64 (p : Int) ∧ Hid (∀ j (h : j < ol.length), j < p → Op.bytesLess ol[j].1 ck = true) ∧ wr2 = wr.drewN q) (fun kv _ => ol.length - (intOf kv).toNat)
      case atStart => exact ⟨0, 0, Nat.zero_le _, rfl, Lib.hid (fun j _ h => absurd h (by omega)), rfl⟩
      case round =>
        obtain ⟨p, q, hp, rfl, HP, rfl⟩ := hrel
        have g3z : (0 : Int) ≤ (p : Int) := by omega
        by_cases hpn : p < ol.length
        · have g3 : (p : Int) < (ol.length : Int) := by omega
          have g3d : decide ((p : Int) < (ol.length : Int)) = true := by simp; omega
          have g3w : IntKind.i64.wrap ((p : Int) + 1) = (p : Int) + 1 := IntWalk.i64_in _ ⟨by omega, by omega⟩
          obtain ⟨d0, d1⟩ := HF.out.cell hpn
          obtain ⟨⟨yk, yv⟩, hy⟩ : ∃ y, y = ol[p] := ⟨_, rfl⟩
          rw [← hy] at d0 d1
          dsimp only at d0 d1
          have HY := Lib.hid hy
          clear hy
          cases hless : Op.bytesLess yk ck with
          | true =>
            have HP2 : Hid (∀ j (h : j < ol.length), j < p + 1 → Op.bytesLess ol[j].1 ck = true) := Lib.hid (fun j h hj => by
              by_cases e : j = p
              · subst e; rw [← HY.out]; exact hless
              · exact HP.out j h (by omega))
            clear HY d1 c1 c2
            go_wp2_with fail
            go_quiet (fail)
            go_wp2_with fail
            go_roundw
            case rel => exact ⟨p + 1, _, by omega, by go_num, HP2, rfl⟩
            case measure => simp [intOf]; omega
          | false =>
            go_wp2_with fail
            go_quiet (fail)
            obtain ⟨W0, hW0⟩ : ∃ W, W = (wr.drewN q).drewN nq := ⟨_, rfl⟩
            rw [← hW0]
            have HF0 : Hid (FoldR w W0 g cap ol) := Lib.hid (by rw [hW0]; exact (HF.out.drewN _).drewN _)
            clear c0 c1 c2 d0 d1 hW0 HF
            obtain ⟨c0, c1, c2⟩ := HKA.out W0 HF0.out.bel
            obtain ⟨d0, d1⟩ := HF0.out.cell hpn
            rw [← HY.out] at d0 d1
            dsimp only at d0 d1
            by_cases hyk : yk = ck
            · subst hyk
              have t1 : (yk == yk) = true := by simp
              have HAS : ∃ h : p < ol.length, ol[p].1 = yk := ⟨hpn, by rw [← HY.out]⟩
              cases cg with
              | true =>
                have HD : Hid (chgDoP ol (yk, cv, true) = ol.take p ++ ol.drop (p + 1)) := Lib.hid (by
                  show delPP yk ol = _
                  rw [delPP_at yk hp HP.out (fun h => by rw [← HY.out]; exact hless) (by rw [HO.out.1]; exact foldPP_ris _ HRI.out), if_pos HAS])
                clear HAS HY HP
                have hpc : p ≤ cap := by omega
                have hp1 : p + 1 ≤ ol.length := by omega
                have hp1i : (p : Int) + 1 ≤ (ol.length : Int) := by omega
                have hp1z : (0 : Int) ≤ (p : Int) + 1 := by omega
                have hp1n : ((p : Int) + 1).toNat = p + 1 := by omega
                go_wp2_with fail
                go_quiet (fail)
                obtain ⟨W1, hW1⟩ : ∃ W, W = W0.drewN nq := ⟨_, rfl⟩
                rw [← hW1]
                have HF1 : Hid (FoldR w W1 g cap ol) := Lib.hid (by rw [hW1]; exact HF0.out.drewN _)
                clear c0 c1 c2 d0 d1 hW1 HF0
                obtain ⟨c0, c1, c2⟩ := HKA.out W1 HF1.out.bel
                go_wp2_with fail
                refine wp_region_any (by kernel_rfl) ?_
                change wpAny _ _ _ _ _ _ _ (World.drew _)
                generalize hWd : World.drew _ = W9
                have HF9 : Hid (FoldR w W9 g cap ol) := Lib.hid (by rw [← hWd]; exact HF1.out.drewN 1)
                clear HF1 c0 c1 c2
                clear hWd
                refine wpAny_take (i := 0) (v := ?v1) rfl (by kernel_rfl) (by kernel_rfl) (by kernel_rfl) (fun _ _ _ h => h) (Or.inl ⟨by rfl, ?hy1⟩) ?_
                case hy1 => (intro w; go_simp; try with_reducible rfl)
                go_simp
                refine wpAny_take (i := 1) (v := ?v2) rfl (by kernel_rfl) (by kernel_rfl) (by kernel_rfl) (fun _ _ _ h => h) (Or.inl ⟨by rfl, ?hy2⟩) ?_
                case hy2 => (intro w; go_simp; try with_reducible rfl)
                go_simp
                refine wpAny_take (i := 2) (v := ?v3) rfl (by kernel_rfl) (by kernel_rfl) (by kernel_rfl) (fun _ _ _ h => h) (Or.inl ⟨by rfl, ?hy3⟩) ?_
                case hy3 => (intro w; go_simp; try with_reducible rfl)
                go_simp
                refine wpAny_take (i := 3) (v := ?v4) rfl (by kernel_rfl) (by kernel_rfl) (by kernel_rfl) (fun _ _ _ h => h) (Or.inl ⟨by rfl, ?hy4⟩) ?_
                case hy4 => (intro w; go_simp; try with_reducible rfl)
                go_simp
                refine wpAny_take (i := 4) (v := ?v5) rfl (by kernel_rfl) (by kernel_rfl) (by kernel_rfl) (fun _ _ _ h => h) (Or.inl ⟨by rfl, ?hy5⟩) ?_
                case hy5 => (intro w; go_simp; try with_reducible rfl)
                go_simp
                refine wpAny_take (i := 5) (v := ?v6) rfl (by kernel_rfl) (by kernel_rfl) (by kernel_rfl) (fun _ _ _ h => h) (Or.inl ⟨by rfl, ?hy6⟩) ?_
                case hy6 => (intro w; go_simp; try with_reducible rfl)
                go_simp
                refine wpAny_take (i := 6) (v := ?v7) rfl (by kernel_rfl) (by kernel_rfl) (by kernel_rfl) (fun _ _ _ h => h) (Or.inl ⟨by rfl, ?hy7⟩) ?_
                case hy7 => (intro w; go_simp; try with_reducible rfl)
                go_simp
                refine wpAny_ready (rs := [7]) (by kernel_rfl) (by simp) (AllReady.cons rfl (fun K hK => ?_) AllReady.nil)
                refine step_appendG (by rfl) _ _ 22 (by rfl) w.heap.size 61 i0 _ 2 32 Try.underlying22 hi hz0 hz1 hz2 rfl (by decide) g cap p _ (by rfl) (HF9.out.ahead hp) _ ((ol.drop (p + 1)).map cellsP) (by first | exact cellsP_len _ | simp [cellsP]) (by first | exact one_cellsP _ | simp [cellsP, Value.oneCell']) (by rfl) ?_ (fun c h => by first | exact ite_none h | cases h) ?_ ?_ ?_ ?_
                · exact HF9.out.behind (p := p + 1) (by omega) rfl
                · simp [maxLen]; omega
                · simp; omega
                · exact HF9.out.bel.size
                intro g2 c2 W2 r2 gr2
                refine hK _ _ ?_
                clear hK K
                obtain ⟨e2, HN⟩ := HF9.out.next r2 hp gr2
                go_simp
                refine wpAny_take (i := 8) (v := ?v8) rfl (by kernel_rfl) (by kernel_rfl) (by kernel_rfl) (fun _ _ _ h => h) (Or.inl ⟨by rfl, ?hy8⟩) ?_
                case hy8 => (intro w; go_simp; try with_reducible rfl)
                go_simp
                refine wpAny_done (by kernel_rfl) ?_ _
                have HFN := Lib.hid HN
                have HLN := Lib.hid (chgDoP_len ol (yk, cv, true))
                clear HN r2 gr2 e2
                go_wp2_with fail
                go_roundw
                case rel => exact ⟨k + 1, g2, c2, ol.take p ++ ol.drop (p + 1), by omega, by go_num, by congr 1; simp; try omega, Lib.hid ⟨HFN.out, by rw [HST.out, ← HO.out.1, HD.out], by have := HO.out.2; have := HLN.out; rw [HD.out] at this; omega⟩⟩
                case measure => simp [intOf]; omega
              | false =>
                have HD : Hid (chgDoP ol (yk, cv, false) = ol.take p ++ (yk, cv) :: ol.drop (p + 1)) := Lib.hid (by
                  show insPP yk cv ol = _
                  rw [insPP_at yk cv hp HP.out (fun h => by rw [← HY.out]; exact hless), if_pos HAS])
                have HNL : Hid ((ol.take p ++ (yk, cv) :: ol.drop (p + 1)).length = ol.length) := Lib.hid (by simp; omega)
                clear HAS HP
                go_wp2_with fail
                go_quiet (fail)
                obtain ⟨W1, hW1⟩ : ∃ W, W = W0.drewN nq := ⟨_, rfl⟩
                rw [← hW1]
                have HF1 : Hid (FoldR w W1 g cap ol) := Lib.hid (by rw [hW1]; exact HF0.out.drewN _)
                clear c0 c1 c2 d0 d1 hW1 HF0
                obtain ⟨c0, c1, c2⟩ := HKA.out W1 HF1.out.bel
                have d1 := (HF1.out.cell hpn).2
                have f1 := row_free HF1.out.row (p * 2 + 1)
                have HS := Lib.hid (HF1.out.set hpn cv)
                go_wp2_with fail
                have HLN := Lib.hid (chgDoP_len ol (yk, cv, false))
                go_roundw
                case rel =>
                  refine ⟨k + 1, g, cap, ol.take p ++ (yk, cv) :: ol.drop (p + 1), by omega, by go_num, by rw [HNL.out], Lib.hid ⟨?_, by rw [HST.out, ← HO.out.1, HD.out], by have := HO.out.2; have := HLN.out; rw [HD.out] at this; omega⟩⟩
                  have := HS.out
                  rw [← HY.out] at this
                  exact this
                case measure => simp [intOf]; omega
            · have t1 : (yk == ck) = false := by simpa using hyk
              have hNO : ¬ ∃ h : p < ol.length, ol[p].1 = ck := fun ⟨_, h⟩ => hyk (by rw [← HY.out] at h; exact h)
              have hpc : p ≤ cap := by omega
              cases cg with
              | true =>
                have HD : Hid (chgDoP ol (ck, cv, true) = ol) := Lib.hid (by
                  show delPP ck ol = _
                  rw [delPP_at ck hp HP.out (fun h => by rw [← HY.out]; exact hless) (by rw [HO.out.1]; exact foldPP_ris _ HRI.out), if_neg hNO])
                clear hNO HY HP
                go_wp2_with fail
                go_quiet (fail)
                obtain ⟨W1, hW1⟩ : ∃ W, W = W0.drewN nq := ⟨_, rfl⟩
                rw [← hW1]
                have HF1 : Hid (FoldR w W1 g cap ol) := Lib.hid (by rw [hW1]; exact HF0.out.drewN _)
                clear c0 c1 c2 d0 d1 hW1 HF0
                obtain ⟨c0, c1, c2⟩ := HKA.out W1 HF1.out.bel
                go_wp2_with fail
                go_roundw
                case rel => exact ⟨k + 1, g, cap, ol, by omega, by go_num, rfl, Lib.hid ⟨HF1.out, by rw [HST.out, ← HO.out.1, HD.out], by have := HO.out.2; omega⟩⟩
                case measure => simp [intOf]; omega
              | false =>
                have HD : Hid (chgDoP ol (ck, cv, false) = ol.take p ++ (ck, cv) :: ol.drop p) := Lib.hid (by
                  show insPP ck cv ol = _
                  rw [insPP_at ck cv hp HP.out (fun h => by rw [← HY.out]; exact hless), if_neg hNO])
                clear hNO HY HP
                go_wp2_with fail
                go_quiet (fail)
                obtain ⟨W1, hW1⟩ : ∃ W, W = W0.drewN nq := ⟨_, rfl⟩
                rw [← hW1]
                have HF1 : Hid (FoldR w W1 g cap ol) := Lib.hid (by rw [hW1]; exact HF0.out.drewN _)
                clear c0 c1 c2 d0 d1 hW1 HF0
                obtain ⟨c0, c1, c2⟩ := HKA.out W1 HF1.out.bel
                go_wp2_with fail
                clear c0 c1 c2
                refine wp_region_any (by kernel_rfl) ?_
                change wpAny _ _ _ _ _ _ _ (World.drew _)
                generalize hWd : World.drew _ = W9
                have HF9 : Hid (FoldR w W9 g cap ol) := Lib.hid (by rw [← hWd]; exact HF1.out.drewN 1)
                obtain ⟨c0, c1, c2⟩ := HKA.out W9 HF9.out.bel
                clear HF1
                clear hWd
                refine wpAny_take (i := 0) (v := ?v9) rfl (by kernel_rfl) (by kernel_rfl) (by kernel_rfl) (fun _ _ _ h => h) (Or.inl ⟨by rfl, ?hy9⟩) ?_
                case hy9 => (intro w; go_simp; try with_reducible rfl)
                go_simp
                refine wpAny_take (i := 1) (v := ?v10) rfl (by kernel_rfl) (by kernel_rfl) (by kernel_rfl) (fun _ _ _ h => h) (Or.inl ⟨by rfl, ?hy10⟩) ?_
                case hy10 => (intro w; go_simp; try with_reducible rfl)
                go_simp
                refine wpAny_take (i := 2) (v := ?v11) rfl (by kernel_rfl) (by kernel_rfl) (by kernel_rfl) (fun _ _ _ h => h) (Or.inl ⟨by rfl, ?hy11⟩) ?_
                case hy11 => (intro w; go_simp; try with_reducible rfl)
                go_simp
                refine wpAny_take (i := 3) (v := ?v12) rfl (by kernel_rfl) (by kernel_rfl) (by kernel_rfl) (fun _ _ _ h => h) (Or.inl ⟨by rfl, ?hy12⟩) ?_
                case hy12 => (intro w; go_simp; try with_reducible rfl)
                go_simp
                refine wpAny_take (i := 4) (v := ?v13) rfl (by kernel_rfl) (by kernel_rfl) (by kernel_rfl) (fun _ _ _ h => h) (Or.inl ⟨by rfl, ?hy13⟩) ?_
                case hy13 => (intro w; go_simp; try with_reducible rfl)
                go_simp
                refine wpAny_take (i := 5) (v := ?v14) rfl (by kernel_rfl) (by kernel_rfl) (by kernel_rfl) (fun _ _ _ h => h) (Or.inl ⟨by rfl, ?hy14⟩) ?_
                case hy14 => (intro w; go_simp; try with_reducible rfl)
                go_simp
                refine wpAny_take (i := 6) (v := ?v15) rfl (by kernel_rfl) (by kernel_rfl) (by kernel_rfl) (fun _ _ _ h => h) (Or.inl ⟨by rfl, ?hy15⟩) ?_
                case hy15 => (intro w; go_simp; try with_reducible rfl)
                go_simp
                refine wpAny_take (i := 8) (v := ?v16) rfl (by kernel_rfl) (by kernel_rfl) (by kernel_rfl) (fun _ _ _ h => h) (Or.inl ⟨by rfl, ?hy16⟩) ?_
                case hy16 => (intro w; go_simp; try with_reducible rfl)
                go_simp
                refine wpAny_take (i := 9) (v := ?v17) rfl (by kernel_rfl) (by kernel_rfl) (by kernel_rfl) (fun _ _ _ h => h) (Or.inl ⟨by rfl, ?hy17⟩) ?_
                case hy17 => (intro w; go_simp; try with_reducible rfl)
                go_simp
                refine wpAny_take (i := 10) (v := ?v18) rfl (by kernel_rfl) (by kernel_rfl) (by kernel_rfl) (fun _ _ _ h => h) (Or.inl ⟨by rfl, ?hy18⟩) ?_
                case hy18 => (intro w; go_simp; try with_reducible rfl)
                go_simp
                refine wpAny_take (i := 11) (v := ?v19) rfl (by kernel_rfl) (by kernel_rfl) (by kernel_rfl) (fun _ _ _ h => h) (Or.inl ⟨by rfl, ?hy19⟩) ?_
                case hy19 => (intro w; go_simp; try with_reducible rfl)
                go_simp
                refine wpAny_take (i := 15) (v := ?v20) rfl (by kernel_rfl) (by kernel_rfl) (by kernel_rfl) (fun _ _ _ h => h) (Or.inl ⟨by rfl, ?hy20⟩) ?_
                case hy20 => (intro w; go_simp; try with_reducible rfl)
                go_simp
                refine wpAny_take (i := 16) (v := ?v21) rfl (by kernel_rfl) (by kernel_rfl) (by kernel_rfl) (fun _ _ _ h => h) (Or.inl ⟨by rfl, ?hy21⟩) ?_
                case hy21 => (intro w; go_simp; try with_reducible rfl)
                go_simp
                refine wpAny_take (i := 17) (v := ?v22) rfl (by kernel_rfl) (by kernel_rfl) (by kernel_rfl) (fun _ _ _ h => h) (Or.inl ⟨by rfl, ?hy22⟩) ?_
                case hy22 => (intro w; go_simp; try with_reducible rfl)
                go_simp
                refine wpAny_ready (rs := [7, 12]) (by kernel_rfl) (by simp) (AllReady.cons rfl (fun K hK => ?_) (AllReady.cons rfl (fun K hK => ?_) AllReady.nil))
                · go_simp
                  refine hK _ _ ?_
                  clear hK K
                  refine wpAny_ready (rs := [12]) (by kernel_rfl) (by simp) (AllReady.cons rfl (fun K hK => ?_) AllReady.nil)
                  go_simp
                  refine hK _ _ ?_
                  clear hK K
                  refine wpAny_take (i := 13) (v := ?v23) rfl (by kernel_rfl) (by kernel_rfl) (by kernel_rfl) (fun _ _ _ h => h) (Or.inl ⟨by rfl, ?hy23⟩) ?_
                  case hy23 => (intro w; go_simp; try with_reducible rfl)
                  go_simp
                  refine wpAny_ready (rs := [14]) (by kernel_rfl) (by simp) (AllReady.cons rfl (fun K hK => ?_) AllReady.nil)
                  go_simp
                  refine hK _ _ ?_
                  clear hK K
                  have HRW : Hid ((W9.alloc (.cells #[str ck, str cv] 61)).ownsRow w.heap.size 61 2 (.slice (some ⟨W9.heap.size, 0, none⟩) 1 1) 1 ([cellsP (ck, cv)]).flatten) := Lib.hid (World.ownsRow_lit (e := 61) (size := 2) W9 #[str ck, str cv] 1 HF9.out.bel.size (by decide) rfl)
                  have HFA : Hid (FoldR w (W9.alloc (.cells #[str ck, str cv] 61)) g cap ol) := Lib.hid (HF9.out.grown (World.grownBy_alloc W9 _ none) (fun _ e => by cases e))
                  have HLT : Hid (g < W9.heap.size) := Lib.hid (HF9.out.row.lt g rfl).2
                  refine wpAny_ready (rs := [18]) (by kernel_rfl) (by simp) (AllReady.cons rfl (fun K hK => ?_) AllReady.nil)
                  refine step_appendG (by rfl) _ _ 22 (by rfl) w.heap.size 61 i0 _ 2 32 Try.underlying22 hi hz0 hz1 hz2 rfl (by decide) W9.heap.size 1 1 _ (by rfl) HRW.out _ ((ol.drop p).map cellsP) (by first | exact cellsP_len _ | simp [cellsP]) (by first | exact one_cellsP _ | simp [cellsP, Value.oneCell']) (by rfl) ?_ (fun c h => by first | exact ite_none h | cases h) ?_ ?_ ?_ ?_
                  · exact HFA.out.behind (p := p) (by omega) rfl
                  · simp [maxLen]; omega
                  · simp; omega
                  · exact HFA.out.bel.size
                  intro g2 c2 W2 r2 gr2
                  refine hK _ _ ?_
                  clear hK K
                  have HF2 : Hid (FoldR w W2 g cap ol) := Lib.hid (HFA.out.grown gr2 (fun j e => by cases e; exact ⟨HF9.out.bel.size, by have := HLT.out; omega⟩))
                  have HR2 := Lib.hid (ins_row20 r2)
                  clear r2 gr2 HFA HRW
                  go_simp
                  refine wpAny_ready (rs := [19]) (by kernel_rfl) (by simp) (AllReady.cons rfl (fun K hK => ?_) AllReady.nil)
                  refine step_appendG (by rfl) _ _ 22 (by rfl) w.heap.size 61 i0 _ 2 32 Try.underlying22 hi hz0 hz1 hz2 rfl (by decide) g cap p _ (by rfl) (HF2.out.ahead (by omega)) _ (((ck, cv) :: ol.drop p).map cellsP) (by first | exact cellsP_len _ | simp [cellsP]) (by first | exact one_cellsP _ | simp [cellsP, Value.oneCell']) (by rfl) ?_ (fun c h => by first | exact ite_none h | cases h) ?_ ?_ ?_ ?_
                  · exact HR2.out _ (by omega)
                  · simp [maxLen]; omega
                  · simp; omega
                  · exact HF2.out.bel.size
                  intro g3 c3 W3 r2 gr2
                  refine hK _ _ ?_
                  clear hK K
                  obtain ⟨e2, HN⟩ := HF2.out.next r2 (by omega) gr2
                  go_simp
                  refine wpAny_take (i := 20) (v := ?v24) rfl (by kernel_rfl) (by kernel_rfl) (by kernel_rfl) (fun _ _ _ h => h) (Or.inl ⟨by rfl, ?hy24⟩) ?_
                  case hy24 => (intro w; go_simp; try with_reducible rfl)
                  go_simp
                  refine wpAny_done (by kernel_rfl) ?_ _
                  have HFN := Lib.hid HN
                  have HLN := Lib.hid (chgDoP_len ol (ck, cv, false))
                  clear HN r2 gr2 e2
                  go_wp2_with fail
                  go_roundw
                  case rel => exact ⟨k + 1, g3, c3, ol.take p ++ (ck, cv) :: ol.drop p, by omega, by go_num, by congr 1; simp; try omega, Lib.hid ⟨HFN.out, by rw [HST.out, ← HO.out.1, HD.out], by have := HO.out.2; have := HLN.out; rw [HD.out] at this; omega⟩⟩
                  case measure => simp [intOf]; omega
                · go_simp
                  refine hK _ _ ?_
                  clear hK K
                  refine wpAny_ready (rs := [7]) (by kernel_rfl) (by simp) (AllReady.cons rfl (fun K hK => ?_) AllReady.nil)
                  go_simp
                  refine hK _ _ ?_
                  clear hK K
                  refine wpAny_take (i := 13) (v := ?v25) rfl (by kernel_rfl) (by kernel_rfl) (by kernel_rfl) (fun _ _ _ h => h) (Or.inl ⟨by rfl, ?hy25⟩) ?_
                  case hy25 => (intro w; go_simp; try with_reducible rfl)
                  go_simp
                  refine wpAny_ready (rs := [14]) (by kernel_rfl) (by simp) (AllReady.cons rfl (fun K hK => ?_) AllReady.nil)
                  go_simp
                  refine hK _ _ ?_
                  clear hK K
                  have HRW : Hid ((W9.alloc (.cells #[str ck, str cv] 61)).ownsRow w.heap.size 61 2 (.slice (some ⟨W9.heap.size, 0, none⟩) 1 1) 1 ([cellsP (ck, cv)]).flatten) := Lib.hid (World.ownsRow_lit (e := 61) (size := 2) W9 #[str ck, str cv] 1 HF9.out.bel.size (by decide) rfl)
                  have HFA : Hid (FoldR w (W9.alloc (.cells #[str ck, str cv] 61)) g cap ol) := Lib.hid (HF9.out.grown (World.grownBy_alloc W9 _ none) (fun _ e => by cases e))
                  have HLT : Hid (g < W9.heap.size) := Lib.hid (HF9.out.row.lt g rfl).2
                  refine wpAny_ready (rs := [18]) (by kernel_rfl) (by simp) (AllReady.cons rfl (fun K hK => ?_) AllReady.nil)
                  refine step_appendG (by rfl) _ _ 22 (by rfl) w.heap.size 61 i0 _ 2 32 Try.underlying22 hi hz0 hz1 hz2 rfl (by decide) W9.heap.size 1 1 _ (by rfl) HRW.out _ ((ol.drop p).map cellsP) (by first | exact cellsP_len _ | simp [cellsP]) (by first | exact one_cellsP _ | simp [cellsP, Value.oneCell']) (by rfl) ?_ (fun c h => by first | exact ite_none h | cases h) ?_ ?_ ?_ ?_
                  · exact HFA.out.behind (p := p) (by omega) rfl
                  · simp [maxLen]; omega
                  · simp; omega
                  · exact HFA.out.bel.size
                  intro g2 c2 W2 r2 gr2
                  refine hK _ _ ?_
                  clear hK K
                  have HF2 : Hid (FoldR w W2 g cap ol) := Lib.hid (HFA.out.grown gr2 (fun j e => by cases e; exact ⟨HF9.out.bel.size, by have := HLT.out; omega⟩))
                  have HR2 := Lib.hid (ins_row20 r2)
                  clear r2 gr2 HFA HRW
                  go_simp
                  refine wpAny_ready (rs := [19]) (by kernel_rfl) (by simp) (AllReady.cons rfl (fun K hK => ?_) AllReady.nil)
                  refine step_appendG (by rfl) _ _ 22 (by rfl) w.heap.size 61 i0 _ 2 32 Try.underlying22 hi hz0 hz1 hz2 rfl (by decide) g cap p _ (by rfl) (HF2.out.ahead (by omega)) _ (((ck, cv) :: ol.drop p).map cellsP) (by first | exact cellsP_len _ | simp [cellsP]) (by first | exact one_cellsP _ | simp [cellsP, Value.oneCell']) (by rfl) ?_ (fun c h => by first | exact ite_none h | cases h) ?_ ?_ ?_ ?_
                  · exact HR2.out _ (by omega)
                  · simp [maxLen]; omega
                  · simp; omega
                  · exact HF2.out.bel.size
                  intro g3 c3 W3 r2 gr2
                  refine hK _ _ ?_
                  clear hK K
                  obtain ⟨e2, HN⟩ := HF2.out.next r2 (by omega) gr2
                  go_simp
                  refine wpAny_take (i := 20) (v := ?v26) rfl (by kernel_rfl) (by kernel_rfl) (by kernel_rfl) (fun _ _ _ h => h) (Or.inl ⟨by rfl, ?hy26⟩) ?_
                  case hy26 => (intro w; go_simp; try with_reducible rfl)
                  go_simp
                  refine wpAny_done (by kernel_rfl) ?_ _
                  have HFN := Lib.hid HN
                  have HLN := Lib.hid (chgDoP_len ol (ck, cv, false))
                  clear HN r2 gr2 e2
                  go_wp2_with fail
                  go_roundw
                  case rel => exact ⟨k + 1, g3, c3, ol.take p ++ (ck, cv) :: ol.drop p, by omega, by go_num, by congr 1; simp; try omega, Lib.hid ⟨HFN.out, by rw [HST.out, ← HO.out.1, HD.out], by have := HO.out.2; have := HLN.out; rw [HD.out] at this; omega⟩⟩
                  case measure => simp [intOf]; omega
        · have g3 : ¬ (p : Int) < (ol.length : Int) := by omega
          have g3d : decide ((p : Int) < (ol.length : Int)) = false := by simp; omega
          have hpc : p ≤ cap := by omega
          have hNO : ¬ ∃ h : p < ol.length, ol[p].1 = ck := fun ⟨h, _⟩ => absurd h hpn
          go_wp2_with fail
          go_quiet (fail)
          obtain ⟨W0, hW0⟩ : ∃ W, W = (wr.drewN q).drewN nq := ⟨_, rfl⟩
          rw [← hW0]
          have HF0 : Hid (FoldR w W0 g cap ol) := Lib.hid (by rw [hW0]; exact (HF.out.drewN _).drewN _)
          clear c0 c1 c2 hW0 HF
          obtain ⟨c0, c1, c2⟩ := HKA.out W0 HF0.out.bel
          go_wp2_with fail
          go_quiet (fail)
          obtain ⟨W1, hW1⟩ : ∃ W, W = W0.drewN nq := ⟨_, rfl⟩
          rw [← hW1]
          have HF1 : Hid (FoldR w W1 g cap ol) := Lib.hid (by rw [hW1]; exact HF0.out.drewN _)
          clear c0 c1 c2 hW1 HF0
          obtain ⟨c0, c1, c2⟩ := HKA.out W1 HF1.out.bel
          cases cg with
          | true =>
            have HD : Hid (chgDoP ol (ck, cv, true) = ol) := Lib.hid (by
              show delPP ck ol = _
              rw [delPP_at ck hp HP.out (fun h => absurd h hpn) (by rw [HO.out.1]; exact foldPP_ris _ HRI.out), if_neg hNO])
            clear hNO HP
            go_wp2_with fail
            go_roundw
            case rel => exact ⟨k + 1, g, cap, ol, by omega, by go_num, rfl, Lib.hid ⟨HF1.out, by rw [HST.out, ← HO.out.1, HD.out], by have := HO.out.2; omega⟩⟩
            case measure => simp [intOf]; omega
          | false =>
              have HD : Hid (chgDoP ol (ck, cv, false) = ol.take p ++ (ck, cv) :: ol.drop p) := Lib.hid (by
                show insPP ck cv ol = _
                rw [insPP_at ck cv hp HP.out (fun h => absurd h hpn), if_neg hNO])
              clear hNO HP
              go_wp2_with fail
              clear c0 c1 c2
              refine wp_region_any (by kernel_rfl) ?_
              change wpAny _ _ _ _ _ _ _ (World.drew _)
              generalize hWd : World.drew _ = W9
              have HF9 : Hid (FoldR w W9 g cap ol) := Lib.hid (by rw [← hWd]; exact HF1.out.drewN 1)
              obtain ⟨c0, c1, c2⟩ := HKA.out W9 HF9.out.bel
              clear HF1
              clear hWd
              refine wpAny_take (i := 0) (v := ?v27) rfl (by kernel_rfl) (by kernel_rfl) (by kernel_rfl) (fun _ _ _ h => h) (Or.inl ⟨by rfl, ?hy27⟩) ?_
              case hy27 => (intro w; go_simp; try with_reducible rfl)
              go_simp
              refine wpAny_take (i := 1) (v := ?v28) rfl (by kernel_rfl) (by kernel_rfl) (by kernel_rfl) (fun _ _ _ h => h) (Or.inl ⟨by rfl, ?hy28⟩) ?_
              case hy28 => (intro w; go_simp; try with_reducible rfl)
              go_simp
              refine wpAny_take (i := 2) (v := ?v29) rfl (by kernel_rfl) (by kernel_rfl) (by kernel_rfl) (fun _ _ _ h => h) (Or.inl ⟨by rfl, ?hy29⟩) ?_
              case hy29 => (intro w; go_simp; try with_reducible rfl)
              go_simp
              refine wpAny_take (i := 3) (v := ?v30) rfl (by kernel_rfl) (by kernel_rfl) (by kernel_rfl) (fun _ _ _ h => h) (Or.inl ⟨by rfl, ?hy30⟩) ?_
              case hy30 => (intro w; go_simp; try with_reducible rfl)
              go_simp
              refine wpAny_take (i := 4) (v := ?v31) rfl (by kernel_rfl) (by kernel_rfl) (by kernel_rfl) (fun _ _ _ h => h) (Or.inl ⟨by rfl, ?hy31⟩) ?_
              case hy31 => (intro w; go_simp; try with_reducible rfl)
              go_simp
              refine wpAny_take (i := 5) (v := ?v32) rfl (by kernel_rfl) (by kernel_rfl) (by kernel_rfl) (fun _ _ _ h => h) (Or.inl ⟨by rfl, ?hy32⟩) ?_
              case hy32 => (intro w; go_simp; try with_reducible rfl)
              go_simp
              refine wpAny_take (i := 6) (v := ?v33) rfl (by kernel_rfl) (by kernel_rfl) (by kernel_rfl) (fun _ _ _ h => h) (Or.inl ⟨by rfl, ?hy33⟩) ?_
              case hy33 => (intro w; go_simp; try with_reducible rfl)
              go_simp
              refine wpAny_take (i := 8) (v := ?v34) rfl (by kernel_rfl) (by kernel_rfl) (by kernel_rfl) (fun _ _ _ h => h) (Or.inl ⟨by rfl, ?hy34⟩) ?_
              case hy34 => (intro w; go_simp; try with_reducible rfl)
              go_simp
              refine wpAny_take (i := 9) (v := ?v35) rfl (by kernel_rfl) (by kernel_rfl) (by kernel_rfl) (fun _ _ _ h => h) (Or.inl ⟨by rfl, ?hy35⟩) ?_
              case hy35 => (intro w; go_simp; try with_reducible rfl)
              go_simp
              refine wpAny_take (i := 10) (v := ?v36) rfl (by kernel_rfl) (by kernel_rfl) (by kernel_rfl) (fun _ _ _ h => h) (Or.inl ⟨by rfl, ?hy36⟩) ?_
              case hy36 => (intro w; go_simp; try with_reducible rfl)
              go_simp
              refine wpAny_take (i := 11) (v := ?v37) rfl (by kernel_rfl) (by kernel_rfl) (by kernel_rfl) (fun _ _ _ h => h) (Or.inl ⟨by rfl, ?hy37⟩) ?_
              case hy37 => (intro w; go_simp; try with_reducible rfl)
              go_simp
              refine wpAny_take (i := 15) (v := ?v38) rfl (by kernel_rfl) (by kernel_rfl) (by kernel_rfl) (fun _ _ _ h => h) (Or.inl ⟨by rfl, ?hy38⟩) ?_
              case hy38 => (intro w; go_simp; try with_reducible rfl)
              go_simp
              refine wpAny_take (i := 16) (v := ?v39) rfl (by kernel_rfl) (by kernel_rfl) (by kernel_rfl) (fun _ _ _ h => h) (Or.inl ⟨by rfl, ?hy39⟩) ?_
              case hy39 => (intro w; go_simp; try with_reducible rfl)
              go_simp
              refine wpAny_take (i := 17) (v := ?v40) rfl (by kernel_rfl) (by kernel_rfl) (by kernel_rfl) (fun _ _ _ h => h) (Or.inl ⟨by rfl, ?hy40⟩) ?_
              case hy40 => (intro w; go_simp; try with_reducible rfl)
              go_simp
              refine wpAny_ready (rs := [7, 12]) (by kernel_rfl) (by simp) (AllReady.cons rfl (fun K hK => ?_) (AllReady.cons rfl (fun K hK => ?_) AllReady.nil))
              · go_simp
                refine hK _ _ ?_
                clear hK K
                refine wpAny_ready (rs := [12]) (by kernel_rfl) (by simp) (AllReady.cons rfl (fun K hK => ?_) AllReady.nil)
                go_simp
                refine hK _ _ ?_
                clear hK K
                refine wpAny_take (i := 13) (v := ?v41) rfl (by kernel_rfl) (by kernel_rfl) (by kernel_rfl) (fun _ _ _ h => h) (Or.inl ⟨by rfl, ?hy41⟩) ?_
                case hy41 => (intro w; go_simp; try with_reducible rfl)
                go_simp
                refine wpAny_ready (rs := [14]) (by kernel_rfl) (by simp) (AllReady.cons rfl (fun K hK => ?_) AllReady.nil)
                go_simp
                refine hK _ _ ?_
                clear hK K
                have HRW : Hid ((W9.alloc (.cells #[str ck, str cv] 61)).ownsRow w.heap.size 61 2 (.slice (some ⟨W9.heap.size, 0, none⟩) 1 1) 1 ([cellsP (ck, cv)]).flatten) := Lib.hid (World.ownsRow_lit (e := 61) (size := 2) W9 #[str ck, str cv] 1 HF9.out.bel.size (by decide) rfl)
                have HFA : Hid (FoldR w (W9.alloc (.cells #[str ck, str cv] 61)) g cap ol) := Lib.hid (HF9.out.grown (World.grownBy_alloc W9 _ none) (fun _ e => by cases e))
                have HLT : Hid (g < W9.heap.size) := Lib.hid (HF9.out.row.lt g rfl).2
                refine wpAny_ready (rs := [18]) (by kernel_rfl) (by simp) (AllReady.cons rfl (fun K hK => ?_) AllReady.nil)
                refine step_appendG (by rfl) _ _ 22 (by rfl) w.heap.size 61 i0 _ 2 32 Try.underlying22 hi hz0 hz1 hz2 rfl (by decide) W9.heap.size 1 1 _ (by rfl) HRW.out _ ((ol.drop p).map cellsP) (by first | exact cellsP_len _ | simp [cellsP]) (by first | exact one_cellsP _ | simp [cellsP, Value.oneCell']) (by rfl) ?_ (fun c h => by first | exact ite_none h | cases h) ?_ ?_ ?_ ?_
                · exact HFA.out.behind (p := p) (by omega) rfl
                · simp [maxLen]; omega
                · simp; omega
                · exact HFA.out.bel.size
                intro g2 c2 W2 r2 gr2
                refine hK _ _ ?_
                clear hK K
                have HF2 : Hid (FoldR w W2 g cap ol) := Lib.hid (HFA.out.grown gr2 (fun j e => by cases e; exact ⟨HF9.out.bel.size, by have := HLT.out; omega⟩))
                have HR2 := Lib.hid (ins_row20 r2)
                clear r2 gr2 HFA HRW
                go_simp
                refine wpAny_ready (rs := [19]) (by kernel_rfl) (by simp) (AllReady.cons rfl (fun K hK => ?_) AllReady.nil)
                refine step_appendG (by rfl) _ _ 22 (by rfl) w.heap.size 61 i0 _ 2 32 Try.underlying22 hi hz0 hz1 hz2 rfl (by decide) g cap p _ (by rfl) (HF2.out.ahead (by omega)) _ (((ck, cv) :: ol.drop p).map cellsP) (by first | exact cellsP_len _ | simp [cellsP]) (by first | exact one_cellsP _ | simp [cellsP, Value.oneCell']) (by rfl) ?_ (fun c h => by first | exact ite_none h | cases h) ?_ ?_ ?_ ?_
                · exact HR2.out _ (by omega)
                · simp [maxLen]; omega
                · simp; omega
                · exact HF2.out.bel.size
                intro g3 c3 W3 r2 gr2
                refine hK _ _ ?_
                clear hK K
                obtain ⟨e2, HN⟩ := HF2.out.next r2 (by omega) gr2
                go_simp
                refine wpAny_take (i := 20) (v := ?v42) rfl (by kernel_rfl) (by kernel_rfl) (by kernel_rfl) (fun _ _ _ h => h) (Or.inl ⟨by rfl, ?hy42⟩) ?_
                case hy42 => (intro w; go_simp; try with_reducible rfl)
                go_simp
                refine wpAny_done (by kernel_rfl) ?_ _
                have HFN := Lib.hid HN
                have HLN := Lib.hid (chgDoP_len ol (ck, cv, false))
                clear HN r2 gr2 e2
                go_wp2_with fail
                go_roundw
                case rel => exact ⟨k + 1, g3, c3, ol.take p ++ (ck, cv) :: ol.drop p, by omega, by go_num, by congr 1; simp; try omega, Lib.hid ⟨HFN.out, by rw [HST.out, ← HO.out.1, HD.out], by have := HO.out.2; have := HLN.out; rw [HD.out] at this; omega⟩⟩
                case measure => simp [intOf]; omega
              · go_simp
                refine hK _ _ ?_
                clear hK K
                refine wpAny_ready (rs := [7]) (by kernel_rfl) (by simp) (AllReady.cons rfl (fun K hK => ?_) AllReady.nil)
                go_simp
                refine hK _ _ ?_
                clear hK K
                refine wpAny_take (i := 13) (v := ?v43) rfl (by kernel_rfl) (by kernel_rfl) (by kernel_rfl) (fun _ _ _ h => h) (Or.inl ⟨by rfl, ?hy43⟩) ?_
                case hy43 => (intro w; go_simp; try with_reducible rfl)
                go_simp
                refine wpAny_ready (rs := [14]) (by kernel_rfl) (by simp) (AllReady.cons rfl (fun K hK => ?_) AllReady.nil)
                go_simp
                refine hK _ _ ?_
                clear hK K
                have HRW : Hid ((W9.alloc (.cells #[str ck, str cv] 61)).ownsRow w.heap.size 61 2 (.slice (some ⟨W9.heap.size, 0, none⟩) 1 1) 1 ([cellsP (ck, cv)]).flatten) := Lib.hid (World.ownsRow_lit (e := 61) (size := 2) W9 #[str ck, str cv] 1 HF9.out.bel.size (by decide) rfl)
                have HFA : Hid (FoldR w (W9.alloc (.cells #[str ck, str cv] 61)) g cap ol) := Lib.hid (HF9.out.grown (World.grownBy_alloc W9 _ none) (fun _ e => by cases e))
                have HLT : Hid (g < W9.heap.size) := Lib.hid (HF9.out.row.lt g rfl).2
                refine wpAny_ready (rs := [18]) (by kernel_rfl) (by simp) (AllReady.cons rfl (fun K hK => ?_) AllReady.nil)
                refine step_appendG (by rfl) _ _ 22 (by rfl) w.heap.size 61 i0 _ 2 32 Try.underlying22 hi hz0 hz1 hz2 rfl (by decide) W9.heap.size 1 1 _ (by rfl) HRW.out _ ((ol.drop p).map cellsP) (by first | exact cellsP_len _ | simp [cellsP]) (by first | exact one_cellsP _ | simp [cellsP, Value.oneCell']) (by rfl) ?_ (fun c h => by first | exact ite_none h | cases h) ?_ ?_ ?_ ?_
                · exact HFA.out.behind (p := p) (by omega) rfl
                · simp [maxLen]; omega
                · simp; omega
                · exact HFA.out.bel.size
                intro g2 c2 W2 r2 gr2
                refine hK _ _ ?_
                clear hK K
                have HF2 : Hid (FoldR w W2 g cap ol) := Lib.hid (HFA.out.grown gr2 (fun j e => by cases e; exact ⟨HF9.out.bel.size, by have := HLT.out; omega⟩))
                have HR2 := Lib.hid (ins_row20 r2)
                clear r2 gr2 HFA HRW
                go_simp
                refine wpAny_ready (rs := [19]) (by kernel_rfl) (by simp) (AllReady.cons rfl (fun K hK => ?_) AllReady.nil)
                refine step_appendG (by rfl) _ _ 22 (by rfl) w.heap.size 61 i0 _ 2 32 Try.underlying22 hi hz0 hz1 hz2 rfl (by decide) g cap p _ (by rfl) (HF2.out.ahead (by omega)) _ (((ck, cv) :: ol.drop p).map cellsP) (by first | exact cellsP_len _ | simp [cellsP]) (by first | exact one_cellsP _ | simp [cellsP, Value.oneCell']) (by rfl) ?_ (fun c h => by first | exact ite_none h | cases h) ?_ ?_ ?_ ?_
                · exact HR2.out _ (by omega)
                · simp [maxLen]; omega
                · simp; omega
                · exact HF2.out.bel.size
                intro g3 c3 W3 r2 gr2
                refine hK _ _ ?_
                clear hK K
                obtain ⟨e2, HN⟩ := HF2.out.next r2 (by omega) gr2
                go_simp
                refine wpAny_take (i := 20) (v := ?v44) rfl (by kernel_rfl) (by kernel_rfl) (by kernel_rfl) (fun _ _ _ h => h) (Or.inl ⟨by rfl, ?hy44⟩) ?_
                case hy44 => (intro w; go_simp; try with_reducible rfl)
                go_simp
                refine wpAny_done (by kernel_rfl) ?_ _
                have HFN := Lib.hid HN
                have HLN := Lib.hid (chgDoP_len ol (ck, cv, false))
                clear HN r2 gr2 e2
                go_wp2_with fail
                go_roundw
                case rel => exact ⟨k + 1, g3, c3, ol.take p ++ (ck, cv) :: ol.drop p, by omega, by go_num, by congr 1; simp; try omega, Lib.hid ⟨HFN.out, by rw [HST.out, ← HO.out.1, HD.out], by have := HO.out.2; have := HLN.out; rw [HD.out] at this; omega⟩⟩
                case measure => simp [intOf]; omega
    · obtain rfl : k = L.length := by omega
      have g3 : ¬ (L.length : Int) < (L.length : Int) := by omega
      go_wp2_with fail
      go_ret
      have e := HR.out.2.1
      rw [List.take_length] at e
      subst e
      exact ⟨g, cap, rfl, HR.out.1⟩
end Go.Proofs.Yteibiaplmmdppaa
namespace Go.Proofs.Yteibiaplmmdppaa
open Go.RowKit

def plainP (l : List PairT) : List PairT := foldPP [] (asC l)
theorem plainP_ris (l : List PairT) : RisP (plainP l) := foldPP_ris _ trivial
theorem plainP_map (l : List PairT) : mapV l = (plainP l).map encP := mapV_fold l
theorem foldPP_len : ∀ (L : List ChgT) (s : List PairT), (foldPP s L).length ≤ s.length + L.length
  | [], _ => Nat.le_refl _
  | c :: L, s => by
    have h1 := foldPP_len L (chgDoP s c)
    have h2 := chgDoP_len s c
    show (foldPP (chgDoP s c) L).length ≤ _
    simp only [List.length_cons]; omega
theorem plainP_len (l : List PairT) : (plainP l).length ≤ l.length := by
  have := foldPP_len (asC l) []
  simpa [plainP, asC] using this
/-- A slice that reads so. -/
def PairsP (w : World) (l : List PairT) (e : Ending) (w' : World) : Prop := ∃ g cap, e = .returned (.slice (some ⟨g, 0, none⟩) l.length cap) ∧ RdP w' (.slice (some ⟨g, 0, none⟩) l.length cap) l ∧ Below w.heap.size w w'
theorem fold20_rd {va vb : Value} {M : List PairT} {L : List ChgT} {w : World} (ha : RdP w va M) (hnil : ∀ c, va = .slice none 0 c → c = 0) (hb : RdC w vb L) (hla : M.length ≤ 1000000) (hlb : L.length ≤ 1000000) (hris : RisP M) :
    Calls Try.prog 23 #[va, vb] w (PairsP w (foldPP M L)) := by
  refine (fold20_any va vb M L w ha hnil hb hla hlb hris).mono ?_
  rintro e w' ⟨g, cap, rfl, h⟩
  exact ⟨g, cap, rfl, h.rd, h.bel⟩
def PlainAt (w W : World) (v : Value) (L : List PairT) (k : Nat) : Prop := W.ownsRow w.heap.size 31 3 v k (((asC L).take k).map cellsC).flatten ∧ Below w.heap.size w W
set_option maxRecDepth 100000 in
set_option maxHeartbeats 4000000 in
theorem plain_any (v : Value) (L : List PairT) (w : World) (hv : RdP w v L) (hl : L.length ≤ 1000000) : Calls Try.prog 12 #[v] w (PairsP w (plainP L)) := by
  obtain ⟨av, cv, rfl, _⟩ := hv.form
  obtain ⟨i0, hi, hz0, hz1, hz2⟩ := info_parts infoRC
  have HV := Lib.hid hv
  have HLA : (asC L).length = L.length := by simp [asC]
  clear hv
  go_enter Try.func12, Try.ntmps12
  go_wp2_with fail
  go_loopw [3, 4] (fun o i wr => ∃ k : Nat, k ≤ L.length ∧ i = .int .i64 (k : Int) ∧ Hid (PlainAt w wr o L k)) (fun _ i _ => L.length - (intOf i).toNat)
  case atStart => exact ⟨0, Nat.zero_le _, rfl, Lib.hid ⟨World.ownsRow_nil w _ _ 3, Below.refl _ _⟩⟩
  case round =>
    obtain ⟨k, hk, rfl, HR⟩ := hrel
    obtain ⟨vo, hvo⟩ : ∃ v, v = u3 := ⟨_, rfl⟩
    subst hvo
    by_cases hlt : k < L.length
    · have g3 : (k : Int) < (L.length : Int) := by omega
      have g4 : (0 : Int) ≤ (k : Int) := by omega
      have g2w : IntKind.i64.wrap ((k : Int) + 1) = (k : Int) + 1 := IntWalk.i64_in _ ⟨by omega, by omega⟩
      obtain ⟨bA, oA, rfl, c0, c1⟩ := HV.out.get hlt
      obtain ⟨⟨ck, cv1⟩, hc⟩ : ∃ c, c = L[k] := ⟨_, rfl⟩
      rw [← hc] at c0 c1
      dsimp only at c0 c1
      have hlA := World.block_lt_of_cell? w _ c0
      have HS := Lib.hid (show (((asC L).take (k + 1)).map cellsC).flatten = (((asC L).take k).map cellsC).flatten ++ cellsC (ck, cv1, false) by
        rw [List.take_succ_eq_append_getElem (by rw [HLA]; exact hlt), snocC]
        simp [asC, ← hc])
      have HK3 : Hid (∀ W, Below w.heap.size w W → W.cell? ⟨bA, oA + k * 2, none⟩ = some (str ck) ∧ W.cell? ⟨bA, oA + k * 2 + 1, none⟩ = some (str cv1)) := Lib.hid (fun W h => by
        have h3 : bA < w.heap.size := hlA
        rw [h.cell (p := ⟨bA, oA + k * 2, none⟩) h3, h.cell (p := ⟨bA, oA + k * 2 + 1, none⟩) h3]
        exact ⟨c0, c1⟩)
      have HW0 : Hid (PlainAt w wr.drew vo L k) := Lib.hid ⟨HR.out.1, Below.drewsN HR.out.2 1⟩
      have HD := Lib.hid (HK3.out wr.drew HW0.out.2)
      have hsz : w.heap.size ≤ wr.heap.size := HR.out.2.size
      have HA : Hid (Below w.heap.size w (wr.alloc (.cells #[str ck, str cv1, .bool false] 31)).drew) := Lib.hid (Below.drewsN (HR.out.2.alloc HR.out.2.size _) 1)
      clear c0 c1 hc hlA HV HR
      go_wp2_with fail
      go_region_held3 (fun W => W.cell? ⟨bA, oA + k * 2, none⟩ = some (str ck) ∧ W.cell? ⟨bA, oA + k * 2 + 1, none⟩ = some (str cv1))
        (first
          | (exact HK3.out _ HN.out.2)
          | (exact HK3.out _ HA.out)
          | (exact HD.out)
          | go_keep)
        ((first
          | (refine step_appendN (by rfl) _ _ 27 (by rfl) (size := 3) (bytes := 40) Try.underlying27 hi hz0 hz1 hz2 rfl (by decide) (by rfl) (World.ownsRow.alloc HW0.out.1 _) [str ck, str cv1, .bool false] (by rfl) (heap_alloc_new _ _) rfl (one_cellsC (ck, cv1, false)) ?_ ?_ ?_ ?_
             · unfold maxLen; omega
             · omega
             · simp; omega
             intro v7 w7 ho7 hg7
             have HN : Hid (PlainAt w w7 v7 L (k + 1)) := Lib.hid ⟨by rw [HS.out]; exact ho7, ((HW0.out.2.alloc HW0.out.2.size _).grown hg7 (by simp; omega) (fun j ej => (World.ownsRow.lt HW0.out.1 j ej).1))⟩
             clear ho7 hg7)
          | fail))
      all_goals
        go_wp2_with fail
        go_roundw
        case rel => exact ⟨k + 1, by omega, by go_num, HN⟩
        case measure => simp [intOf]; omega
    · obtain rfl : k = L.length := by omega
      have g3 : ¬ (L.length : Int) < (L.length : Int) := by omega
      have hR : RdC wr vo (asC L) := by
        have h := HR.out.1
        rw [← HLA, List.take_length] at h
        exact RdF.of_row (cellsC_len _) (by simpa using h)
      have HRR := Lib.hid hR
      have CF := Lib.hid (fold20_rd (va := .slice none 0 0) (M := []) (w := wr) ⟨none, 0, rfl, by simp, by simp, by simp, fun h => absurd rfl h⟩ (fun c h => by cases h; rfl) hR (by simp) (by omega) trivial)
      clear hR HV
      go_wp2_with fail
      refine CF.out.mono ?_
      rintro e w2 ⟨g, cap, rfl, h1, h2⟩
      have H2 := Lib.hid (And.intro h1 (HR.out.2.trans (h2.mono HR.out.2.size)))
      clear h1 h2
      go_wp2_with fail
      go_ret
      exact ⟨g, cap, rfl, H2.out.1, H2.out.2⟩
end Go.Proofs.Yteibiaplmmdppaa
namespace Go.Proofs.Yteibiaplmmdppaa
open Go.RowKit

set_option maxHeartbeats 4000000 in
/-- Of less than one there is none. -/
theorem ranged_low {gf : Nat} {lb : Array Value} {w : World} (n : Int) (h1 : n < 1) : Calls Try.prog 14 #[.func (.func gf) #[] lb, .int .i64 n] w fun e w' => e = .returned (.slice none 0 0) ∧ Below w.heap.size w w' := by
  have hfn : ∀ w, (binOp .eql 33 (.func (.func gf) #[] lb) .nilFunc).run Try.prog w = .ok (.bool false) w := fun w => by kernel_rfl
  have h1d : decide (n < 1) = true := by simpa using h1
  go_enter Try.func14, Try.ntmps14
  go_wp2_with fail
  go_ret
  exact ⟨rfl, ((Below.refl _ w).alloc (Nat.le_refl _) _).alloc (by simp) _⟩
theorem rdc_none {w : World} : RdC w (.slice none 0 0) [] := ⟨none, 0, rfl, by simp, by simp, by simp, fun h => absurd rfl h⟩
/-- The changes of greater keys. -/
theorem ranged_afterR {w : World} {ba bb b1 b2 : Nat} {ta tb : Tr} {L R : List ChgT} {key : List UInt8} (h : OfPSS w b1 b2 ta tb) (ca : w.cell? ⟨ba, 0, none⟩ = some (.pointer (some ⟨b1, 0, none⟩))) (cb : w.cell? ⟨bb, 0, none⟩ = some (.pointer (some ⟨b2, 0, none⟩)))
    (hL : chgLSS ta tb = L.map encC) (hR : L.filter (fun c => gtB c.1 key) = R) (hlen : R.length ≤ 1000000) {W1 W2 : World} (hW : Below w.heap.size w W1) (e2 : W2 = (W1.alloc (.cells #[.func (.func 33) #[] #[.pointer (some ⟨ba, 0, none⟩), .pointer (some ⟨bb, 0, none⟩)]] 33)).alloc (.cells #[str key] 9)) :
    Calls Try.prog 14 #[.func (.func 39) #[] #[.pointer (some ⟨W1.heap.size, 0, none⟩), .pointer (some ⟨W1.heap.size + 1, 0, none⟩)], .int .i64 1048576] W2 (RangedP W2 R) := by
  have l1 : Below W1.heap.size W1 W2 := by rw [e2]; exact ((Below.refl _ W1).alloc (Nat.le_refl _) _).alloc (by simp) _
  have c0 : W2.cell? ⟨W1.heap.size, 0, none⟩ = some (.func (.func 33) #[] #[.pointer (some ⟨ba, 0, none⟩), .pointer (some ⟨bb, 0, none⟩)]) := by rw [e2]; exact ((Boxed.new W1 _ _).alloc _).cell
  have c1 : W2.cell? ⟨W1.heap.size + 1, 0, none⟩ = some (str key) := by
    have := (Boxed.new (W1.alloc (.cells #[.func (.func 33) #[] #[.pointer (some ⟨ba, 0, none⟩), .pointer (some ⟨bb, 0, none⟩)]] 33)) 9 (str key)).cell
    rw [World.size_alloc] at this
    rw [e2]; exact this
  have hW2 := hW.trans (l1.mono hW.size)
  have hf : (L.map encC).filter (gtV key) = R.map encC := by
    rw [← hR, List.filter_map]
    rfl
  have := ranged_any (L := R) (Ok := fun X => Below w.heap.size w X ∧ X.cell? ⟨W1.heap.size + 1, 0, none⟩ = some (str key)) 1048576 (by decide) hlen (enters_of Try.func39 (by kernel_rfl) rfl)
    (w := W2) (lb := #[.pointer (some ⟨W1.heap.size, 0, none⟩), .pointer (some ⟨W1.heap.size + 1, 0, none⟩)])
    (fun X hX => ⟨hW2.trans (hX.mono hW2.size), (hX.cell (p := ⟨W1.heap.size + 1, 0, none⟩) (World.block_lt_of_cell? W2 _ c1)).trans c1⟩) (fun W' hW' => by
      rw [← hf]
      refine after_seqs (gf := 33) (lb := #[.pointer (some ⟨ba, 0, none⟩), .pointer (some ⟨bb, 0, none⟩)]) (Ok := fun X => Below w.heap.size w X) (enters_of Try.func33 (by kernel_rfl) rfl) (fun W'' hW'' => ?_)
        ((hW'.cell (p := ⟨W1.heap.size, 0, none⟩) (World.block_lt_of_cell? W2 _ c0)).trans c0) (by decide)
      rw [← hL]
      have h3 := hW2.trans (hW'.mono hW2.size)
      exact of1SS_seqs h ca cb (h3.trans (hW''.mono h3.size)) (by decide) (by decide) (by decide) (by decide) (by decide))
  rwa [List.take_of_length_le (by have : (1048576 : Int).toNat = 1048576 := rfl; omega)] at this
/-- What lies on: three maps; what has changed. -/
structure ST3 (w W : World) (b1 b2 b3 n m k : Nat) (ta tb tc : Tr) : Prop where
  hb : Below w.heap.size w W
  t1 : TISS W b1 n ta
  t2 : TISS W b2 m tb
  t3 : TISS W b3 k tc
theorem ST3.up {w W W' : World} {b1 b2 b3 n m k : Nat} {ta tb tc : Tr} (h : ST3 w W b1 b2 b3 n m k ta tb tc) (hb : Below W.heap.size W W') : ST3 w W' b1 b2 b3 n m k ta tb tc :=
  ⟨h.hb.trans (hb.mono h.hb.size), h.t1.below hb, h.t2.below hb, h.t3.below hb⟩
structure OfA (wo W : World) (ba bb c1 c2 : Nat) (ta tb : Tr) : Prop where
  p : OfPSS wo c1 c2 ta tb
  ca : wo.cell? ⟨ba, 0, none⟩ = some (.pointer (some ⟨c1, 0, none⟩))
  cb : wo.cell? ⟨bb, 0, none⟩ = some (.pointer (some ⟨c2, 0, none⟩))
  ho : Below wo.heap.size wo W
theorem OfA.up {wo W W' : World} {ba bb c1 c2 : Nat} {ta tb : Tr} (h : OfA wo W ba bb c1 c2 ta tb) (hb : Below W.heap.size W W') : OfA wo W' ba bb c1 c2 ta tb := ⟨h.p, h.ca, h.cb, h.ho.trans (hb.mono h.ho.size)⟩
theorem rdcUp {W W' : World} {v : Value} {l : List ChgT} (h : RdC W v l) (hb : Below W.heap.size W W') : RdC W' v l := RdF.below h hb (Nat.le_refl _)
theorem rdpUp {W W' : World} {v : Value} {l : List PairT} (h : RdP W v l) (hb : Below W.heap.size W W') : RdP W' v l := RdF.below h hb (Nat.le_refl _)
theorem rdcTake {W : World} {a : Option Addr} {n c : Nat} {L : List ChgT} (h : RdC W (.slice a n c) L) (K : Nat) (hK : K ≤ L.length) : RdC W (.slice a K c) (L.take K) := by
  have := RdF.take h K (by rw [List.length_map]; exact hK)
  rw [← List.map_take] at this
  exact this
theorem some_ofR {w : World} {ba bb b1 b2 : Nat} {ta tb : Tr} {L : List ChgT} (h : OfPSS w b1 b2 ta tb) (ca : w.cell? ⟨ba, 0, none⟩ = some (.pointer (some ⟨b1, 0, none⟩))) (cb : w.cell? ⟨bb, 0, none⟩ = some (.pointer (some ⟨b2, 0, none⟩)))
    (hL : chgLSS ta tb = L.map encC) (hlen : L.length ≤ 1000000) (n : Int) : ∀ W, Below w.heap.size w W → Calls Try.prog 15 #[.func (.func 33) #[] #[.pointer (some ⟨ba, 0, none⟩), .pointer (some ⟨bb, 0, none⟩)], .int .i64 n] W (SomeP W L n) := by
  intro W hW
  refine some_any (Ok := fun X => Below w.heap.size w X) n hlen (enters_of Try.func33 (by kernel_rfl) rfl) (fun X hX => hW.trans (hX.mono hW.size)) (fun W' hW' => ?_)
  rw [← hL]
  exact of1SS_seqs h ca cb (hW.trans (hW'.mono hW.size)) (by decide) (by decide) (by decide) (by decide) (by decide)
/-- The first n, whatever n is. -/
theorem ranged_n {w : World} {ba bb b1 b2 K : Nat} {ta tb : Tr} {L : List ChgT} (h : OfPSS w b1 b2 ta tb) (ca : w.cell? ⟨ba, 0, none⟩ = some (.pointer (some ⟨b1, 0, none⟩))) (cb : w.cell? ⟨bb, 0, none⟩ = some (.pointer (some ⟨b2, 0, none⟩)))
    (hL : chgLSS ta tb = L.map encC) (hlen : L.length ≤ 1000000) (n : Int) (hT : L.take n.toNat = L.take K) (hlow : n < 1 → L.take K = []) : ∀ W, Below w.heap.size w W → Calls Try.prog 14 #[.func (.func 33) #[] #[.pointer (some ⟨ba, 0, none⟩), .pointer (some ⟨bb, 0, none⟩)], .int .i64 n] W fun e w' => ∃ u, e = .returned u ∧ RdC w' u (L.take K) ∧ Below W.heap.size W w' := by
  intro W hW
  by_cases h1 : 1 ≤ n
  · refine (ranged_of h ca cb hL hlen n h1 W hW).mono ?_
    intro e w' hp
    rw [hT] at hp
    exact rangedP_rd hp
  · refine (ranged_low n (by omega)).mono ?_
    rintro e w' ⟨rfl, hb⟩
    exact ⟨_, rfl, by rw [hlow (by omega)]; exact rdc_none, hb⟩
/-- Behind: under way. -/
def BehAt (w W : World) (v : Value) (key : List UInt8) (L : List ChgT) (i : Nat) : Prop := ∃ R : List ChgT, R = (L.take i).filter (fun c => gtB c.1 key) ∧ W.ownsRow w.heap.size 31 3 v R.length (R.map cellsC).flatten ∧ R.length ≤ i ∧ Below w.heap.size w W
theorem filter_take (f : ChgT → Bool) {L : List ChgT} {i : Nat} (h : i < L.length) : (L.take (i + 1)).filter f = (L.take i).filter f ++ (if f L[i] = true then [L[i]] else []) := by
  rw [List.take_succ_eq_append_getElem h, List.filter_append]
  congr 1
  cases e : f L[i] <;> simp [e]
theorem kmin (n : Int) (L : List ChgT) : ∃ K : Nat, K ≤ L.length ∧ L.take n.toNat = L.take K ∧ min (max n 0) (L.length : Int) = (K : Int) ∧ decide (max n 0 < (L.length : Int)) = decide (K < L.length) ∧ (n < 1 → L.take K = []) := by
  refine ⟨min n.toNat L.length, Nat.min_le_right _ _, ?_, by omega, ?_, fun h => ?_⟩
  · by_cases h : n.toNat ≤ L.length
    · rw [Nat.min_eq_left h]
    · rw [Nat.min_eq_right (by omega), List.take_length, List.take_of_length_le (by omega)]
  · by_cases h : max n 0 < (L.length : Int)
    · rw [decide_eq_true h, decide_eq_true (by omega)]
    · rw [decide_eq_false h, decide_eq_false (by omega)]
  · rw [show min n.toNat L.length = 0 by omega, List.take_zero]
set_option maxRecDepth 100000 in
set_option maxHeartbeats 16000000 in
theorem reads21_walk (va vb vc : Value) (la lb lc : List PairT) (key : List UInt8) (n : Int) (w : World) (ha : RdP w va la) (hb : RdP w vb lb) (hc : RdP w vc lc) (hsa : ∀ p ∈ la, p.1.length ≤ 9223372036854775807 ∧ p.2.length ≤ 9223372036854775807) (hsb : ∀ p ∈ lb, p.1.length ≤ 9223372036854775807 ∧ p.2.length ≤ 9223372036854775807) (hsc : ∀ p ∈ lc, p.1.length ≤ 9223372036854775807 ∧ p.2.length ≤ 9223372036854775807)
    (hn : -9223372036854775808 ≤ n ∧ n ≤ 9223372036854775807) : Calls Try.prog 3 #[va, vb, vc, str key, .int .i64 n] w fun e w' => e = .returned (.bool true) ∧ Below w.heap.size w w' := by
  have HA := Lib.hid ha
  have HB := Lib.hid hb
  have HC := Lib.hid hc
  have F1 := Lib.hid (fun W (h : Below w.heap.size w W) => few_any va la W (RdF.below ha h (Nat.le_refl _)) hsa)
  have F2 := Lib.hid (fun W (h : Below w.heap.size w W) => few_any vb lb W (RdF.below hb h (Nat.le_refl _)) hsb)
  have F3 := Lib.hid (fun W (h : Below w.heap.size w W) => few_any vc lc W (RdF.below hc h (Nat.le_refl _)) hsc)
  clear ha hb hc hsa hsb hsc
  go_enter Try.func3, Try.ntmps3
  go_wp2_with fail
  refine (d21first_any w).mono ?_
  rintro e w1 ⟨rfl, hb1⟩
  have H1 := Lib.hid hb1
  clear hb1
  go_wp2_with fail
  refine (F1.out _ H1.out).mono ?_
  rintro e w2 ⟨bX, rfl, hX, hbX⟩
  have HL1 := Lib.hid hX
  have H2 := Lib.hid (H1.out.trans (hbX.mono H1.out.size))
  clear hbX hX H1 F1
  cases bX with
  | false =>
    as_aux_lemma =>
      go_wp2_with fail
      refine (d21first_any _).mono ?_
      rintro e wX ⟨rfl, hbX⟩
      go_wp2_with fail
      go_ret
      exact ⟨rfl, H2.out.trans (hbX.mono H2.out.size)⟩
  | true =>
  go_wp2_with fail
  refine (F2.out _ H2.out).mono ?_
  rintro e w3 ⟨bX, rfl, hX, hbX⟩
  have HL2 := Lib.hid hX
  have H3 := Lib.hid (H2.out.trans (hbX.mono H2.out.size))
  clear hbX hX H2 F2
  cases bX with
  | false =>
    as_aux_lemma =>
      go_wp2_with fail
      refine (d21first_any _).mono ?_
      rintro e wX ⟨rfl, hbX⟩
      go_wp2_with fail
      go_ret
      exact ⟨rfl, H3.out.trans (hbX.mono H3.out.size)⟩
  | true =>
  go_wp2_with fail
  refine (F3.out _ H3.out).mono ?_
  rintro e w4 ⟨bX, rfl, hX, hbX⟩
  have HL3 := Lib.hid hX
  have H4 := Lib.hid (H3.out.trans (hbX.mono H3.out.size))
  clear hbX hX H3 F3
  cases bX with
  | false =>
    as_aux_lemma =>
      go_wp2_with fail
      refine (d21first_any _).mono ?_
      rintro e wX ⟨rfl, hbX⟩
      go_wp2_with fail
      go_ret
      exact ⟨rfl, H4.out.trans (hbX.mono H4.out.size)⟩
  | true =>
  obtain ⟨gb, hgb⟩ : ∃ b, b = decide ((1000 : Int) < (key.length : Int)) := ⟨_, rfl⟩
  have hgb2 := hgb.symm
  cases gb with
  | true =>
    as_aux_lemma =>
      clear hgb
      go_wp2_with fail
      refine (d21first_any _).mono ?_
      rintro e w5 ⟨rfl, hb5⟩
      go_wp2_with fail
      go_ret
      exact ⟨rfl, H4.out.trans (hb5.mono H4.out.size)⟩
  | false =>
  clear hgb
  have l1 := HL1.out (by trivial)
  have l2 := HL2.out (by trivial)
  have l3 := HL3.out (by trivial)
  have M1 := Lib.hid (fun W (h : Below w.heap.size w W) => map_any va la W (RdF.below HA.out h (Nat.le_refl _)) (by omega))
  have M2 := Lib.hid (fun W (h : Below w.heap.size w W) => map_any vb lb W (RdF.below HB.out h (Nat.le_refl _)) (by omega))
  have M3 := Lib.hid (fun W (h : Below w.heap.size w W) => map_any vc lc W (RdF.below HC.out h (Nat.le_refl _)) (by omega))
  have P1 := Lib.hid (fun W (h : Below w.heap.size w W) => plain_any va la W (RdF.below HA.out h (Nat.le_refl _)) (by omega))
  have P2 := Lib.hid (fun W (h : Below w.heap.size w W) => plain_any vb lb W (RdF.below HB.out h (Nat.le_refl _)) (by omega))
  have P3 := Lib.hid (fun W (h : Below w.heap.size w W) => plain_any vc lc W (RdF.below HC.out h (Nat.le_refl _)) (by omega))
  clear HA HB HC HL1 HL2 HL3
  go_wp2_with fail
  refine (M1.out _ H4.out).mono ?_
  rintro e w5 ⟨b1, rfl, _, hm1, hb5⟩
  have H5 := Lib.hid (And.intro hm1 (H4.out.trans (hb5.mono H4.out.size)))
  clear hm1 hb5 H4 M1
  go_wp2_with fail
  refine (M2.out _ H5.out.2).mono ?_
  rintro e w6 ⟨b2, rfl, _, hm2, hb6⟩
  have H6 := Lib.hid (And.intro (H5.out.1.below hb6) (And.intro hm2 (H5.out.2.trans (hb6.mono H5.out.2.size))))
  clear hm2 hb6 H5 M2
  go_wp2_with fail
  refine (M3.out _ H6.out.2.2).mono ?_
  rintro e w7 ⟨b3, rfl, _, hm3, hb7⟩
  obtain ⟨ta, hta, hpa⟩ := H6.out.1.below hb7
  obtain ⟨tb, htb, hpb⟩ := H6.out.2.1.below hb7
  obtain ⟨tc, htc, hpc⟩ := hm3
  rw [plainP_map] at hpa hpb hpc
  have H7 := Lib.hid (show ST3 w w7 b1 b2 b3 la.length lb.length lc.length ta tb tc from ⟨H6.out.2.2.trans (hb7.mono H6.out.2.2.size), hta, htb, htc⟩)
  have HPA := Lib.hid hpa
  have HPB := Lib.hid hpb
  have HPC := Lib.hid hpc
  clear hb7 H6 M3 hta htb htc hpa hpb hpc
  go_wp2_with fail
  refine (P1.out _ H7.out.hb).mono ?_
  rintro e w8 ⟨g8, c8, rfl, hr8, hb8⟩
  have H8 := Lib.hid (And.intro (H7.out.up hb8) hr8)
  clear hr8 hb8 H7
  go_wp2_with fail
  refine (P2.out _ H8.out.1.hb).mono ?_
  rintro e w9 ⟨g9, c9, rfl, hr9, hb9⟩
  have H9 := Lib.hid (And.intro (H8.out.1.up hb9) (And.intro (rdpUp H8.out.2 hb9) hr9))
  clear hr9 hb9 H8
  have CD := Lib.hid (diff_any _ _ (plainP la) (plainP lb) w9 H9.out.2.1 H9.out.2.2 (by have := plainP_len la; omega) (by have := plainP_len lb; omega))
  have hlen0 := diffP_len (plainP la) (plainP lb)
  have hlen1 := plainP_len la
  have hlen2 := plainP_len lb
  obtain ⟨L, hLd⟩ : ∃ L, L = diffP (plainP la) (plainP lb) := ⟨_, rfl⟩
  rw [← hLd] at CD hlen0
  have hlen : L.length ≤ 400 := by omega
  have HLD := Lib.hid hLd
  clear hLd hlen0 hlen1 hlen2
  go_wp2_with fail
  refine CD.out.mono ?_
  rintro e wB ⟨vW, rfl, hrW, hbB⟩
  obtain ⟨aW, cW, rfl, hcW0, hcW, hcW2⟩ := hrW.form
  have HS := Lib.hid (H9.out.1.up hbB)
  have HRW := Lib.hid hrW
  obtain ⟨i0, hi, hz0, hz1, hz2⟩ := info_parts infoRC
  clear hrW hbB H9 CD
  go_wp2_with fail
  go_loopw [15, 16] (fun o i wr => ∃ k : Nat, k ≤ L.length ∧ i = .int .i64 (k : Int) ∧ Hid (BehAt wB wr o key L k)) (fun _ i _ => L.length - (intOf i).toNat)
  case atStart => exact ⟨0, Nat.zero_le _, rfl, Lib.hid ⟨[], by simp, World.ownsRow_nil wB _ _ 3, by simp, Below.refl _ _⟩⟩
  case round =>
    obtain ⟨k, hk, rfl, HR⟩ := hrel
    obtain ⟨vo, hvo⟩ : ∃ v, v = u15 := ⟨_, rfl⟩
    subst hvo
    by_cases hlt : k < L.length
    · as_aux_lemma =>
        have g3 : (k : Int) < (L.length : Int) := by omega
        have g4 : (0 : Int) ≤ (k : Int) := by omega
        have g2w : IntKind.i64.wrap ((k : Int) + 1) = (k : Int) + 1 := IntWalk.i64_in _ ⟨by omega, by omega⟩
        obtain ⟨R, hRe, hrow, hRl, hbel⟩ := HR.out
        obtain ⟨bA, oA, rfl, c0, c1, c2⟩ := HRW.out.get hlt
        have HF := Lib.hid (filter_take (fun c => gtB c.1 key) hlt)
        obtain ⟨⟨ck, cv, cg⟩, hc⟩ : ∃ c, c = L[k] := ⟨_, rfl⟩
        rw [← hc] at c0 c1 c2 HF
        dsimp only at c0 c1 c2
        have hlA := World.block_lt_of_cell? wB _ c0
        have d0 : wr.cell? ⟨bA, oA + k * 3, none⟩ = some (str ck) := (hbel.cell (p := ⟨bA, oA + k * 3, none⟩) hlA).trans c0
        have d1 : wr.cell? ⟨bA, oA + k * 3 + 1, none⟩ = some (str cv) := (hbel.cell (p := ⟨bA, oA + k * 3 + 1, none⟩) hlA).trans c1
        have d2 : wr.cell? ⟨bA, oA + k * 3 + 2, none⟩ = some (.bool cg) := (hbel.cell (p := ⟨bA, oA + k * 3 + 2, none⟩) hlA).trans c2
        have HH := Lib.hid (And.intro hRe (And.intro hrow hbel))
        have HRL := Lib.hid hRl
        clear c0 c1 c2 hc hlA hRe hrow hbel hRl HR HRW HS P1 P2 P3 HPA HPB HPC HLD
        cases hq1 : Op.bytesLess ck key with
        | true =>
          have HG : Hid (gtB ck key = false) := Lib.hid (by simp [gtB, hq1])
          go_wp2_with fail
          go_roundw
          case rel => exact ⟨k + 1, by omega, by go_num, Lib.hid ⟨R, by rw [HF.out]; simp [HG.out, ← HH.out.1], HH.out.2.1, by have := HRL.out; omega, HH.out.2.2⟩⟩
          case measure => simp [intOf]; omega
        | false =>
          cases hq2 : (ck == key) with
          | true =>
            have HG : Hid (gtB ck key = false) := Lib.hid (by simp [gtB, hq2])
            go_wp2_with fail
            go_roundw
            case rel => exact ⟨k + 1, by omega, by go_num, Lib.hid ⟨R, by rw [HF.out]; simp [HG.out, ← HH.out.1], HH.out.2.1, by have := HRL.out; omega, HH.out.2.2⟩⟩
            case measure => simp [intOf]; omega
          | false =>
            have HG : Hid (gtB ck key = true) := Lib.hid (by simp [gtB, hq1, hq2])
            go_wp2_with (at_builtin; refine hold ?_)
            intro _
            refine wpList_appendF (by rfl) _ _ 27 (by rfl) wB.heap.size 31 i0 _ 3 40 Try.underlying27 hi hz0 hz1 hz2 rfl (by decide) vo R.length _ (by rfl) (World.ownsRow.alloc HH.out.2.1 _) (.slice (some ⟨wr.heap.size, 0, none⟩) 1 1) [cellsC (ck, cv, cg)] (by simp [cellsC]) (by simp [cellsC, Value.oneCell']) (by rfl) (RdF.lit [cellsC (ck, cv, cg)] (by simp [cellsC]) (heap_alloc_new _ _) rfl (by simp)) (fun c h => by cases h) (by have := HRL.out; simp [maxLen]; omega) (by have := HRL.out; simp; omega) (by have := HH.out.2.2.size; simp; omega) ?_
            intro v7 w7 ho7 hg7
            have HN : Hid (BehAt wB w7 v7 key L (k + 1)) := Lib.hid ⟨R ++ [(ck, cv, cg)], by rw [HF.out]; simp [HG.out, ← HH.out.1], by rw [snocC, List.length_append]; simpa using ho7, by have := HRL.out; simp; omega, (HH.out.2.2.alloc HH.out.2.2.size _).grown hg7 (by have := HH.out.2.2.size; simp; omega) (fun j ej => (World.ownsRow.lt HH.out.2.1 j ej).1)⟩
            clear ho7 hg7 d0 d1 d2 HH
            go_wp2_with fail
            go_roundw
            case rel => exact ⟨k + 1, by omega, by go_num, HN⟩
            case measure => simp [intOf]; omega
    · obtain rfl : k = L.length := by omega
      have g3 : ¬ (L.length : Int) < (L.length : Int) := by omega
      obtain ⟨R, hRe, hrow, hRl, hbel⟩ := HR.out
      rw [List.take_length] at hRe
      have HRE := Lib.hid hRe
      have HRR : Hid (RdC wr vo R) := Lib.hid (RdF.of_row (cellsC_len R) (by simpa using hrow))
      have HSr := Lib.hid (HS.out.up hbel)
      have HRWr := Lib.hid (rdcUp HRW.out hbel)
      clear hRe hrow hbel HR HS HRW
      obtain ⟨K, hK, hT, hmin, hdec, hlow⟩ := kmin n L
      have HT := Lib.hid hT
      have HDEC := Lib.hid hdec
      have HLOW := Lib.hid hlow
      clear hT hdec hlow
      go_upto_region 15 with fail
      go_cut [17] from 85 to 89 (fun kv wc => kv = .int .i64 (K : Int) ∧ wr = wc)
      case first =>
        as_aux_lemma =>
          go_wp2_with fail
          all_goals
            go_meet
            case rel => exact ⟨congrArg (Value.int .i64) (by omega), rfl⟩
      case rest =>
      obtain ⟨rfl, rfl⟩ := hcut
      clear hmin
      have CO := Lib.hid (ofSS_any (.pointer (some ⟨b1, 0, none⟩)) (.pointer (some ⟨b2, 0, none⟩)) ta tb wr (.inl ⟨b1, rfl, HSr.out.t1.mp⟩) (.inl ⟨b2, rfl, HSr.out.t2.mp⟩))
      go_wp2_with fail
      refine CO.out.mono ?_
      rintro e wo ⟨ba, bb, c1, c2, rfl, g1, g2, g3', g4, hbo⟩
      have hL : chgLSS ta tb = L.map encC := by
        rw [chgL_prs HSr.out.t1.ws HSr.out.t2.ws HSr.out.t1.rs HSr.out.t2.rs, HPA.out, HPB.out, HLD.out]
        exact chgP_diff _ _ (plainP_ris la) (plainP_ris lb)
      have HO := Lib.hid (show OfA wo wo ba bb c1 c2 ta tb from ⟨ofP_of g1 g2 HSr.out.t1 HSr.out.t2 (by omega) (by omega), g3', g4, Below.refl _ _⟩)
      have HSo := Lib.hid (HSr.out.up hbo)
      have HRWo := Lib.hid (And.intro (rdcUp HRWr.out hbo) (rdcUp HRR.out hbo))
      have HLL := Lib.hid hL
      have eT : L.take (1048576 : Int).toNat = L := List.take_of_length_le (by have : (1048576 : Int).toNat = 1048576 := rfl; omega)
      have CR := Lib.hid (fun W h => by have := ranged_of HO.out.p HO.out.ca HO.out.cb hL (by omega) 1048576 (by decide) W h; rw [eT] at this; exact this)
      have CSo := Lib.hid (fun W h => some_ofR HO.out.p HO.out.ca HO.out.cb hL (by omega) n W h)
      clear g1 g2 g3' g4 hbo hL eT HSr HRWr HRR CO
      go_wp2_with fail
      refine (CR.out _ HO.out.ho).mono ?_
      intro e wp hp
      obtain ⟨vA, rfl, hrA, hbp⟩ := rangedP_rd hp
      have HSp := Lib.hid (HSo.out.up hbp)
      have HOp := Lib.hid (HO.out.up hbp)
      have HRWp := Lib.hid (And.intro (rdcUp HRWo.out.1 hbp) (And.intro (rdcUp HRWo.out.2 hbp) hrA))
      clear hp hrA hbp HSo HO HRWo CR
      go_wp2_with fail
      refine (CSo.out _ HOp.out.ho).mono ?_
      rintro e wA ⟨vS, rfl, hrS, hbA⟩
      rw [HDEC.out]
      have HSA := Lib.hid (HSp.out.up hbA)
      have HOA := Lib.hid (HOp.out.up hbA)
      have HRA := Lib.hid (And.intro (rdcUp HRWp.out.1 hbA) (And.intro (rdcUp HRWp.out.2.1 hbA) (And.intro (rdcUp HRWp.out.2.2 hbA) (show RdC wA vS (L.take K) by have h : RdC wA vS (L.take n.toNat) := RdF.of_row (cellsC_len _) (by simpa using hrS); rw [HT.out] at h; exact h))))
      clear hrS hbA HSp HOp HRWp CSo HDEC
      have kd : (K : Int) ≤ (cW : Int) := by omega
      have kd2 : (0 : Int) ≤ (K : Int) := by omega
      have kn : K ≤ cW := by omega
      obtain ⟨mb, hmb⟩ : ∃ mb, mb = decide (K < L.length) := ⟨_, rfl⟩
      have hmb2 := hmb.symm
      rw [← hmb]
      clear hmb
      have X1 := Lib.hid (fun W (h : Below wA.heap.size wA W) => changes_any vA L W (rdcUp HRA.out.2.2.1 h) (by omega))
      have X2 := Lib.hid (fun W u (h : Below wA.heap.size wA W) (hu : RdC W u L) => samechg_any u (.slice aW L.length cW) L W hu (rdcUp HRA.out.1 h))
      have X3 := Lib.hid (fun W (h : Below wA.heap.size wA W) => changes_any vS (L.take K) W (rdcUp HRA.out.2.2.2 h) (by rw [List.length_take]; omega))
      have X4 := Lib.hid (fun W u (h : Below wA.heap.size wA W) (hu : RdC W u (L.take K)) => samechg_any u (.slice aW K cW) (L.take K) W hu (rdcTake (rdcUp HRA.out.1 h) K hK))
      have X5 := Lib.hid (fun W (h : Below wA.heap.size wA W) => ranged_n HOA.out.p HOA.out.ca HOA.out.cb HLL.out (by omega) n (by rw [HT.out]) HLOW.out W (HOA.out.ho.trans (h.mono HOA.out.ho.size)))
      have X5c := Lib.hid (fun W u (_h : Below wA.heap.size wA W) (hu : RdC W u (L.take K)) => changes_any u (L.take K) W hu (by rw [List.length_take]; omega))
      have X6 := Lib.hid (fun W (h : Below wA.heap.size wA W) => by
        have := countSS_any (.pointer (some ⟨b1, 0, none⟩)) (.pointer (some ⟨b2, 0, none⟩)) ta tb W (.inl ⟨b1, rfl, (HSA.out.t1.below h).mp⟩) (.inl ⟨b2, rfl, (HSA.out.t2.below h).mp⟩) HSA.out.t1.ws HSA.out.t2.ws (by have := HSA.out.t1.len; omega) (by have := HSA.out.t2.len; omega)
        rw [HLL.out, List.length_map] at this
        exact this)
      have X7 := Lib.hid (fun W (_h : Below wA.heap.size wA W) => after_any 33 #[.pointer (some ⟨ba, 0, none⟩), .pointer (some ⟨bb, 0, none⟩)] key W)
      have X8 := Lib.hid (fun W1 W2 (h : Below wA.heap.size wA W1) h2 => ranged_afterR (W2 := W2) HOA.out.p HOA.out.ca HOA.out.cb HLL.out HRE.out.symm (by omega) (HOA.out.ho.trans (h.mono HOA.out.ho.size)) h2)
      have X8c := Lib.hid (fun W u (_h : Below wA.heap.size wA W) (hu : RdC W u R) => changes_any u R W hu (by omega))
      have X9 := Lib.hid (fun W u (h : Below wA.heap.size wA W) (hu : RdC W u R) => samechg_any u vo R W hu (rdcUp HRA.out.2.1 h))
      have X10 := Lib.hid (fun W (h : Below wA.heap.size wA W) => fold_any (.pointer (some ⟨b3, 0, none⟩)) vA L lc.length tc W (.inl ⟨b3, rfl, (HSA.out.t3.below h).mp⟩) HSA.out.t3.ws HSA.out.t3.rs (by have := HSA.out.t3.ht; omega) (by have := HSA.out.t3.len; omega) (by omega) (rdcUp HRA.out.2.2.1 h) (by omega))
      have X11 := Lib.hid (fun W u (h : Below wA.heap.size wA W) hu hnil => fold20_rd (va := u) (vb := .slice aW L.length cW) (M := plainP lc) (L := L) (w := W) hu hnil (rdcUp HRA.out.1 h) (by have := plainP_len lc; omega) (by omega) (plainP_ris lc))
      clear HOA HRA HRE HLOW HT
      go_wp2_with fail
      have B0 := Lib.hid (show Below wA.heap.size wA wA.drew from Below.drewsN (Below.refl _ _) 1)
      refine wp_region_any (by kernel_rfl) ?_
      change wpAny _ _ _ _ _ _ _ (World.drew _)
      refine wpAny_take (i := 0) (v := ?v1) rfl (by kernel_rfl) (by kernel_rfl) (by kernel_rfl) (fun _ _ _ h => h) (Or.inl ⟨by rfl, ?hy1⟩) ?_
      case hy1 => (intro w; go_simp; try with_reducible rfl)
      go_simp
      refine wpAny_take (i := 2) (v := ?v2) rfl (by kernel_rfl) (by kernel_rfl) (by kernel_rfl) (fun _ _ _ h => h) (Or.inl ⟨by rfl, ?hy2⟩) ?_
      case hy2 => (intro w; go_simp; try with_reducible rfl)
      go_simp
      refine wpAny_ready (rs := [1]) (by kernel_rfl) (by simp) (AllReady.cons rfl (fun K hK => ?_) AllReady.nil)
      go_simp
      refine (X1.out _ B0.out).mono ?_
      rintro e Wa ⟨ua, rfl, hra, hbX⟩
      have Ra := Lib.hid hra
      clear hra
      have B1 := Lib.hid (B0.out.trans (hbX.mono B0.out.size))
      clear hbX
      refine hK _ _ ?_
      clear hK K
      refine wpAny_ready (rs := [3]) (by kernel_rfl) (by simp) (AllReady.cons rfl (fun K hK => ?_) AllReady.nil)
      go_simp
      refine (X2.out _ _ B1.out Ra.out).mono ?_
      rintro e Wb ⟨rfl, hbX⟩
      have B2 := Lib.hid (B1.out.trans (hbX.mono B1.out.size))
      clear hbX
      refine hK _ _ ?_
      clear hK K
      refine wpAny_take (i := 4) (v := ?v3) rfl (by kernel_rfl) (by kernel_rfl) (by kernel_rfl) (fun _ _ _ h => h) (Or.inl ⟨by rfl, ?hy3⟩) ?_
      case hy3 => (intro w; go_simp; try with_reducible rfl)
      go_simp
      refine wpAny_take (i := 5) (v := ?v4) rfl (by kernel_rfl) (by kernel_rfl) (by kernel_rfl) (fun _ _ _ h => h) (Or.inl ⟨by rfl, ?hy4⟩) ?_
      case hy4 => (intro w; go_simp; try with_reducible rfl)
      go_simp
      refine wpAny_take (i := 6) (v := ?v5) rfl (by kernel_rfl) (by kernel_rfl) (by kernel_rfl) (fun _ _ _ h => h) (Or.inl ⟨by rfl, ?hy5⟩) ?_
      case hy5 => (intro w; go_simp; try with_reducible rfl)
      go_simp
      refine wpAny_take (i := 8) (v := ?v6) rfl (by kernel_rfl) (by kernel_rfl) (by kernel_rfl) (fun _ _ _ h => h) (Or.inl ⟨by rfl, ?hy6⟩) ?_
      case hy6 => (intro w; go_simp; try with_reducible rfl)
      go_simp
      refine wpAny_take (i := 9) (v := ?v7) rfl (by kernel_rfl) (by kernel_rfl) (by kernel_rfl) (fun _ _ _ h => h) (Or.inl ⟨by rfl, ?hy7⟩) ?_
      case hy7 => (intro w; go_simp; try with_reducible rfl)
      go_simp
      refine wpAny_take (i := 10) (v := ?v8) rfl (by kernel_rfl) (by kernel_rfl) (by kernel_rfl) (fun _ _ _ h => h) (Or.inl ⟨by rfl, ?hy8⟩) ?_
      case hy8 => (intro w; go_simp; try with_reducible rfl)
      go_simp
      refine wpAny_ready (rs := [7]) (by kernel_rfl) (by simp) (AllReady.cons rfl (fun K hK => ?_) AllReady.nil)
      go_simp
      refine (X3.out _ B2.out).mono ?_
      rintro e Wc ⟨uc, rfl, hrc, hbX⟩
      have Rc := Lib.hid hrc
      clear hrc
      have B3 := Lib.hid (B2.out.trans (hbX.mono B2.out.size))
      clear hbX
      refine hK _ _ ?_
      clear hK K
      refine wpAny_ready (rs := [11]) (by kernel_rfl) (by simp) (AllReady.cons rfl (fun K hK => ?_) AllReady.nil)
      go_simp
      refine (X4.out _ _ B3.out Rc.out).mono ?_
      rintro e Wd ⟨rfl, hbX⟩
      have B4 := Lib.hid (B3.out.trans (hbX.mono B3.out.size))
      clear hbX
      refine hK _ _ ?_
      clear hK K
      refine wpAny_take (i := 12) (v := ?v9) rfl (by kernel_rfl) (by kernel_rfl) (by kernel_rfl) (fun _ _ _ h => h) (Or.inl ⟨by rfl, ?hy9⟩) ?_
      case hy9 => (intro w; go_simp; try with_reducible rfl)
      go_simp
      refine wpAny_take (i := 13) (v := ?v10) rfl (by kernel_rfl) (by kernel_rfl) (by kernel_rfl) (fun _ _ _ h => h) (Or.inl ⟨by rfl, ?hy10⟩) ?_
      case hy10 => (intro w; go_simp; try with_reducible rfl)
      go_simp
      refine wpAny_take (i := 14) (v := ?v11) rfl (by kernel_rfl) (by kernel_rfl) (by kernel_rfl) (fun _ _ _ h => h) (Or.inl ⟨by rfl, ?hy11⟩) ?_
      case hy11 => (intro w; go_simp; try with_reducible rfl)
      go_simp
      refine wpAny_take (i := 15) (v := ?v12) rfl (by kernel_rfl) (by kernel_rfl) (by kernel_rfl) (fun _ _ _ h => h) (Or.inl ⟨by rfl, ?hy12⟩) ?_
      case hy12 => (intro w; go_simp; try with_reducible rfl)
      go_simp
      refine wpAny_take (i := 16) (v := ?v13) rfl (by kernel_rfl) (by kernel_rfl) (by kernel_rfl) (fun _ _ _ h => h) (Or.inl ⟨by rfl, ?hy13⟩) ?_
      case hy13 => (intro w; go_simp; try with_reducible rfl)
      go_simp
      refine wpAny_take (i := 17) (v := ?v14) rfl (by kernel_rfl) (by kernel_rfl) (by kernel_rfl) (fun _ _ _ h => h) (Or.inl ⟨by rfl, ?hy14⟩) ?_
      case hy14 => (intro w; go_simp; try with_reducible rfl)
      go_simp
      refine wpAny_take (i := 18) (v := ?v15) rfl (by kernel_rfl) (by kernel_rfl) (by kernel_rfl) (fun _ _ _ h => h) (Or.inl ⟨by rfl, ?hy15⟩) ?_
      case hy15 => (intro w; go_simp; try with_reducible rfl)
      go_simp
      refine wpAny_take (i := 19) (v := ?v16) rfl (by kernel_rfl) (by kernel_rfl) (by kernel_rfl) (fun _ _ _ h => h) (Or.inl ⟨by rfl, ?hy16⟩) ?_
      case hy16 => (intro w; go_simp; try with_reducible rfl)
      go_simp
      refine wpAny_take (i := 20) (v := ?v17) rfl (by kernel_rfl) (by kernel_rfl) (by kernel_rfl) (fun _ _ _ h => h) (Or.inl ⟨by rfl, ?hy17⟩) ?_
      case hy17 => (intro w; go_simp; try with_reducible rfl)
      go_simp
      refine wpAny_take (i := 21) (v := ?v18) rfl (by kernel_rfl) (by kernel_rfl) (by kernel_rfl) (fun _ _ _ h => h) (Or.inl ⟨by rfl, ?hy18⟩) ?_
      case hy18 => (intro w; go_simp; try with_reducible rfl)
      go_simp
      refine wpAny_take (i := 22) (v := ?v19) rfl (by kernel_rfl) (by kernel_rfl) (by kernel_rfl) (fun _ _ _ h => h) (Or.inl ⟨by rfl, ?hy19⟩) ?_
      case hy19 => (intro w; go_simp; try with_reducible rfl)
      go_simp
      refine wpAny_take (i := 23) (v := ?v20) rfl (by kernel_rfl) (by kernel_rfl) (by kernel_rfl) (fun _ _ _ h => h) (Or.inl ⟨by rfl, ?hy20⟩) ?_
      case hy20 => (intro w; go_simp; try with_reducible rfl)
      go_simp
      refine wpAny_take (i := 24) (v := ?v21) rfl (by kernel_rfl) (by kernel_rfl) (by kernel_rfl) (fun _ _ _ h => h) (Or.inl ⟨by rfl, ?hy21⟩) ?_
      case hy21 => (intro w; go_simp; try with_reducible rfl)
      go_simp
      refine wpAny_take (i := 27) (v := ?v22) rfl (by kernel_rfl) (by kernel_rfl) (by kernel_rfl) (fun _ _ _ h => h) (Or.inl ⟨by rfl, ?hy22⟩) ?_
      case hy22 => (intro w; go_simp; try with_reducible rfl)
      go_simp
      refine wpAny_take (i := 28) (v := ?v23) rfl (by kernel_rfl) (by kernel_rfl) (by kernel_rfl) (fun _ _ _ h => h) (Or.inl ⟨by rfl, ?hy23⟩) ?_
      case hy23 => (intro w; go_simp; try with_reducible rfl)
      go_simp
      refine wpAny_take (i := 29) (v := ?v24) rfl (by kernel_rfl) (by kernel_rfl) (by kernel_rfl) (fun _ _ _ h => h) (Or.inl ⟨by rfl, ?hy24⟩) ?_
      case hy24 => (intro w; go_simp; try with_reducible rfl)
      go_simp
      refine wpAny_ready (rs := [25]) (by kernel_rfl) (by simp) (AllReady.cons rfl (fun K hK => ?_) AllReady.nil)
      go_simp
      refine (X5.out _ B4.out).mono ?_
      rintro e Wf ⟨uf, rfl, hrf, hbX⟩
      have Rf := Lib.hid hrf
      clear hrf
      have B5 := Lib.hid (B4.out.trans (hbX.mono B4.out.size))
      clear hbX
      refine hK _ _ ?_
      clear hK K
      refine wpAny_ready (rs := [26]) (by kernel_rfl) (by simp) (AllReady.cons rfl (fun K hK => ?_) AllReady.nil)
      go_simp
      refine (X5c.out _ _ B5.out Rf.out).mono ?_
      rintro e Wg ⟨ug, rfl, hrg, hbX⟩
      have Rg := Lib.hid hrg
      clear hrg
      have B6 := Lib.hid (B5.out.trans (hbX.mono B5.out.size))
      clear hbX
      refine hK _ _ ?_
      clear hK K
      refine wpAny_ready (rs := [30]) (by kernel_rfl) (by simp) (AllReady.cons rfl (fun K hK => ?_) AllReady.nil)
      go_simp
      refine (X4.out _ _ B6.out Rg.out).mono ?_
      rintro e Wh ⟨rfl, hbX⟩
      have B7 := Lib.hid (B6.out.trans (hbX.mono B6.out.size))
      clear hbX
      refine hK _ _ ?_
      clear hK K
      refine wpAny_take (i := 31) (v := ?v25) rfl (by kernel_rfl) (by kernel_rfl) (by kernel_rfl) (fun _ _ _ h => h) (Or.inl ⟨by rfl, ?hy25⟩) ?_
      case hy25 => (intro w; go_simp; try with_reducible rfl)
      go_simp
      refine wpAny_take (i := 32) (v := ?v26) rfl (by kernel_rfl) (by kernel_rfl) (by kernel_rfl) (fun _ _ _ h => h) (Or.inl ⟨by rfl, ?hy26⟩) ?_
      case hy26 => (intro w; go_simp; try with_reducible rfl)
      go_simp
      refine wpAny_take (i := 33) (v := ?v27) rfl (by kernel_rfl) (by kernel_rfl) (by kernel_rfl) (fun _ _ _ h => h) (Or.inl ⟨by rfl, ?hy27⟩) ?_
      case hy27 => (intro w; go_simp; try with_reducible rfl)
      go_simp
      refine wpAny_take (i := 34) (v := ?v28) rfl (by kernel_rfl) (by kernel_rfl) (by kernel_rfl) (fun _ _ _ h => h) (Or.inl ⟨by rfl, ?hy28⟩) ?_
      case hy28 => (intro w; go_simp; try with_reducible rfl)
      go_simp
      refine wpAny_take (i := 35) (v := ?v29) rfl (by kernel_rfl) (by kernel_rfl) (by kernel_rfl) (fun _ _ _ h => h) (Or.inl ⟨by rfl, ?hy29⟩) ?_
      case hy29 => (intro w; go_simp; try with_reducible rfl)
      go_simp
      refine wpAny_take (i := 37) (v := ?v30) rfl (by kernel_rfl) (by kernel_rfl) (by kernel_rfl) (fun _ _ _ h => h) (Or.inl ⟨by rfl, ?hy30⟩) ?_
      case hy30 => (intro w; go_simp; try with_reducible rfl)
      go_simp
      refine wpAny_take (i := 38) (v := ?v31) rfl (by kernel_rfl) (by kernel_rfl) (by kernel_rfl) (fun _ _ _ h => h) (Or.inl ⟨by rfl, ?hy31⟩) ?_
      case hy31 => (intro w; go_simp; try with_reducible rfl)
      go_simp
      refine wpAny_ready (rs := [36]) (by kernel_rfl) (by simp) (AllReady.cons rfl (fun K hK => ?_) AllReady.nil)
      go_simp
      refine (X6.out _ B7.out).mono ?_
      rintro e Wi ⟨rfl, hbX⟩
      have B8 := Lib.hid (B7.out.trans (hbX.mono B7.out.size))
      clear hbX
      refine hK _ _ ?_
      clear hK K
      refine wpAny_take (i := 39) (v := ?v32) rfl (by kernel_rfl) (by kernel_rfl) (by kernel_rfl) (fun _ _ _ h => h) (Or.inl ⟨by rfl, ?hy32⟩) ?_
      case hy32 => (intro w; go_simp; try with_reducible rfl)
      go_simp
      refine wpAny_take (i := 40) (v := ?v33) rfl (by kernel_rfl) (by kernel_rfl) (by kernel_rfl) (fun _ _ _ h => h) (Or.inl ⟨by rfl, ?hy33⟩) ?_
      case hy33 => (intro w; go_simp; try with_reducible rfl)
      go_simp
      refine wpAny_take (i := 41) (v := ?v34) rfl (by kernel_rfl) (by kernel_rfl) (by kernel_rfl) (fun _ _ _ h => h) (Or.inl ⟨by rfl, ?hy34⟩) ?_
      case hy34 => (intro w; go_simp; try with_reducible rfl)
      go_simp
      refine wpAny_take (i := 42) (v := ?v35) rfl (by kernel_rfl) (by kernel_rfl) (by kernel_rfl) (fun _ _ _ h => h) (Or.inl ⟨by rfl, ?hy35⟩) ?_
      case hy35 => (intro w; go_simp; try with_reducible rfl)
      go_simp
      refine wpAny_take (i := 43) (v := ?v36) rfl (by kernel_rfl) (by kernel_rfl) (by kernel_rfl) (fun _ _ _ h => h) (Or.inl ⟨by rfl, ?hy36⟩) ?_
      case hy36 => (intro w; go_simp; try with_reducible rfl)
      go_simp
      refine wpAny_take (i := 47) (v := ?v37) rfl (by kernel_rfl) (by kernel_rfl) (by kernel_rfl) (fun _ _ _ h => h) (Or.inl ⟨by rfl, ?hy37⟩) ?_
      case hy37 => (intro w; go_simp; try with_reducible rfl)
      go_simp
      refine wpAny_ready (rs := [44]) (by kernel_rfl) (by simp) (AllReady.cons rfl (fun K hK => ?_) AllReady.nil)
      go_simp
      refine (X7.out _ B8.out).mono ?_
      rintro e Wj ⟨rfl, hWj⟩
      have HWJ := Lib.hid hWj
      have B9 := Lib.hid (show Below wA.heap.size wA Wj by have := B8.out.size; rw [hWj]; exact (B8.out.alloc this _).alloc (by simp; omega) _)
      clear hWj
      refine hK _ _ ?_
      clear hK K
      refine wpAny_ready (rs := [45]) (by kernel_rfl) (by simp) (AllReady.cons rfl (fun K hK => ?_) AllReady.nil)
      go_simp
      refine (X8.out _ _ B8.out HWJ.out).mono ?_
      intro e Wk hX
      obtain ⟨uk, rfl, hrk, hbX⟩ := rangedP_rd hX
      have Rk := Lib.hid hrk
      clear hX hrk
      have B10 := Lib.hid (B9.out.trans (hbX.mono B9.out.size))
      clear hbX
      refine hK _ _ ?_
      clear hK K
      refine wpAny_ready (rs := [46]) (by kernel_rfl) (by simp) (AllReady.cons rfl (fun K hK => ?_) AllReady.nil)
      go_simp
      refine (X8c.out _ _ B10.out Rk.out).mono ?_
      rintro e Wl ⟨ul, rfl, hrl, hbX⟩
      have Rl := Lib.hid hrl
      clear hrl
      have B11 := Lib.hid (B10.out.trans (hbX.mono B10.out.size))
      clear hbX
      refine hK _ _ ?_
      clear hK K
      refine wpAny_ready (rs := [48]) (by kernel_rfl) (by simp) (AllReady.cons rfl (fun K hK => ?_) AllReady.nil)
      go_simp
      refine (X9.out _ _ B11.out Rl.out).mono ?_
      rintro e Wm ⟨rfl, hbX⟩
      have B12 := Lib.hid (B11.out.trans (hbX.mono B11.out.size))
      clear hbX
      refine hK _ _ ?_
      clear hK K
      refine wpAny_take (i := 49) (v := ?v38) rfl (by kernel_rfl) (by kernel_rfl) (by kernel_rfl) (fun _ _ _ h => h) (Or.inl ⟨by rfl, ?hy38⟩) ?_
      case hy38 => (intro w; go_simp; try with_reducible rfl)
      go_simp
      refine wpAny_take (i := 50) (v := ?v39) rfl (by kernel_rfl) (by kernel_rfl) (by kernel_rfl) (fun _ _ _ h => h) (Or.inl ⟨by rfl, ?hy39⟩) ?_
      case hy39 => (intro w; go_simp; try with_reducible rfl)
      go_simp
      refine wpAny_done (by kernel_rfl) ?_ _
      clear X1 X2 X3 X4 X5 X5c X6 X7 X8 X8c X9 HWJ Ra Rc Rf Rg Rk Rl HLL HLD B0 B1 B2 B3 B4 B5 B6 B7 B8 B9 B10 B11
      go_wp2_with fail
      refine (X10.out _ B12.out).mono ?_
      rintro e wF ⟨bF, tF, rfl, _, hTF, hpF, hbX⟩
      have B13 := Lib.hid (B12.out.trans (hbX.mono B12.out.size))
      have HTF := Lib.hid hTF
      have HPF := Lib.hid (show prs tF = (foldPP (plainP lc) L).map encP by rw [hpF, HPC.out, fold_enc])
      have hlF := foldPP_len L (plainP lc)
      have hlC := plainP_len lc
      clear hTF hpF hbX X10 B12
      go_wp2_with fail
      refine (d21first_any _).mono ?_
      rintro e wG ⟨rfl, hbX⟩
      have B14 := Lib.hid (B13.out.trans (hbX.mono B13.out.size))
      have HTG := Lib.hid (HTF.out.below hbX)
      clear hbX HTF B13
      go_wp2_with fail
      refine (pairs21_any (l := foldPP (plainP lc) L) HTG.out (by omega) HPF.out).mono ?_
      rintro e W1 ⟨v1, rfl, hr, hbX⟩
      have B15 := Lib.hid (B14.out.trans (hbX.mono B14.out.size))
      have R1 := Lib.hid hr
      clear hr hbX
      go_wp2_with fail
      refine (P3.out _ (HSA.out.hb.trans (B15.out.mono HSA.out.hb.size))).mono ?_
      rintro e W2 ⟨g2, c2, rfl, hr, hbX⟩
      have B16 := Lib.hid (B15.out.trans (hbX.mono B15.out.size))
      have R2 := Lib.hid hr
      have R1 := Lib.hid (rdpUp R1.out hbX)
      clear hr hbX
      go_wp2_with fail
      refine (X11.out _ _ B16.out R2.out (fun c h => by cases h)).mono ?_
      rintro e W3 ⟨g3x, c3x, rfl, hr, hbX⟩
      have B17 := Lib.hid (B16.out.trans (hbX.mono B16.out.size))
      have R3 := Lib.hid hr
      have R1 := Lib.hid (rdpUp R1.out hbX)
      clear hr hbX R2
      go_wp2_with fail
      refine (samepairs_any _ _ (foldPP (plainP lc) L) _ R1.out R3.out).mono ?_
      rintro e W3x ⟨rfl, hbX⟩
      have B18 := Lib.hid (B17.out.trans (hbX.mono B17.out.size))
      clear hbX R1 R3
      go_wp2_with fail
      refine (pairs21_any (l := plainP lc) (HSA.out.t3.below B18.out) (by omega) HPC.out).mono ?_
      rintro e W4 ⟨v4, rfl, hr, hbX⟩
      have B19 := Lib.hid (B18.out.trans (hbX.mono B18.out.size))
      have R4 := Lib.hid hr
      clear hr hbX
      go_wp2_with fail
      refine (P3.out _ (HSA.out.hb.trans (B19.out.mono HSA.out.hb.size))).mono ?_
      rintro e W5 ⟨g5, c5, rfl, hr, hbX⟩
      have B20 := Lib.hid (B19.out.trans (hbX.mono B19.out.size))
      have R5 := Lib.hid hr
      have R4 := Lib.hid (rdpUp R4.out hbX)
      clear hr hbX
      go_wp2_with fail
      refine (samepairs_any _ _ (plainP lc) _ R4.out R5.out).mono ?_
      rintro e W5x ⟨rfl, hbX⟩
      have B21 := Lib.hid (B20.out.trans (hbX.mono B20.out.size))
      clear hbX R4 R5
      go_wp2_with fail
      refine (pairs21_any (l := plainP la) (HSA.out.t1.below B21.out) (by omega) HPA.out).mono ?_
      rintro e W6 ⟨v6, rfl, hr, hbX⟩
      have B22 := Lib.hid (B21.out.trans (hbX.mono B21.out.size))
      have R6 := Lib.hid hr
      clear hr hbX
      go_wp2_with fail
      refine (P1.out _ (HSA.out.hb.trans (B22.out.mono HSA.out.hb.size))).mono ?_
      rintro e W7 ⟨g7, c7, rfl, hr, hbX⟩
      have B23 := Lib.hid (B22.out.trans (hbX.mono B22.out.size))
      have R7 := Lib.hid hr
      have R6 := Lib.hid (rdpUp R6.out hbX)
      clear hr hbX
      go_wp2_with fail
      refine (samepairs_any _ _ (plainP la) _ R6.out R7.out).mono ?_
      rintro e W7x ⟨rfl, hbX⟩
      have B24 := Lib.hid (B23.out.trans (hbX.mono B23.out.size))
      clear hbX R6 R7
      go_wp2_with fail
      refine (pairs21_any (l := plainP lb) (HSA.out.t2.below B24.out) (by omega) HPB.out).mono ?_
      rintro e W8 ⟨v8, rfl, hr, hbX⟩
      have B25 := Lib.hid (B24.out.trans (hbX.mono B24.out.size))
      have R8 := Lib.hid hr
      clear hr hbX
      go_wp2_with fail
      refine (P2.out _ (HSA.out.hb.trans (B25.out.mono HSA.out.hb.size))).mono ?_
      rintro e W9 ⟨g9, c9, rfl, hr, hbX⟩
      have B26 := Lib.hid (B25.out.trans (hbX.mono B25.out.size))
      have R9 := Lib.hid hr
      have R8 := Lib.hid (rdpUp R8.out hbX)
      clear hr hbX
      go_wp2_with fail
      refine (samepairs_any _ _ (plainP lb) _ R8.out R9.out).mono ?_
      rintro e W9x ⟨rfl, hbX⟩
      have B27 := Lib.hid (B26.out.trans (hbX.mono B26.out.size))
      clear hbX R8 R9
      go_wp2_with fail
      go_ret
      exact ⟨rfl, HSA.out.hb.trans (B27.out.mono HSA.out.hb.size)⟩
end Go.Proofs.Yteibiaplmmdppaa
namespace Go.Proofs.Yteibiaplmmdppaa
open Go.RowKit

theorem reads21_main (va : Value) (la : List PairT) (vb : Value) (lb : List PairT) (vc : Value) (lc : List PairT) (key : ByteArray) (n : Int) (w : World) (ha : RdP w va la) (hsa : ∀ p ∈ la, p.1.length ≤ 9223372036854775807 ∧ p.2.length ≤ 9223372036854775807) (hb : RdP w vb lb) (hsb : ∀ p ∈ lb, p.1.length ≤ 9223372036854775807 ∧ p.2.length ≤ 9223372036854775807)
    (hc : RdP w vc lc) (hsc : ∀ p ∈ lc, p.1.length ≤ 9223372036854775807 ∧ p.2.length ≤ 9223372036854775807) (_ : key.size ≤ maxLen) (hn : -9223372036854775808 ≤ n ∧ n ≤ 9223372036854775807) : Calls Try.prog 3 #[va, vb, vc, .string key, .int .i64 n] w fun e w' => e = .returned (.bool true) ∧ Below w.heap.size w w' := by
  obtain ⟨⟨k⟩⟩ := key
  exact reads21_walk va vb vc la lb lc k n w ha hb hc hsa hsb hsc hn
end Go.Proofs.Yteibiaplmmdppaa
