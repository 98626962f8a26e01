/- A row of the call's own that holds numbers in every cell, the spare ones too: no node lies in it. -/
import Derived.Test.YtdkplhfbcpobaaaMergesM
namespace Go.Proofs.Ytdkplhfbcpobaaa
open Go.RowKit

/-- A number. -/
def IsI (c : Value) : Prop := ∃ n, c = .int .i64 n
/-- A slice of numbers. -/
def RowI (w : World) (base : Nat) (v : Value) (xs : List Value) : Prop :=
  (∀ c ∈ xs, IsI c) ∧ ((v = .slice none 0 0 ∧ xs = []) ∨ ∃ (g cap : Nat) (cur : Array Value), v = .slice (some ⟨g, 0, none⟩) xs.length cap ∧ base ≤ g ∧ w.heap[g]? = some (.cells cur 3 (0, 0)) ∧ xs.length ≤ cap ∧ cap ≤ maxLen ∧ cur.size = cap ∧ cur.toList.take xs.length = xs ∧ ∀ c ∈ cur.toList, IsI c)
theorem RowI.row {w : World} {base : Nat} {v : Value} {xs : List Value} (h : RowI w base v xs) : w.ownsRow base 3 1 v xs.length xs := by
  obtain ⟨_, ⟨rfl, rfl⟩ | ⟨g, cap, cur, rfl, h1, h2, h3, h4, h5, h6, _⟩⟩ := h
  · exact World.ownsRow_nil _ _ _ _
  · exact ⟨by simp, .inr ⟨g, cap, cur, rfl, h1, h2, h3, h4, by omega, by simpa using h6⟩⟩
theorem RowI.nil (w : World) (base : Nat) : RowI w base (.slice none 0 0) [] := ⟨by simp, .inl ⟨rfl, rfl⟩⟩
theorem RowI.turn {w w' : World} {base : Nat} {v : Value} {xs : List Value} (h : RowI w base v xs) (hk : ∀ g cur, base ≤ g → w.heap[g]? = some (.cells cur 3 (0, 0)) → w'.heap[g]? = some (.cells cur 3 (0, 0))) : RowI w' base v xs := by
  obtain ⟨h0, h | ⟨g, cap, cur, e, h1, h2, h3⟩⟩ := h
  · exact ⟨h0, .inl h⟩
  · exact ⟨h0, .inr ⟨g, cap, cur, e, h1, hk g cur h1 h2, h3⟩⟩
theorem zero_ints (n : Nat) : ∀ c ∈ (Builtin.zeroCells (Value.int .i64 0).cells n).toList, IsI c := by
  intro c hc
  simp only [Builtin.zeroCells, Value.cells, Array.toList_map, List.mem_map] at hc
  obtain ⟨i, _, rfl⟩ := hc
  refine ⟨0, ?_⟩
  have : i % 1 = 0 := Nat.mod_one i
  simp [this]
/-- A number appended. -/
theorem append_ints {P : Program} (w : World) {base : Nat} {t ty : TypeId} {i : TypeInfo} (ht : P.underlying t = some (.slice 3)) (hi : P.info? 3 = some i) (hz : i.zero = some (.int .i64 0)) (hs : i.size = 1) (hb : i.bytes = 8) {v : Value} {xs : List Value} (h : RowI w base v xs) {x : Int} {a : Addr} {c : Nat}
    (hx : ∀ j u, [Value.int .i64 x][j]? = some u → w.cell? (a.add j) = some u) (hlen : xs.length + 1 ≤ 1000000) (hbase : base ≤ w.heap.size) :
    ∃ v' w', (Builtin.append_ #[t, t] ty #[v, .slice (some a) 1 c]).run P w = .ok v' w' ∧ RowI w' base v' (xs ++ [.int .i64 x]) ∧ w.grownBy w' v.ownBlock := by
  have hall : ∀ c ∈ xs ++ [Value.int .i64 x], IsI c := by
    intro c hc
    rcases List.mem_append.1 hc with hc | hc
    · exact h.1 c hc
    · obtain rfl : c = .int .i64 x := by simpa using hc
      exact ⟨x, rfl⟩
  have h1 : ∀ u ∈ [Value.int .i64 x], u.oneCell' = true := by simp [Value.oneCell']
  have hml : xs.length + 1 ≤ maxLen := by simp only [maxLen]; omega
  have grown : ∀ old, (w.drew.alloc (.cells ((xs ++ [Value.int .i64 x]).toArray ++ Builtin.zeroCells (Value.int .i64 0).cells (grownCap w (xs.length + 1) old 3 - (xs.length + 1))) 3)) |> fun w' => RowI w' base (.slice (some ⟨w.heap.size, 0, none⟩) (xs.length + 1) (grownCap w (xs.length + 1) old 3)) (xs ++ [.int .i64 x]) := by
    intro old
    have hge := grownCap_ge w (xs.length + 1) old 3
    have hcm := grownCap_le_maxLen w (xs.length + 1) old 3 hml
    refine ⟨hall, .inr ⟨w.heap.size, _, _, by rw [List.length_append]; rfl, hbase, heap_alloc_new w.drew _, by simpa using hge, hcm, ?_, ?_, ?_⟩⟩
    · simp [size_zeroCells, Value.cells]
      omega
    · simp only [Array.toList_append]
      exact List.take_left
    · intro c hc
      rw [Array.toList_append] at hc
      rcases List.mem_append.1 hc with hc | hc
      · exact hall c (by simpa using hc)
      · exact zero_ints _ c hc
  rcases h.2 with ⟨rfl, rfl⟩ | ⟨g, cap, cur, rfl, hbg, hg, hnc, hcm, hcs, htake, hci⟩
  · have hr := run_append_nil (P := P) w t ty 3 i _ ht hi hz a 1 c [.int .i64 x] (by simp [hs]) hx (by omega) (by omega) (by rw [hb]; omega)
    have hgr := grown 0
    simp only [List.nil_append, List.length_nil, Nat.zero_add] at hgr ⊢
    exact ⟨_, _, hr, hgr, ⟨rfl, rfl, rfl, by simp, fun k hk _ => heap_alloc_old w.drew _ hk⟩⟩
  · by_cases hroom : xs.length + 1 ≤ cap
    · have hfit : xs.length * i.size + [Value.int .i64 x].length ≤ cur.size := by rw [hs]; simp; omega
      have hr := run_append_room (P := P) w t ty 3 i ht hi g xs.length cap cur hg a 1 c [.int .i64 x] (by simp [hs]) hx h1 hroom hfit
      refine ⟨_, _, hr, ⟨hall, .inr ⟨g, cap, _, by rw [List.length_append]; rfl, hbg, setRow_heap w g cur _ 3 _ hg, by simpa using hroom, hcm, ?_, ?_, ?_⟩⟩, ⟨rfl, rfl, rfl, by simp, fun k _ hk => setRow_other w g k _ (fun e => hk (by simp [Value.ownBlock, e]))⟩⟩
      · simp [hs]
        omega
      · simp only [hs, Nat.mul_one, htake]
        exact List.take_left
      · intro c hc
        simp only [hs, Nat.mul_one, htake, List.mem_append] at hc
        rcases hc with hc | hc
        · exact hall c (List.mem_append.2 hc)
        · exact hci c (List.mem_of_mem_drop hc)
    · have holds : ∀ j u, xs[j]? = some u → w.cell? ((⟨g, 0, none⟩ : Addr).add j) = some u := h.row.cells (g := g) rfl
      have hr := run_append_grow (P := P) w t ty 3 i _ ht hi hz ⟨g, 0, none⟩ xs.length cap xs (by simp [hs]) holds a 1 c [.int .i64 x] (by simp [hs]) hx (by omega) (by omega) (growslice_fits (by omega) (by rw [hb]; omega))
      have hgr := grown cap
      simp only [List.append_toArray] at hr ⊢
      exact ⟨_, _, hr, by simpa using hgr, ⟨rfl, rfl, rfl, by simp, fun k hk _ => heap_alloc_old w.drew _ hk⟩⟩
theorem wpListIn_append_run {F : Fence} {n : Nat} {P : Program} (w : World) {ops : Array Oper} {rest : List Oper} {o : Oper} {a : Act} {Q : Exit → Act → World → Prop}
    (hg : o.guard = none) (s x : Operand) (t : TypeId) (hop : o.op = Op.call { callee := Callee.builtin Builtin.append, args := #[s, x], argTypes := #[t, t] }) {v y : Value} (hs : a.eval s = v) (hx : a.eval x = y)
    (R : Value → World → Prop) (hrun : ∃ v' w', (Builtin.append_ #[t, t] o.type #[v, y]).run P w = .ok v' w' ∧ R v' w')
    (hK : ∀ v' w', R v' w' → wpListIn F n P ops Q rest (a.put o.dst v') w') : wpListIn F n P ops Q (o :: rest) a w := by
  refine wpListIn_plain hg fun K hK' => ?_
  obtain ⟨v', w', hr, h⟩ := hrun
  unfold Oper.wpIn
  refine ⟨by simp [Oper.about, hop, resolve, Target.leads, Sem.run_pure], ?_⟩
  rw [Oper.semAt_plain F _ _ (by rw [hop]; intro c hc'; cases hc')]
  simp [execOp, hop, resolve, invoke, builtin, hs, hx, hr, Result.andThen]
  exact hK' _ _ (hK v' w' h)
/-- Nodes lie on where numbers are appended. -/
theorem nk_ints {w w' : World} {base : Nat} {v : Value} {xs : List Value} (h : RowI w base v xs) (hg : w.grownBy w' v.ownBlock) : NK w w' := by
  refine ⟨hg.size, fun b k x n ol or T hb => ?_⟩
  rw [hg.block b (Array.getElem?_eq_some_iff.1 hb).1 ?_]
  · exact hb
  · intro e
    rcases h.2 with ⟨rfl, _⟩ | ⟨g, cap, cur, rfl, _, h2, _, _, _, _, h7⟩
    · simp [Value.ownBlock] at e
    · obtain rfl : b = g := by simpa [Value.ownBlock] using e
      rw [h2] at hb
      simp only [Option.some.injEq, Obj.cells.injEq] at hb
      obtain ⟨rfl, _⟩ := hb
      obtain ⟨m, hm⟩ := h7 (.pointer ol) (by simp)
      cases hm
end Go.Proofs.Ytdkplhfbcpobaaa
