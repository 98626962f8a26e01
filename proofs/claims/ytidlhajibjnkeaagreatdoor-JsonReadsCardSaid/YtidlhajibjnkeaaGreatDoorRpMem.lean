/- hblref1.Parse: an object's members in their row. -/
import Derived.Test.YtidlhajibjnkeaaGreatDoorRpLst
import Derived.Test.YtidlhajibjnkeaaGreatDoorRowIns
import Derived.Deep.AppendLies
namespace Go.Proofs.YtidlhajibjnkeaaGreatDoor
open Go.RowKit

theorem infoRpM : (Tryz.prog.info? 61).map (fun i => (i.zero, i.size, i.bytes)) = some (some (.agg #[str [], .int .i64 0, .int .i64 0, str [], .slice none 0 0, .slice none 0 0]), 6, 96) := by kernel_rfl
section
variable {W : World} {F : Nat → Prop}
theorem RdM.append : ∀ {l1 l2 : List MemT} {r1 r2 : List (List Value)}, RdM W F l1 r1 → RdM W F l2 r2 → RdM W F (l1 ++ l2) (r1 ++ r2)
  | [], _, [], _, _, h => h
  | (n, v) :: t, _, r :: rs, _, h1, h2 => by
    unfold RdM at h1
    show RdM W F ((n, v) :: (t ++ _)) (r :: (rs ++ _))
    unfold RdM
    exact ⟨h1.1, RdM.append h1.2 h2⟩
  | [], _, _ :: _, _, h, _ => by unfold RdM at h; exact h.elim
  | _ :: _, _, [], _, h, _ => by unfold RdM at h; exact h.elim
theorem RdM.take : ∀ {l : List MemT} {r : List (List Value)} (k : Nat), RdM W F l r → RdM W F (l.take k) (r.take k)
  | _, _, 0, _ => by simp only [List.take_zero]; unfold RdM; trivial
  | [], [], k + 1, h => by simpa using h
  | (n, v) :: t, r :: rs, k + 1, h => by
    unfold RdM at h
    rw [List.take_succ_cons, List.take_succ_cons]
    unfold RdM
    exact ⟨h.1, RdM.take k h.2⟩
  | [], _ :: _, _ + 1, h => by unfold RdM at h; exact h.elim
  | _ :: _, [], _ + 1, h => by unfold RdM at h; exact h.elim
theorem RdM.drop : ∀ {l : List MemT} {r : List (List Value)} (k : Nat), RdM W F l r → RdM W F (l.drop k) (r.drop k)
  | _, _, 0, h => by simpa using h
  | [], [], k + 1, h => by simpa using h
  | (n, v) :: t, r :: rs, k + 1, h => by
    unfold RdM at h
    rw [List.drop_succ_cons, List.drop_succ_cons]
    exact RdM.drop k h.2
  | [], _ :: _, _ + 1, h => by unfold RdM at h; exact h.elim
  | _ :: _, [], _ + 1, h => by unfold RdM at h; exact h.elim
theorem RdJ.one {v : JV} {cs : List Value} (h : RdJ W F v cs) : ∀ u ∈ cs, u.oneCell' = true := by
  obtain ⟨al, ll, cl, am, lm, cm, rfl, _⟩ := h.open
  intro u hu
  simp only [List.mem_cons, List.not_mem_nil, or_false] at hu
  rcases hu with rfl | rfl | rfl | rfl | rfl <;> rfl
theorem RdM.one : ∀ {l : List MemT} {r : List (List Value)}, RdM W F l r → ∀ u ∈ r.flatten, u.oneCell' = true
  | [], [], _, u, hu => by simp at hu
  | (n, v) :: t, r :: rs, h, u, hu => by
    unfold RdM at h
    obtain ⟨⟨cs, rfl, hc⟩, h2⟩ := h
    rw [List.flatten_cons, List.mem_append, List.mem_cons] at hu
    rcases hu with (rfl | hu) | hu
    · rfl
    · exact RdJ.one hc u hu
    · exact RdM.one h2 u hu
  | [], _ :: _, h, _, _ => by unfold RdM at h; exact h.elim
  | _ :: _, [], h, _, _ => by unfold RdM at h; exact h.elim
end
/-- Members under way in a row of the call's own. -/
def RowM (base : Nat) (d : List MemT) (vm : Value) (W : World) : Prop :=
  ∃ rows, W.ownsRow base 61 6 vm d.length rows.flatten ∧ RdM W (fun i => base ≤ i ∧ i < W.heap.size ∧ vm.ownBlock ≠ some i) d rows
theorem RowM.up {base : Nat} {d : List MemT} {vm : Value} {W W' : World} (h : RowM base d vm W) (hb : Below W.heap.size W W') : RowM base d vm W' := by
  obtain ⟨rows, h1, h2⟩ := h
  exact ⟨rows, owns_below h1 hb (Nat.le_refl _), (h2.up hb).mono (fun i hi hF => ⟨hF.1, hi, hF.2.2⟩)⟩
theorem RowM.frm {F : Nat → Prop} {base : Nat} {d : List MemT} {vm : Value} {W W' : World} (h : RowM base d vm W) (hf : Frm F W W') (hF : ∀ i, F i → i < base ∨ W.heap.size ≤ i) : RowM base d vm W' := by
  obtain ⟨rows, h1, h2⟩ := h
  refine ⟨rows, owns_frm h1 hf (fun k hk e => by have := hF k e; have := h1.lt k hk; omega), ?_⟩
  exact (h2.frm hf (fun i hi e => by have := hF i e; omega)).mono (fun i hi hF => ⟨hF.1, Nat.lt_of_lt_of_le hF.2.1 hf.size, hF.2.2⟩)
/-- A member more, at place k. -/
theorem RowM.ins {base B0 k g cap : Nat} {d : List MemT} {vm : Value} {nm : List UInt8} {v : JV} {cs : List Value} {rows : List (List Value)} {W w9 : World} (_h1 : W.ownsRow base 61 6 vm d.length rows.flatten)
    (h2 : RdM W (fun i => base ≤ i ∧ i < W.heap.size ∧ vm.ownBlock ≠ some i) d rows) (hk : k ≤ d.length) (hB : base ≤ B0) (hvb : ∀ j, vm.ownBlock = some j → j < B0) (hv : RdJ W (fun i => B0 ≤ i) v cs)
    (hf : Frm (fun i => vm.ownBlock = some i ∨ W.heap.size ≤ i) W w9) (ho : w9.ownsRow base 61 6 (.slice (some ⟨g, 0, none⟩) (d.length + 1) cap) (d.length + 1) ((rows.take k).flatten ++ ((str nm :: cs) :: rows.drop k).flatten))
    (hl : vm.ownBlock = some g ∨ W.heap.size ≤ g) : RowM base (d.take k ++ (nm, v) :: d.drop k) (.slice (some ⟨g, 0, none⟩) (d.length + 1) cap) w9 := by
  have hlen : (d.take k ++ (nm, v) :: d.drop k).length = d.length + 1 := by simp; omega
  have hown : ∀ i, base ≤ i → i < W.heap.size → vm.ownBlock ≠ some i → Value.ownBlock (.slice (some ⟨g, 0, none⟩) (d.length + 1) cap) ≠ some i := by
    intro i _ hi hne e
    simp only [Value.ownBlock, Option.some.injEq] at e
    subst e
    rcases hl with h | h
    · exact hne h
    · omega
  have hm : RdM w9 (fun i => base ≤ i ∧ i < w9.heap.size ∧ Value.ownBlock (.slice (some ⟨g, 0, none⟩) (d.length + 1) cap) ≠ some i) d rows :=
    (h2.frm hf (fun i hi e => by rcases e with e | e; exact hi.2.2 e; omega)).mono (fun i hi hF => ⟨hF.1, hi, hown i hF.1 hF.2.1 hF.2.2⟩)
  have hj : RdJ w9 (fun i => base ≤ i ∧ i < w9.heap.size ∧ Value.ownBlock (.slice (some ⟨g, 0, none⟩) (d.length + 1) cap) ≠ some i) v cs := by
    have h3 : RdJ W (fun i => B0 ≤ i ∧ i < W.heap.size) v cs := hv.mono (fun i hi hF => ⟨hF, hi⟩)
    refine (h3.frm hf (fun i hi e => ?_)).mono (fun i hi hF => ⟨by omega, hi, hown i (by omega) hF.2 (fun e => by have := hvb i e; omega)⟩)
    rcases e with e | e
    · have := hvb i e; omega
    · omega
  refine ⟨rows.take k ++ (str nm :: cs) :: rows.drop k, ?_, RdM.append (hm.take k) ?_⟩
  · rw [hlen, List.flatten_append]
    exact ho
  · show RdM w9 _ ((nm, v) :: d.drop k) ((str nm :: cs) :: rows.drop k)
    unfold RdM
    exact ⟨⟨cs, rfl, hj⟩, hm.drop k⟩
/-- A name in its cell. -/
theorem RowM.get {base k : Nat} {d : List MemT} {vm : Value} {W : World} (h : RowM base d vm W) (hk : k < d.length) : ∃ g c, vm = .slice (some ⟨g, 0, none⟩) d.length c ∧ W.cell? ⟨g, k * 6, none⟩ = some (str d[k].1) := by
  obtain ⟨rows, h1, h2⟩ := h
  obtain ⟨r1, r2⟩ := RdM.rows h2
  obtain ⟨g, c, rfl, _, _⟩ := World.ownsRow.form h1 (by omega)
  refine ⟨g, c, rfl, ?_⟩
  obtain ⟨cs, e, _⟩ := RdM.at h2 k hk (by omega)
  have h3 : W.ownsRow base 61 6 (.slice (some ⟨g, 0, none⟩) rows.length c) rows.length rows.flatten := by rw [r1]; exact h1
  obtain ⟨b', c', hv, _, _, _, h4⟩ := RdF.of_row r2 h3
  obtain ⟨b, off, hb, hc⟩ := h4 (fun e => by rw [e] at r1; simp at r1; omega)
  simp only [Value.slice.injEq] at hv
  obtain ⟨ha, _⟩ := hv
  rw [hb] at ha
  cases ha
  have := hc k (by omega) 0 (str d[k].1) (by rw [e]; rfl)
  simpa using this
/-- An object under way: the reader, the result's box, the object's box, its members. -/
structure ObR (w : World) (b : Nat) (t : List UInt8) (q x : Nat) (d : List MemT) (vm : Value) (W : World) : Prop where
  js : JSt w b t q x W
  z : W.heap[w.heap.size]? = some (.cells #[.int .i64 0, .int .i64 0, str [], .slice none 0 0, .slice none 0 0] 35 (0, 0))
  v : W.heap[w.heap.size + 1]? = some (.cells #[.int .i64 7, .int .i64 0, str [], .slice none 0 0, vm] 35 (0, 0))
  row : RowM (w.heap.size + 2) d vm W
  lt : b < w.heap.size
section
variable {w W W' : World} {b q x : Nat} {t : List UInt8} {d : List MemT} {vm : Value}
theorem ObR.sz (h : ObR w b t q x d vm W) : w.heap.size + 2 ≤ W.heap.size := (Array.getElem?_eq_some_iff.1 h.v).1
theorem ObR.vb (h : ObR w b t q x d vm W) : ∀ k, vm.ownBlock = some k → w.heap.size + 2 ≤ k ∧ k < W.heap.size := by
  obtain ⟨rows, h1, _⟩ := h.row
  exact fun k hk => h1.lt k hk
theorem ObR.up (h : ObR w b t q x d vm W) (hb : Below W.heap.size W W') : ObR w b t q x d vm W' :=
  ⟨h.js.below hb, box_up h.z hb, box_up h.v hb, h.row.up hb, h.lt⟩
theorem ObR.rd {q' x' : Nat} (h : ObR w b t q x d vm W) (hs : JSt W b t q' x' W') : ObR w b t q' x' d vm W' :=
  ⟨h.js.trans hs, box_frm h.z hs.2 (by have := h.lt; omega), box_frm h.v hs.2 (by have := h.lt; omega), h.row.frm hs.2 (fun i e => by have := h.lt; omega), h.lt⟩
theorem ObR.setAt (h : ObR w b t q x d vm W) (q' : Nat) (n : Int) (hn : n = (q' : Int)) : ObR w b t q' x d vm (W.setCell ⟨b, 1, none⟩ (.int .i64 n)) :=
  ⟨h.js.setAt q' n hn, box_far _ h.z (by have := h.lt; omega), box_far _ h.v (by have := h.lt; omega), h.row.frm (Frm.set (F := fun i => i = b) _ rfl) (fun i e => by have := h.lt; omega), h.lt⟩
/-- What the object's box reads as. -/
theorem ObR.val (h : ObR w b t q x d vm W) {W9 : World} (hf : Frm (fun i => i = w.heap.size) W W9) : ∃ a c, vm = .slice a d.length c ∧ RdJ W9 (fun i => w.heap.size ≤ i) (.mk 7 0 [] [] d) [.int .i64 7, .int .i64 0, str [], .slice none 0 0, .slice a d.length c] := by
  obtain ⟨rows, h3, h4⟩ := h.row
  obtain ⟨r1, r2⟩ := RdM.rows h4
  have hvk := h.vb
  obtain ⟨a, c, rfl⟩ := own_slice h3
  refine ⟨a, c, rfl, ?_⟩
  have h3' : RdFB (fun i => w.heap.size + 2 ≤ i) 6 W (.slice a d.length c) rows := by
    rw [← r1] at h3 hvk ⊢
    exact RdFB.of_row r2 h3 (fun k hk => (hvk k hk).1)
  unfold RdJ
  refine ⟨_, _, rfl, ⟨[], RdFB.nil _ _ _, by unfold RdL; trivial⟩, rows, ?_, ?_⟩
  · exact (h3'.frm hf (fun i hi e => by omega)).mono (fun i _ hi => by omega) (fun r hr => by rw [r2 r hr]; omega)
  · exact (h4.frm hf (fun i hi e => by omega)).mono (fun i _ hi => by omega)
/-- A member more in the box. -/
theorem ObR.ins {w9 : World} {k g cap B0 : Nat} {nm : List UInt8} {v : JV} {cs : List Value} {rows : List (List Value)} (h : ObR w b t q x d vm W) (h1 : W.ownsRow (w.heap.size + 2) 61 6 vm d.length rows.flatten)
    (h2 : RdM W (fun i => w.heap.size + 2 ≤ i ∧ i < W.heap.size ∧ vm.ownBlock ≠ some i) d rows) (hk : k ≤ d.length) (hB : w.heap.size + 2 ≤ B0) (hvb : ∀ j, vm.ownBlock = some j → j < B0) (hv : RdJ W (fun i => B0 ≤ i) v cs)
    (hf : Frm (fun i => vm.ownBlock = some i ∨ W.heap.size ≤ i) W w9) (ho : w9.ownsRow (w.heap.size + 2) 61 6 (.slice (some ⟨g, 0, none⟩) (d.length + 1) cap) (d.length + 1) ((rows.take k).flatten ++ ((str nm :: cs) :: rows.drop k).flatten))
    (hl : vm.ownBlock = some g ∨ W.heap.size ≤ g) : ObR w b t q x (d.take k ++ (nm, v) :: d.drop k) (.slice (some ⟨g, 0, none⟩) (d.length + 1) cap) (w9.setCell ⟨w.heap.size + 1, 4, none⟩ (.slice (some ⟨g, 0, none⟩) (d.length + 1) cap)) ∧ w9.cell? ⟨w.heap.size + 1, 4, none⟩ = some vm ∧ w9.frozen? ⟨w.heap.size + 1, 4, none⟩ = false := by
  have hr := RowM.ins h1 h2 hk hB hvb hv hf ho hl
  have hvk := h.vb
  have hsz := h.sz
  have hlt := h.lt
  have hno : ∀ i, i < w.heap.size + 2 → ¬ (vm.ownBlock = some i ∨ W.heap.size ≤ i) := fun i hi e => by
    rcases e with e | e
    · have := (hvk i e).1; omega
    · omega
  have hbx := box_frm h.v hf (hno _ (by omega))
  have hzx := box_frm h.z hf (hno _ (by omega))
  have hjs : JSt w b t q x w9 := h.js.grow hf (fun i e => by
    rcases e with e | e
    · have := (hvk i e).1; omega
    · omega)
  have f2 : Frm (fun i => i = w.heap.size + 1) w9 (w9.setCell ⟨w.heap.size + 1, 4, none⟩ (.slice (some ⟨g, 0, none⟩) (d.length + 1) cap)) := Frm.set _ rfl
  refine ⟨⟨hjs.grow f2 (fun i e => by omega), box_frm hzx f2 (by omega), box_set hbx 4 _, hr.frm f2 (fun i e => by omega), h.lt⟩, by simp [World.cell?, hbx], frozen_of_row w9 (w.heap.size + 1) 4 _ _ hbx⟩
end
/-- An append of some rows: where the new row lies. -/
theorem step_appendJ {P : Program} {w : World} {ops : Array Oper} {o : Oper} {a : Act} {K : Act → World → Prop} {Q : Exit → Act → World → Prop} {N : Prop} (hgd : o.guard = none) (s x : Operand) (t : TypeId)
    (ho : o.op = .call { callee := .builtin .append, args := #[s, x], argTypes := #[t, t] }) (base : Nat) (e : TypeId) (i : TypeInfo) (z : Value) (size bytes : Nat) (ht : P.underlying t = some (.slice e)) (hi : P.info? e = some i) (hz : i.zero = some z)
    (hsize : i.size = size) (hby : i.bytes = bytes) (hzs : z.cells.size = size) (hsz : 0 < size) (v : Value) (n : Nat) (xs : List Value) (hs : a.eval s = v) (hown : w.ownsRow base e size v n xs)
    (y : Value) (L : List (List Value)) (hL : ∀ r ∈ L, r.length = size) (hone : ∀ u ∈ L.flatten, u.oneCell' = true) (hx : a.eval x = y) (hy : RdF size w y L) (hne : L ≠ [])
    (h63 : n + L.length ≤ maxLen) (hbytes : (n + L.length) * bytes ≤ 140737488355328) (hbase : base ≤ w.heap.size)
    (hK : ∀ g' cap' w', w'.ownsRow base e size (.slice (some ⟨g', 0, none⟩) (n + L.length) cap') (n + L.length) (xs ++ L.flatten) → w.grownBy w' v.ownBlock → (v.ownBlock = some g' ∨ g' = w.heap.size) → K (a.put o.dst (.slice (some ⟨g', 0, none⟩) (n + L.length) cap')) w') :
    if Region.wanted o (yielded ops a.tmps) = true then Oper.wp P o a w K Q else N := by
  obtain ⟨ad, c, rfl, h1, h2, h3, h4⟩ := hy
  obtain ⟨b, off, rfl, hc⟩ := h4 hne
  refine step_append_lies w hgd s x t ho base e i z size bytes ht hi hz hsize hby hzs hsz v n xs hs hown ⟨b, off, none⟩ L.length c L.flatten hx (flat_len size L hL) (fun j u hj => ?_) hone (List.length_pos_iff.2 hne) h63 hbytes hbase w.heap.size rfl (fun g cap w' g1 g2 g3 _ => hK g cap w' g1 g2 g3)
  have hjl : j < L.length * size := by
    have := (List.getElem?_eq_some_iff.1 hj).1
    rwa [flat_len size L hL] at this
  have hq : j / size < L.length := Nat.div_lt_of_lt_mul (by rwa [Nat.mul_comm] at hjl)
  have hr : j % size < size := Nat.mod_lt _ hsz
  have ej : j = j / size * size + j % size := by rw [Nat.mul_comm]; exact (Nat.div_add_mod j size).symm
  have hf := flat_at size L hL (j / size) hq (j % size) hr
  rw [← ej, hj] at hf
  have := hc (j / size) hq (j % size) u hf.symm
  rw [Addr.add_lit]
  rw [show off + j = off + j / size * size + j % size by rw [Nat.add_assoc, ← ej]]
  exact this
/-- What stands behind place k in a row of members; what stands ahead of it. -/
theorem rm_behind {base k g cap : Nat} {d : List MemT} {rows : List (List Value)} {W : World} {F : Nat → Prop} (h1 : W.ownsRow base 61 6 (.slice (some ⟨g, 0, none⟩) d.length cap) d.length rows.flatten) (h2 : RdM W F d rows) (hk : k ≤ d.length) :
    RdF 6 W (.slice (if cap = k then (some ⟨g, 0, none⟩ : Option Addr) else some ⟨g, k * 6, none⟩) (d.length - k) (cap - k)) (rows.drop k) := by
  obtain ⟨r1, r2⟩ := RdM.rows h2
  rw [← r1] at h1 hk ⊢
  exact rdf_behind r2 h1 hk rfl
theorem rm_ahead {base k g cap : Nat} {d : List MemT} {rows : List (List Value)} {W : World} {F : Nat → Prop} (h1 : W.ownsRow base 61 6 (.slice (some ⟨g, 0, none⟩) d.length cap) d.length rows.flatten) (h2 : RdM W F d rows) (hk : k ≤ d.length) :
    W.ownsRow base 61 6 (.slice (some ⟨g, 0, none⟩) k cap) k (rows.take k).flatten := by
  have := row_takeF h1 hk
  rwa [flat_take 6 _ (RdM.rows h2).2] at this
theorem ite_noneR {g p cap n m c : Nat} (h : (Value.slice (if cap = p then (some ⟨g, 0, none⟩ : Option Addr) else some ⟨g, p * 6, none⟩) n m) = .slice none 0 c) : c = 0 := by
  split at h <;> simp at h
end Go.Proofs.YtidlhajibjnkeaaGreatDoor
