/- JSON: values, and how they lie. -/
import Derived.Test.YtidlhajibjnkeaaGreatDoorRowsF
import Derived.Test.YtidlhajibjnkeaaGreatDoorFrm
namespace Go.Proofs.YtidlhajibjnkeaaGreatDoor
open Go.RowKit

/-- A value: its kind, its number, its text, its list, its members. -/
inductive JV where
  | mk (kind n : Int) (s : List UInt8) (l : List JV) (m : List (List UInt8 × JV))
instance inhJV : Inhabited JV := ⟨.mk 0 0 [] [] []⟩
def JV.kind : JV → Int
  | .mk k _ _ _ _ => k
def JV.n : JV → Int
  | .mk _ n _ _ _ => n
def JV.s : JV → List UInt8
  | .mk _ _ s _ _ => s
def JV.l : JV → List JV
  | .mk _ _ _ l _ => l
def JV.m : JV → List (List UInt8 × JV)
  | .mk _ _ _ _ m => m
abbrev MemT := List UInt8 × JV
/-- A slice that reads as rows of sz cells, in a block of F. -/
def RdFB (F : Nat → Prop) (sz : Nat) (w : World) (v : Value) (L : List (List Value)) : Prop :=
  ∃ (a : Option Addr) (cap : Nat), v = .slice a L.length cap ∧ L.length ≤ 9223372036854775807 ∧ L.length ≤ cap ∧ cap ≤ 9223372036854775807 ∧ (L ≠ [] → ∃ b off, a = some ⟨b, off, none⟩ ∧ F b ∧ ∀ i (h : i < L.length) (j : Nat) (u : Value), L[i][j]? = some u → w.cell? ⟨b, off + i * sz + j, none⟩ = some u)
theorem cell_frm {G : Nat → Prop} {w w' : World} (hf : Frm G w w') {b off : Nat} {u : Value} (hn : ¬ G b) (h : w.cell? ⟨b, off, none⟩ = some u) : w'.cell? ⟨b, off, none⟩ = some u := by
  have hlt := World.block_lt_of_cell? w _ h
  have e := hf.block b hlt hn
  rw [← h]
  simp only [World.cell?, e]
theorem RdFB.frm {F G : Nat → Prop} {sz : Nat} {w w' : World} {v : Value} {L : List (List Value)} (h : RdFB F sz w v L) (hf : Frm G w w') (hn : ∀ i, F i → ¬ G i) : RdFB F sz w' v L := by
  obtain ⟨a, cap, hv, h1, h2, h3, h4⟩ := h
  refine ⟨a, cap, hv, h1, h2, h3, fun hl => ?_⟩
  obtain ⟨b, off, ha, hF, hc⟩ := h4 hl
  exact ⟨b, off, ha, hF, fun i hi j u hu => cell_frm hf (hn b hF) (hc i hi j u hu)⟩
theorem RdFB.mono {F G : Nat → Prop} {sz : Nat} {w : World} {v : Value} {L : List (List Value)} (h : RdFB F sz w v L) (hn : ∀ i, i < w.heap.size → F i → G i) (hsz : ∀ r ∈ L, 0 < r.length) : RdFB G sz w v L := by
  obtain ⟨a, cap, hv, h1, h2, h3, h4⟩ := h
  refine ⟨a, cap, hv, h1, h2, h3, fun hl => ?_⟩
  obtain ⟨b, off, ha, hF, hc⟩ := h4 hl
  have hpos : 0 < L.length := List.length_pos_iff.2 hl
  have hr := hsz L[0] (List.getElem_mem hpos)
  have := World.block_lt_of_cell? w _ (hc 0 hpos 0 (L[0][0]) (by rw [List.getElem?_eq_getElem hr]))
  exact ⟨b, off, ha, hn b this hF, hc⟩
theorem RdFB.rd {F : Nat → Prop} {sz : Nat} {w : World} {v : Value} {L : List (List Value)} (h : RdFB F sz w v L) : RdF sz w v L := by
  obtain ⟨a, cap, hv, h1, h2, h3, h4⟩ := h
  refine ⟨a, cap, hv, h1, h2, h3, fun hl => ?_⟩
  obtain ⟨b, off, ha, _, hc⟩ := h4 hl
  exact ⟨b, off, ha, hc⟩
theorem RdFB.nil (F : Nat → Prop) (sz : Nat) (w : World) : RdFB F sz w (.slice none 0 0) [] := ⟨none, 0, rfl, by simp, by simp, by simp, fun h => absurd rfl h⟩
theorem RdFB.form {F : Nat → Prop} {sz : Nat} {w : World} {v : Value} {L : List (List Value)} (h : RdFB F sz w v L) : ∃ a cap, v = .slice a L.length cap ∧ L.length ≤ cap ∧ cap ≤ 9223372036854775807 := by
  obtain ⟨a, cap, hv, h1, h2, h3, _⟩ := h
  exact ⟨a, cap, hv, h2, h3⟩
/-- A row of the call's own. -/
theorem RdFB.of_row {F : Nat → Prop} {sz : Nat} {w : World} {base : Nat} {e : TypeId} {v : Value} {L : List (List Value)} (hr : ∀ r ∈ L, r.length = sz) (h : w.ownsRow base e sz v L.length L.flatten) (hF : ∀ k, v.ownBlock = some k → F k) : RdFB F sz w v L := by
  obtain ⟨a, cap, hv, h1, h2, h3, h4⟩ := RdF.of_row hr h
  refine ⟨a, cap, hv, h1, h2, h3, fun hl => ?_⟩
  obtain ⟨b, off, ha, hc⟩ := h4 hl
  exact ⟨b, off, ha, hF b (by rw [hv, ha]; rfl), hc⟩
mutual
/-- A struct's cells are the value. -/
def RdJ (W : World) (F : Nat → Prop) : JV → List Value → Prop
  | .mk k n s l m, cs => ∃ vl vm, cs = [.int .i64 k, .int .i64 n, str s, vl, vm] ∧ (∃ rows, RdFB F 5 W vl rows ∧ RdL W F l rows) ∧ ∃ rows, RdFB F 6 W vm rows ∧ RdM W F m rows
def RdL (W : World) (F : Nat → Prop) : List JV → List (List Value) → Prop
  | [], [] => True
  | v :: t, r :: rs => RdJ W F v r ∧ RdL W F t rs
  | _, _ => False
def RdM (W : World) (F : Nat → Prop) : List (List UInt8 × JV) → List (List Value) → Prop
  | [], [] => True
  | (n, v) :: t, r :: rs => (∃ cs, r = str n :: cs ∧ RdJ W F v cs) ∧ RdM W F t rs
  | _, _ => False
end
theorem RdJ.five {W : World} {F : Nat → Prop} : ∀ {t : JV} {cs : List Value}, RdJ W F t cs → cs.length = 5
  | .mk _ _ _ _ _, cs, h => by
    unfold RdJ at h
    obtain ⟨vl, vm, rfl, _⟩ := h
    rfl
theorem RdL.rows {W : World} {F : Nat → Prop} : ∀ {l : List JV} {rs : List (List Value)}, RdL W F l rs → rs.length = l.length ∧ ∀ r ∈ rs, r.length = 5
  | [], [], _ => ⟨rfl, by simp⟩
  | v :: t, r :: rs, h => by
    unfold RdL at h
    obtain ⟨h1, h2⟩ := RdL.rows h.2
    exact ⟨by simp [h1], fun q hq => by
      rcases List.mem_cons.1 hq with rfl | hq
      · exact RdJ.five h.1
      · exact h2 q hq⟩
  | [], _ :: _, h => by unfold RdL at h; exact h.elim
  | _ :: _, [], h => by unfold RdL at h; exact h.elim
theorem RdM.rows {W : World} {F : Nat → Prop} : ∀ {l : List MemT} {rs : List (List Value)}, RdM W F l rs → rs.length = l.length ∧ ∀ r ∈ rs, r.length = 6
  | [], [], _ => ⟨rfl, by simp⟩
  | (n, v) :: t, r :: rs, h => by
    unfold RdM at h
    obtain ⟨h1, h2⟩ := RdM.rows h.2
    obtain ⟨⟨cs, rfl, hc⟩, _⟩ := h
    exact ⟨by simp [h1], fun q hq => by
      rcases List.mem_cons.1 hq with rfl | hq
      · rw [List.length_cons, RdJ.five hc]
      · exact h2 q hq⟩
  | [], _ :: _, h => by unfold RdM at h; exact h.elim
  | _ :: _, [], h => by unfold RdM at h; exact h.elim
mutual
/-- A value goes where its slices go. -/
theorem RdJ.move {W W' : World} {F G : Nat → Prop} (H : ∀ (sz : Nat) (v : Value) (L : List (List Value)), (∀ r ∈ L, 0 < r.length) → RdFB F sz W v L → RdFB G sz W' v L) : ∀ {t : JV} {cs : List Value}, RdJ W F t cs → RdJ W' G t cs
  | .mk _ _ _ _ _, cs, h => by
    unfold RdJ at h ⊢
    obtain ⟨vl, vm, h1, ⟨rl, h2, h3⟩, rm, h4, h5⟩ := h
    exact ⟨vl, vm, h1, ⟨rl, H _ _ _ (fun r hr => by have := (RdL.rows h3).2 r hr; omega) h2, RdL.move H h3⟩, rm, H _ _ _ (fun r hr => by have := (RdM.rows h5).2 r hr; omega) h4, RdM.move H h5⟩
theorem RdL.move {W W' : World} {F G : Nat → Prop} (H : ∀ (sz : Nat) (v : Value) (L : List (List Value)), (∀ r ∈ L, 0 < r.length) → RdFB F sz W v L → RdFB G sz W' v L) : ∀ {l : List JV} {rs : List (List Value)}, RdL W F l rs → RdL W' G l rs
  | [], [], _ => by unfold RdL; trivial
  | v :: t, r :: rs, h => by unfold RdL at h ⊢; exact ⟨RdJ.move H h.1, RdL.move H h.2⟩
  | [], _ :: _, h => by unfold RdL at h; exact h.elim
  | _ :: _, [], h => by unfold RdL at h; exact h.elim
theorem RdM.move {W W' : World} {F G : Nat → Prop} (H : ∀ (sz : Nat) (v : Value) (L : List (List Value)), (∀ r ∈ L, 0 < r.length) → RdFB F sz W v L → RdFB G sz W' v L) : ∀ {l : List MemT} {rs : List (List Value)}, RdM W F l rs → RdM W' G l rs
  | [], [], _ => by unfold RdM; trivial
  | (n, v) :: t, r :: rs, h => by
    unfold RdM at h ⊢
    obtain ⟨⟨cs, h1, h2⟩, h3⟩ := h
    exact ⟨⟨cs, h1, RdJ.move H h2⟩, RdM.move H h3⟩
  | [], _ :: _, h => by unfold RdM at h; exact h.elim
  | _ :: _, [], h => by unfold RdM at h; exact h.elim
end
section
variable {W W' : World} {F G : Nat → Prop}
theorem RdJ.frm {t : JV} {cs : List Value} (h : RdJ W F t cs) (hf : Frm G W W') (hn : ∀ i, F i → ¬ G i) : RdJ W' F t cs := h.move (fun _ _ _ _ h => h.frm hf hn)
theorem RdL.frm {l : List JV} {rs : List (List Value)} (h : RdL W F l rs) (hf : Frm G W W') (hn : ∀ i, F i → ¬ G i) : RdL W' F l rs := h.move (fun _ _ _ _ h => h.frm hf hn)
theorem RdM.frm {l : List MemT} {rs : List (List Value)} (h : RdM W F l rs) (hf : Frm G W W') (hn : ∀ i, F i → ¬ G i) : RdM W' F l rs := h.move (fun _ _ _ _ h => h.frm hf hn)
theorem RdJ.mono {t : JV} {cs : List Value} (h : RdJ W F t cs) (hn : ∀ i, i < W.heap.size → F i → G i) : RdJ W G t cs := h.move (fun _ _ _ hr h => h.mono hn hr)
theorem RdL.mono {l : List JV} {rs : List (List Value)} (h : RdL W F l rs) (hn : ∀ i, i < W.heap.size → F i → G i) : RdL W G l rs := h.move (fun _ _ _ hr h => h.mono hn hr)
theorem RdM.mono {l : List MemT} {rs : List (List Value)} (h : RdM W F l rs) (hn : ∀ i, i < W.heap.size → F i → G i) : RdM W G l rs := h.move (fun _ _ _ hr h => h.mono hn hr)
theorem RdJ.up {t : JV} {cs : List Value} (h : RdJ W F t cs) (hb : Below W.heap.size W W') : RdJ W' F t cs := h.frm (Frm.of_below (F := fun _ => False) hb) (fun _ _ h => h)
theorem RdL.up {l : List JV} {rs : List (List Value)} (h : RdL W F l rs) (hb : Below W.heap.size W W') : RdL W' F l rs := h.frm (Frm.of_below (F := fun _ => False) hb) (fun _ _ h => h)
theorem RdM.up {l : List MemT} {rs : List (List Value)} (h : RdM W F l rs) (hb : Below W.heap.size W W') : RdM W' F l rs := h.frm (Frm.of_below (F := fun _ => False) hb) (fun _ _ h => h)
end
theorem RdL.snoc {W : World} {F : Nat → Prop} {v : JV} {r : List Value} (hv : RdJ W F v r) : ∀ {l : List JV} {rs : List (List Value)}, RdL W F l rs → RdL W F (l ++ [v]) (rs ++ [r])
  | [], [], _ => by simp only [List.nil_append, RdL]; exact ⟨hv, trivial⟩
  | x :: t, q :: qs, h => by
    simp only [List.cons_append]
    unfold RdL at h ⊢
    exact ⟨h.1, RdL.snoc hv h.2⟩
  | [], _ :: _, h => by unfold RdL at h; exact h.elim
  | _ :: _, [], h => by unfold RdL at h; exact h.elim
theorem RdM.snoc {W : World} {F : Nat → Prop} {k : List UInt8} {v : JV} {r : List Value} (hv : RdJ W F v r) : ∀ {l : List MemT} {rs : List (List Value)}, RdM W F l rs → RdM W F (l ++ [(k, v)]) (rs ++ [str k :: r])
  | [], [], _ => by simp only [List.nil_append, RdM]; exact ⟨⟨r, rfl, hv⟩, trivial⟩
  | (a, x) :: t, q :: qs, h => by
    simp only [List.cons_append]
    unfold RdM at h ⊢
    exact ⟨h.1, RdM.snoc hv h.2⟩
  | [], _ :: _, h => by unfold RdM at h; exact h.elim
  | _ :: _, [], h => by unfold RdM at h; exact h.elim
theorem RdL.at {W : World} {F : Nat → Prop} : ∀ {l : List JV} {rs : List (List Value)}, RdL W F l rs → ∀ (i : Nat) (h1 : i < l.length) (h2 : i < rs.length), RdJ W F l[i] rs[i]
  | v :: t, r :: rs, h, 0, _, _ => by unfold RdL at h; exact h.1
  | v :: t, r :: rs, h, i + 1, h1, h2 => by unfold RdL at h; exact RdL.at h.2 i (by simpa using h1) (by simpa using h2)
  | [], _, _, _, h1, _ => by simp at h1
  | _ :: _, [], _, _, _, h2 => by simp at h2
theorem RdM.at {W : World} {F : Nat → Prop} : ∀ {l : List MemT} {rs : List (List Value)}, RdM W F l rs → ∀ (i : Nat) (h1 : i < l.length) (h2 : i < rs.length), ∃ cs, rs[i] = str l[i].1 :: cs ∧ RdJ W F l[i].2 cs
  | (n, v) :: t, r :: rs, h, 0, _, _ => by unfold RdM at h; exact h.1
  | (n, v) :: t, r :: rs, h, i + 1, h1, h2 => by unfold RdM at h; exact RdM.at h.2 i (by simpa using h1) (by simpa using h2)
  | [], _, _, _, h1, _ => by simp at h1
  | _ :: _, [], _, _, _, h2 => by simp at h2
/-- A value's parts. -/
theorem RdJ.open {W : World} {F : Nat → Prop} {t : JV} {cs : List Value} (h : RdJ W F t cs) : ∃ al ll cl am lm cm, cs = [.int .i64 t.kind, .int .i64 t.n, str t.s, .slice al ll cl, .slice am lm cm] ∧ (∃ rows, RdFB F 5 W (.slice al ll cl) rows ∧ RdL W F t.l rows ∧ ll = t.l.length) ∧ ∃ rows, RdFB F 6 W (.slice am lm cm) rows ∧ RdM W F t.m rows ∧ lm = t.m.length := by
  cases t with
  | mk k n s l m =>
    unfold RdJ at h
    obtain ⟨vl, vm, rfl, ⟨rl, h2, h3⟩, rm, h4, h5⟩ := h
    obtain ⟨al, cl, rfl, _⟩ := h2.form
    obtain ⟨am, cm, rfl, _⟩ := h4.form
    exact ⟨al, _, cl, am, _, cm, rfl, ⟨rl, h2, h3, (RdL.rows h3).1⟩, rm, h4, h5, (RdM.rows h5).1⟩
end Go.Proofs.YtidlhajibjnkeaaGreatDoor
