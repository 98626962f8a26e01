import Derived.Test.YtegblhmcfemfgaaGreatDoorRowsF
import Derived.Test.YtegblhmcfemfgaaGreatDoorFrm
import Derived.Test.YtegblhmcfemfgaaGreatDoorUnquote
namespace Go.Proofs.YtegblhmcfemfgaaGreatDoor
open Go.RowKit
inductive JV where
 | mk (kind n : Int) (s : List UInt8) (l : List JV) (m : List (List UInt8 × JV))
instance inhJV : Inhabited JV := ⟨.mk 0 0 [] [] []⟩
def JV.kind : JV → Int
 | .mk k _ _ _ _ => k
def JV.n : JV → Int
 | .mk _ n _ _ _ => n
def JV.s : JV → List UInt8
 | .mk _ _ s _ _ => s
def JV.l : JV → List JV
 | .mk _ _ _ l _ => l
def JV.m : JV → List (List UInt8 × JV)
 | .mk _ _ _ _ m => m
abbrev MemT := List UInt8 × JV
def RdFB (F : Nat → Prop) (sz : Nat) (w : World) (v : Value) (L : List (List Value)) : Prop :=
 ∃ (a : Option Addr) (cap : Nat), v = .slice a L.length cap ∧ L.length ≤ 9223372036854775807 ∧ L.length ≤ cap ∧ cap ≤ 9223372036854775807 ∧ (L ≠ [] → ∃ b off, a = some ⟨b, off, none⟩ ∧ F b ∧ ∀ i (h : i < L.length) (j : Nat) (u : Value), L[i][j]? = some u → w.cell? ⟨b, off + i * sz + j, none⟩ = some u)
theorem cell_frm {G : Nat → Prop} {w w' : World} (hf : Frm G w w') {b off : Nat} {u : Value} (hn : ¬ G b) (h : w.cell? ⟨b, off, none⟩ = some u) : w'.cell? ⟨b, off, none⟩ = some u := by
 have hlt := World.block_lt_of_cell? w _ h
 have e := hf.block b hlt hn
 rw [← h]
 simp only [World.cell?, e]
theorem RdFB.frm {F G : Nat → Prop} {sz : Nat} {w w' : World} {v : Value} {L : List (List Value)} (h : RdFB F sz w v L) (hf : Frm G w w') (hn : ∀ i, F i → ¬ G i) : RdFB F sz w' v L := by
 obtain ⟨a, cap, hv, h1, h2, h3, h4⟩ := h
 refine ⟨a, cap, hv, h1, h2, h3, fun hl => ?_⟩
 obtain ⟨b, off, ha, hF, hc⟩ := h4 hl
 exact ⟨b, off, ha, hF, fun i hi j u hu => cell_frm hf (hn b hF) (hc i hi j u hu)⟩
theorem RdFB.mono {F G : Nat → Prop} {sz : Nat} {w : World} {v : Value} {L : List (List Value)} (h : RdFB F sz w v L) (hn : ∀ i, i < w.heap.size → F i → G i) (hsz : ∀ r ∈ L, 0 < r.length) : RdFB G sz w v L := by
 obtain ⟨a, cap, hv, h1, h2, h3, h4⟩ := h
 refine ⟨a, cap, hv, h1, h2, h3, fun hl => ?_⟩
 obtain ⟨b, off, ha, hF, hc⟩ := h4 hl
 have hpos : 0 < L.length := List.length_pos_iff.2 hl
 have hr := hsz L[0] (List.getElem_mem hpos)
 have := World.block_lt_of_cell? w _ (hc 0 hpos 0 (L[0][0]) (by rw [List.getElem?_eq_getElem hr]))
 exact ⟨b, off, ha, hn b this hF, hc⟩
theorem RdFB.nil (F : Nat → Prop) (sz : Nat) (w : World) : RdFB F sz w (.slice none 0 0) [] := ⟨none, 0, rfl, by simp, by simp, by simp, fun h => absurd rfl h⟩
theorem RdFB.form {F : Nat → Prop} {sz : Nat} {w : World} {v : Value} {L : List (List Value)} (h : RdFB F sz w v L) : ∃ a cap, v = .slice a L.length cap ∧ L.length ≤ cap ∧ cap ≤ 9223372036854775807 := by
 obtain ⟨a, cap, hv, h1, h2, h3, _⟩ := h
 exact ⟨a, cap, hv, h2, h3⟩
theorem RdFB.of_row {F : Nat → Prop} {sz : Nat} {w : World} {base : Nat} {e : TypeId} {v : Value} {L : List (List Value)} (hr : ∀ r ∈ L, r.length = sz) (h : w.ownsRow base e sz v L.length L.flatten) (hF : ∀ k, v.ownBlock = some k → F k) : RdFB F sz w v L := by
 obtain ⟨a, cap, hv, h1, h2, h3, h4⟩ := RdF.of_row hr h
 refine ⟨a, cap, hv, h1, h2, h3, fun hl => ?_⟩
 obtain ⟨b, off, ha, hc⟩ := h4 hl
 exact ⟨b, off, ha, hF b (by rw [hv, ha]; rfl), hc⟩
mutual
def RdJ (W : World) (F : Nat → Prop) : JV → List Value → Prop
 | .mk k n s l m, cs => ∃ vl vm, cs = [.int .i64 k, .int .i64 n, str s, vl, vm] ∧ (∃ rows, RdFB F 5 W vl rows ∧ RdL W F l rows) ∧ ∃ rows, RdFB F 6 W vm rows ∧ RdM W F m rows
def RdL (W : World) (F : Nat → Prop) : List JV → List (List Value) → Prop
 | [], [] => True
 | v :: t, r :: rs => RdJ W F v r ∧ RdL W F t rs
 | _, _ => False
def RdM (W : World) (F : Nat → Prop) : List (List UInt8 × JV) → List (List Value) → Prop
 | [], [] => True
 | (n, v) :: t, r :: rs => (∃ cs, r = str n :: cs ∧ RdJ W F v cs) ∧ RdM W F t rs
 | _, _ => False
end
theorem RdJ.five {W : World} {F : Nat → Prop} : ∀ {t : JV} {cs : List Value}, RdJ W F t cs → cs.length = 5
 | .mk _ _ _ _ _, cs, h => by
   unfold RdJ at h
   obtain ⟨vl, vm, rfl, _⟩ := h
   rfl
theorem RdL.rows {W : World} {F : Nat → Prop} : ∀ {l : List JV} {rs : List (List Value)}, RdL W F l rs → rs.length = l.length ∧ ∀ r ∈ rs, r.length = 5
 | [], [], _ => ⟨rfl, by simp⟩
 | v :: t, r :: rs, h => by
   unfold RdL at h
   obtain ⟨h1, h2⟩ := RdL.rows h.2
   exact ⟨by simp [h1], fun q hq => by
    rcases List.mem_cons.1 hq with rfl | hq
    · exact RdJ.five h.1
    exact h2 q hq⟩
 | [], _ :: _, h => by unfold RdL at h; exact h.elim
 | _ :: _, [], h => by unfold RdL at h; exact h.elim
theorem RdM.rows {W : World} {F : Nat → Prop} : ∀ {l : List MemT} {rs : List (List Value)}, RdM W F l rs → rs.length = l.length ∧ ∀ r ∈ rs, r.length = 6
 | [], [], _ => ⟨rfl, by simp⟩
 | (n, v) :: t, r :: rs, h => by
   unfold RdM at h
   obtain ⟨h1, h2⟩ := RdM.rows h.2
   obtain ⟨⟨cs, rfl, hc⟩, _⟩ := h
   exact ⟨by simp [h1], fun q hq => by
    rcases List.mem_cons.1 hq with rfl | hq
    · rw [List.length_cons, RdJ.five hc]
    exact h2 q hq⟩
 | [], _ :: _, h => by unfold RdM at h; exact h.elim
 | _ :: _, [], h => by unfold RdM at h; exact h.elim
mutual
theorem RdJ.move {W W' : World} {F G : Nat → Prop} (H : ∀ (sz : Nat) (v : Value) (L : List (List Value)), (∀ r ∈ L, 0 < r.length) → RdFB F sz W v L → RdFB G sz W' v L) : ∀ {t : JV} {cs : List Value}, RdJ W F t cs → RdJ W' G t cs
 | .mk _ _ _ _ _, cs, h => by
   unfold RdJ at h ⊢
   obtain ⟨vl, vm, h1, ⟨rl, h2, h3⟩, rm, h4, h5⟩ := h
   exact ⟨vl, vm, h1, ⟨rl, H _ _ _ (fun r hr => by have := (RdL.rows h3).2 r hr; omega) h2, RdL.move H h3⟩, rm, H _ _ _ (fun r hr => by have := (RdM.rows h5).2 r hr; omega) h4, RdM.move H h5⟩
theorem RdL.move {W W' : World} {F G : Nat → Prop} (H : ∀ (sz : Nat) (v : Value) (L : List (List Value)), (∀ r ∈ L, 0 < r.length) → RdFB F sz W v L → RdFB G sz W' v L) : ∀ {l : List JV} {rs : List (List Value)}, RdL W F l rs → RdL W' G l rs
 | [], [], _ => by unfold RdL; trivial
 | v :: t, r :: rs, h => by unfold RdL at h ⊢; exact ⟨RdJ.move H h.1, RdL.move H h.2⟩
 | [], _ :: _, h => by unfold RdL at h; exact h.elim
 | _ :: _, [], h => by unfold RdL at h; exact h.elim
theorem RdM.move {W W' : World} {F G : Nat → Prop} (H : ∀ (sz : Nat) (v : Value) (L : List (List Value)), (∀ r ∈ L, 0 < r.length) → RdFB F sz W v L → RdFB G sz W' v L) : ∀ {l : List MemT} {rs : List (List Value)}, RdM W F l rs → RdM W' G l rs
 | [], [], _ => by unfold RdM; trivial
 | (n, v) :: t, r :: rs, h => by
   unfold RdM at h ⊢
   obtain ⟨⟨cs, h1, h2⟩, h3⟩ := h
   exact ⟨⟨cs, h1, RdJ.move H h2⟩, RdM.move H h3⟩
 | [], _ :: _, h => by unfold RdM at h; exact h.elim
 | _ :: _, [], h => by unfold RdM at h; exact h.elim
end
section
variable {W W' : World} {F G : Nat → Prop}
theorem RdJ.frm {t : JV} {cs : List Value} (h : RdJ W F t cs) (hf : Frm G W W') (hn : ∀ i, F i → ¬ G i) : RdJ W' F t cs := h.move (fun _ _ _ _ h => h.frm hf hn)
theorem RdL.frm {l : List JV} {rs : List (List Value)} (h : RdL W F l rs) (hf : Frm G W W') (hn : ∀ i, F i → ¬ G i) : RdL W' F l rs := h.move (fun _ _ _ _ h => h.frm hf hn)
theorem RdM.frm {l : List MemT} {rs : List (List Value)} (h : RdM W F l rs) (hf : Frm G W W') (hn : ∀ i, F i → ¬ G i) : RdM W' F l rs := h.move (fun _ _ _ _ h => h.frm hf hn)
theorem RdJ.mono {t : JV} {cs : List Value} (h : RdJ W F t cs) (hn : ∀ i, i < W.heap.size → F i → G i) : RdJ W G t cs := h.move (fun _ _ _ hr h => h.mono hn hr)
theorem RdL.mono {l : List JV} {rs : List (List Value)} (h : RdL W F l rs) (hn : ∀ i, i < W.heap.size → F i → G i) : RdL W G l rs := h.move (fun _ _ _ hr h => h.mono hn hr)
theorem RdM.mono {l : List MemT} {rs : List (List Value)} (h : RdM W F l rs) (hn : ∀ i, i < W.heap.size → F i → G i) : RdM W G l rs := h.move (fun _ _ _ hr h => h.mono hn hr)
theorem RdJ.up {t : JV} {cs : List Value} (h : RdJ W F t cs) (hb : Below W.heap.size W W') : RdJ W' F t cs := h.frm (Frm.of_below (F := fun _ => False) hb) (fun _ _ h => h)
theorem RdL.up {l : List JV} {rs : List (List Value)} (h : RdL W F l rs) (hb : Below W.heap.size W W') : RdL W' F l rs := h.frm (Frm.of_below (F := fun _ => False) hb) (fun _ _ h => h)
theorem RdM.up {l : List MemT} {rs : List (List Value)} (h : RdM W F l rs) (hb : Below W.heap.size W W') : RdM W' F l rs := h.frm (Frm.of_below (F := fun _ => False) hb) (fun _ _ h => h)
end
theorem RdL.snoc {W : World} {F : Nat → Prop} {v : JV} {r : List Value} (hv : RdJ W F v r) : ∀ {l : List JV} {rs : List (List Value)}, RdL W F l rs → RdL W F (l ++ [v]) (rs ++ [r])
 | [], [], _ => by simp only [List.nil_append, RdL]; exact ⟨hv, trivial⟩
 | x :: t, q :: qs, h => by
   simp only [List.cons_append]
   unfold RdL at h ⊢
   exact ⟨h.1, RdL.snoc hv h.2⟩
 | [], _ :: _, h => by unfold RdL at h; exact h.elim
 | _ :: _, [], h => by unfold RdL at h; exact h.elim
theorem RdM.snoc {W : World} {F : Nat → Prop} {k : List UInt8} {v : JV} {r : List Value} (hv : RdJ W F v r) : ∀ {l : List MemT} {rs : List (List Value)}, RdM W F l rs → RdM W F (l ++ [(k, v)]) (rs ++ [str k :: r])
 | [], [], _ => by simp only [List.nil_append, RdM]; exact ⟨⟨r, rfl, hv⟩, trivial⟩
 | (a, x) :: t, q :: qs, h => by
   simp only [List.cons_append]
   unfold RdM at h ⊢
   exact ⟨h.1, RdM.snoc hv h.2⟩
 | [], _ :: _, h => by unfold RdM at h; exact h.elim
 | _ :: _, [], h => by unfold RdM at h; exact h.elim
theorem RdL.at {W : World} {F : Nat → Prop} : ∀ {l : List JV} {rs : List (List Value)}, RdL W F l rs → ∀ (i : Nat) (h1 : i < l.length) (h2 : i < rs.length), RdJ W F l[i] rs[i]
 | v :: t, r :: rs, h, 0, _, _ => by unfold RdL at h; exact h.1
 | v :: t, r :: rs, h, i + 1, h1, h2 => by unfold RdL at h; exact RdL.at h.2 i (by simpa using h1) (by simpa using h2)
 | [], _, _, _, h1, _ => by simp at h1
 | _ :: _, [], _, _, _, h2 => by simp at h2
theorem RdM.at {W : World} {F : Nat → Prop} : ∀ {l : List MemT} {rs : List (List Value)}, RdM W F l rs → ∀ (i : Nat) (h1 : i < l.length) (h2 : i < rs.length), ∃ cs, rs[i] = str l[i].1 :: cs ∧ RdJ W F l[i].2 cs
 | (n, v) :: t, r :: rs, h, 0, _, _ => by unfold RdM at h; exact h.1
 | (n, v) :: t, r :: rs, h, i + 1, h1, h2 => by unfold RdM at h; exact RdM.at h.2 i (by simpa using h1) (by simpa using h2)
 | [], _, _, _, h1, _ => by simp at h1
 | _ :: _, [], _, _, _, h2 => by simp at h2
theorem RdJ.open {W : World} {F : Nat → Prop} {t : JV} {cs : List Value} (h : RdJ W F t cs) : ∃ al ll cl am lm cm, cs = [.int .i64 t.kind, .int .i64 t.n, str t.s, .slice al ll cl, .slice am lm cm] ∧ (∃ rows, RdFB F 5 W (.slice al ll cl) rows ∧ RdL W F t.l rows ∧ ll = t.l.length) ∧ ∃ rows, RdFB F 6 W (.slice am lm cm) rows ∧ RdM W F t.m rows ∧ lm = t.m.length := by
 cases t with
 | mk k n s l m =>
  unfold RdJ at h
  obtain ⟨vl, vm, rfl, ⟨rl, h2, h3⟩, rm, h4, h5⟩ := h
  obtain ⟨al, cl, rfl, _⟩ := h2.form
  obtain ⟨am, cm, rfl, _⟩ := h4.form
  exact ⟨al, _, cl, am, _, cm, rfl, ⟨rl, h2, h3, (RdL.rows h3).1⟩, rm, h4, h5, (RdM.rows h5).1⟩
inductive JR (α : Type) where
 | ok (v : α) (p : Nat)
 | err (e : Nat)
def isBl (c : UInt8) : Bool := c == 32 || c == 9 || c == 10 || c == 13
def dgJ (c : UInt8) : Bool := decide (48 ≤ c.toNat) && decide (c.toNat ≤ 57)
def blk : List UInt8 → Nat
 | [] => 0
 | c :: t => if isBl c = true then blk t + 1 else 0
def skp (b : List UInt8) (p : Nat) : Nat := p + blk (b.drop p)
theorem blk_le : ∀ l : List UInt8, blk l ≤ l.length
 | [] => Nat.le_refl _
 | c :: t => by
   unfold blk
   split
   · have := blk_le t; simp; omega
   simp
theorem skp_le (b : List UInt8) {p : Nat} (hp : p ≤ b.length) : skp b p ≤ b.length := by
 unfold skp
 have := blk_le (b.drop p)
 rw [List.length_drop] at this; omega
theorem skp_ge (b : List UInt8) (p : Nat) : p ≤ skp b p := Nat.le_add_right _ _
theorem skp_bl {b : List UInt8} {p : Nat} {c : UInt8} (h : b[p]? = some c) (hc : isBl c = true) : skp b p = skp b (p + 1) := by
 have hp := (List.getElem?_eq_some_iff.1 h).1
 have he := (List.getElem?_eq_some_iff.1 h).2
 unfold skp
 rw [List.drop_eq_getElem_cons hp, he]
 simp only [blk, hc, if_true]; omega
theorem skp_no {b : List UInt8} {p : Nat} {c : UInt8} (h : b[p]? = some c) (hc : isBl c = false) : skp b p = p := by
 have hp := (List.getElem?_eq_some_iff.1 h).1
 have he := (List.getElem?_eq_some_iff.1 h).2
 unfold skp
 rw [List.drop_eq_getElem_cons hp, he]
 simp only [blk, hc]; simp
theorem skp_end (b : List UInt8) : skp b b.length = b.length := by unfold skp; simp [blk]
def wrdP (b : List UInt8) : List UInt8 → Nat → Nat
 | [], _ => 0
 | c :: t, p => match b[p]? with
   | none => 2
   | some d => if d = c then wrdP b t (p + 1) else 4
def capF : List UInt8 → Nat → Nat
 | [], n => n
 | c :: t, n => capF t (if n ≤ 9007199254740991 then 10 * n + (c.toNat - 48) else n)
def dgs : List UInt8 → List UInt8
 | [] => []
 | c :: t => if dgJ c = true then c :: dgs t else []
def digP (b : List UInt8) (sg : Int) (p : Nat) : JR Int :=
 if p = b.length then .err 2
 else if (dgs (b.drop p)).length = 0 ∨ (b[p]? = some 48 ∧ 1 < (dgs (b.drop p)).length) then .err 4
 else if (∃ c, b[p + (dgs (b.drop p)).length]? = some c ∧ (c = 46 ∨ c = 101 ∨ c = 69)) then .err 4
 else if 9007199254740991 < capF (dgs (b.drop p)) 0 then .err 1
 else .ok (sg * (capF (dgs (b.drop p)) 0 : Int)) (p + (dgs (b.drop p)).length)
def numP (b : List UInt8) (p : Nat) : JR Int := if b[p]? = some 45 then digP b (-1) (p + 1) else digP b 1 p
def txtP (b : List UInt8) (p : Nat) : JR (List UInt8) :=
 if (unqR b p).2.2 ≠ 0 then .err (unqR b p).2.2 else if 8000 < (unqR b p).1.length then .err 3 else .ok (unqR b p).1 (unqR b p).2.1
def entP (b : List UInt8) (c : UInt8) (p : Nat) : JR Bool :=
 match b[skp b (p + 1)]? with
 | none => .err 2
 | some d => if d = c then .ok true (skp b (p + 1) + 1) else .ok false (skp b (p + 1))
def behP (b : List UInt8) (c : UInt8) (p : Nat) : JR Bool :=
 match b[skp b p]? with
 | none => .err 2
 | some d => if d = c then .ok true (skp b p + 1) else if d = 44 then .ok false (skp b p + 1) else .err 4
def itsP (f : Nat → JR JV) (b : List UInt8) : Nat → Nat → List JV → JR (List JV)
 | 0, _, _ => .err 0
 | n + 1, p, acc => match f p with
   | .err e => .err e
   | .ok v q => match behP b 93 q with
     | .err e => .err e
     | .ok true r => .ok (acc ++ [v]) r
     | .ok false r => itsP f b n r (acc ++ [v])
def lstP (f : Nat → JR JV) (b : List UInt8) (p : Nat) : JR (List JV) :=
 match entP b 93 p with
 | .err e => .err e
 | .ok true q => .ok [] q
 | .ok false q => itsP f b (b.length + 1) q []
def memP (f : Nat → JR JV) (b : List UInt8) (ns : List (List UInt8)) (p : Nat) : JR MemT :=
 if skp b p = b.length then .err 2 else
 match txtP b (skp b p) with
 | .err e => .err e
 | .ok name q => if name ∈ ns then .err 4 else
   match b[skp b q]? with
   | none => .err 2
   | some d => if d ≠ 58 then .err 4 else
     match f (skp b q + 1) with
     | .err e => .err e
     | .ok v r => .ok (name, v) r
def mesP (f : Nat → JR JV) (b : List UInt8) : Nat → Nat → List MemT → JR (List MemT)
 | 0, _, _ => .err 0
 | n + 1, p, acc => match memP f b (acc.map (fun m => m.1)) p with
   | .err e => .err e
   | .ok m q => match behP b 125 q with
     | .err e => .err e
     | .ok true r => .ok (acc ++ [m]) r
     | .ok false r => mesP f b n r (acc ++ [m])
def srtM (l : List MemT) : List MemT := l.mergeSort (fun a b => !Op.bytesLess b.1 a.1)
def objP (f : Nat → JR JV) (b : List UInt8) (p : Nat) : JR (List MemT) :=
 match entP b 125 p with
 | .err e => .err e
 | .ok true q => .ok [] q
 | .ok false q => match mesP f b (b.length + 1) q [] with
   | .err e => .err e
   | .ok l r => .ok (srtM l) r
def stB (c : UInt8) : Bool := c ∈ ([91, 123, 34, 45, 48, 49, 50, 51, 52, 53, 54, 55, 56, 57, 116, 102, 110] : List UInt8)
def lstV : JR (List JV) → JR JV
 | .err e => .err e
 | .ok l q => .ok (.mk 6 0 [] l []) q
def objV : JR (List MemT) → JR JV
 | .err e => .err e
 | .ok l q => .ok (.mk 7 0 [] [] l) q
def txtV : JR (List UInt8) → JR JV
 | .err e => .err e
 | .ok s q => .ok (.mk 5 0 s [] []) q
def numV : JR Int → JR JV
 | .err e => .err e
 | .ok n q => .ok (.mk 4 n [] [] []) q
def casP (lst : Nat → JR (List JV)) (obj : Nat → JR (List MemT)) (b : List UInt8) (c : UInt8) (p : Nat) : JR JV :=
 if c = 91 then lstV (lst p)
 else if c = 123 then objV (obj p)
 else if c = 34 then txtV (txtP b p)
 else if c = 45 ∨ dgJ c = true then numV (numP b p)
 else if c = 116 then (if wrdP b [116, 114, 117, 101] p = 0 then .ok (.mk 3 0 [] [] []) (p + 4) else .err (wrdP b [116, 114, 117, 101] p))
 else if c = 102 then (if wrdP b [102, 97, 108, 115, 101] p = 0 then .ok (.mk 2 0 [] [] []) (p + 5) else .err (wrdP b [102, 97, 108, 115, 101] p))
 else if c = 110 then (if wrdP b [110, 117, 108, 108] p = 0 then .ok (.mk 1 0 [] [] []) (p + 4) else .err (wrdP b [110, 117, 108, 108] p))
 else .err 4
def valP (b : List UInt8) : Nat → Nat → JR JV
 | 0, p => match b[skp b p]? with
   | none => .err 2
   | some c => if stB c = true then .err 10 else .err 4
 | d + 1, p => match b[skp b p]? with
   | none => .err 2
   | some c => casP (lstP (valP b d) b) (objP (valP b d) b) b c (skp b p)
def parP (b : List UInt8) : JR JV :=
 if 20000 < b.length then .err 3 else
 match valP b 64 0 with
 | .err e => .err e
 | .ok v q => if skp b q < b.length then .err 4 else .ok v b.length
end Go.Proofs.YtegblhmcfemfgaaGreatDoor
