import Derived.Test.YtidlhajibjnkeaaGreatDoorJSort
import Derived.Shelf.SlSortCmp.NoneTotal
/- JSON: object. -/
namespace Go.Proofs.YtidlhajibjnkeaaGreatDoor
open Go.RowKit Go.Maps

/-- The object under way: its box, the result's box, its members. -/
def ObjP (s : Nat) (acc : List MemT) (vl : Value) (rows : List (List Value)) (W : World) : Prop :=
  W.heap[s]? = some (.cells #[.int .i64 0, .int .i64 0, str [], .slice none 0 0, .slice none 0 0] 28 (0, 0)) ∧
  W.heap[s + 1]? = some (.cells #[.int .i64 7, .int .i64 0, str [], .slice none 0 0, vl] 28 (0, 0)) ∧ W.ownsRow (s + 3) 53 6 vl acc.length rows.flatten ∧ RdM W (fun i => s + 2 < i ∧ i < W.heap.size ∧ vl.ownBlock ≠ some i) acc rows
def ObjS (s : Nat) (acc : List MemT) (W : World) : Prop := ∃ vl rows, ObjP s acc vl rows W
theorem ObjP.frm {s : Nat} {acc : List MemT} {vl : Value} {rows : List (List Value)} {W W' : World} {G : Nat → Prop} (h : ObjP s acc vl rows W) (hf : Frm G W W') (hG : ∀ i, s ≤ i → i ≠ s + 2 → i < W.heap.size → ¬ G i) : ObjP s acc vl rows W' := by
  obtain ⟨h1, h2, h3, h4⟩ := h
  have l1 := (Array.getElem?_eq_some_iff.1 h1).1
  have l2 := (Array.getElem?_eq_some_iff.1 h2).1
  refine ⟨box_frm h1 hf (hG _ (Nat.le_refl _) (by omega) l1), box_frm h2 hf (hG _ (by omega) (by omega) l2), owns_frm h3 hf (fun k hk => by have := h3.lt k hk; exact hG k (by omega) (by omega) this.2), ?_⟩
  have := h4.frm hf (fun i hi => hG i (by omega) (by omega) hi.2.1)
  exact this.mono (fun i hi hF => ⟨hF.1, hi, hF.2.2⟩)
theorem ObjS.frm {s : Nat} {acc : List MemT} {W W' : World} {G : Nat → Prop} (h : ObjS s acc W) (hf : Frm G W W') (hG : ∀ i, s ≤ i → i ≠ s + 2 → i < W.heap.size → ¬ G i) : ObjS s acc W' := by
  obtain ⟨vl, rows, h⟩ := h
  exact ⟨vl, rows, h.frm hf hG⟩
theorem ObjP.sz {s : Nat} {acc : List MemT} {vl : Value} {rows : List (List Value)} {W : World} (h : ObjP s acc vl rows W) : s + 2 ≤ W.heap.size ∧ ∀ k, vl.ownBlock = some k → k < W.heap.size :=
  ⟨(Array.getElem?_eq_some_iff.1 h.2.1).1, fun k hk => (h.2.2.1.lt k hk).2⟩
/-- A part more. -/
theorem ObjP.add {s : Nat} {acc : List MemT} {vl : Value} {rows : List (List Value)} {W w4 : World} {g cap B0 : Nat} {nm : List UInt8} {v : JV} {cs : List Value} {ob : Obj} (h : ObjP s acc vl rows W) (hB : s + 3 ≤ B0) (hvb : ∀ k, vl.ownBlock = some k → k < B0) (hv : RdJ W (fun i => B0 ≤ i) v cs)
    (ho : w4.ownsRow (s + 3) 53 6 (.slice (some ⟨g, 0, none⟩) (acc.length + 1) cap) (acc.length + 1) (rows.flatten ++ (str nm :: cs))) (hg : (W.alloc ob).grownBy w4 vl.ownBlock) (hl : vl.ownBlock = some g ∨ g = W.heap.size + 1) :
    ObjP s (acc ++ [(nm, v)]) (.slice (some ⟨g, 0, none⟩) (acc.length + 1) cap) (rows ++ [str nm :: cs]) (w4.setCell ⟨s + 1, 4, none⟩ (.slice (some ⟨g, 0, none⟩) (acc.length + 1) cap)) ∧ Frm (fun i => s ≤ i ∧ i ≠ s + 2) W (w4.setCell ⟨s + 1, 4, none⟩ (.slice (some ⟨g, 0, none⟩) (acc.length + 1) cap)) := by
  have hsz := h.sz
  obtain ⟨h1, h2, h3, h4⟩ := h
  have hgb : ∀ k, vl.ownBlock = some k → s + 3 ≤ k := fun k hk => (h3.lt k hk).1
  have f1 : Frm (fun i => vl.ownBlock = some i) W w4 := (Frm.of_below (below_alloc W ob)).trans (Frm.of_grown hg (fun k hk => hk)) (fun _ _ h => h)
  have f2 : Frm (fun i => i = s + 1 ∨ vl.ownBlock = some i) W (w4.setCell ⟨s + 1, 4, none⟩ (.slice (some ⟨g, 0, none⟩) (acc.length + 1) cap)) :=
    (f1.mono (fun _ _ h => .inr h)).trans (Frm.set (F := fun i => i = s + 1) _ rfl) (fun _ _ h => .inl h)
  have hgs : s + 3 ≤ g := by
    rcases hl with h | h
    · exact hgb g h
    · omega
  have hbx : w4.heap[s + 1]? = some (.cells #[.int .i64 7, .int .i64 0, str [], .slice none 0 0, vl] 28 (0, 0)) := box_frm h2 f1 (fun e => by have := hgb _ e; omega)
  have g1 : ∀ i, (i = s + 1 ∨ vl.ownBlock = some i) → s + 1 ≤ i ∧ i ≠ s + 2 := fun i h => by
    rcases h with h | h
    · omega
    · have := hgb _ h; omega
  refine ⟨⟨box_frm h1 f2 (fun e => by have := g1 _ e; omega), box_set hbx 4 _, ?_, RdM.snoc ?_ ?_⟩, f2.mono (fun i _ hi => by have := g1 _ hi; omega)⟩
  · rw [List.flatten_append, List.length_append]
    simp only [List.flatten_cons, List.flatten_nil, List.append_nil, List.length_singleton]
    exact owns_frm (F := fun i => i = s + 1) ho (Frm.set _ rfl) (fun k hk e => by simp [Value.ownBlock] at hk; omega)
  · refine RdJ.mono (F := fun i => B0 ≤ i ∧ i < W.heap.size) ?_ (fun i hi hF => ⟨by omega, hi, fun e => ?_⟩)
    · exact (hv.mono (G := fun i => B0 ≤ i ∧ i < W.heap.size) (fun i hi hF => ⟨hF, hi⟩)).frm f2 (fun i hi e => by
        rcases e with e | e
        · omega
        · have := hvb i e; omega)
    · simp only [Value.ownBlock, Option.some.injEq] at e
      subst e
      rcases hl with h | h
      · have := hvb _ h; omega
      · omega
  · have := h4.frm f2 (fun i hi e => by
      rcases e with e | e
      · omega
      · exact hi.2.2 e)
    refine this.mono (fun i hi hF => ⟨hF.1, hi, fun e => ?_⟩)
    simp only [Value.ownBlock, Option.some.injEq] at e
    subst e
    rcases hl with h | h
    · exact hF.2.2 h
    · omega
theorem JSt.next {w W W' : World} {b p o p' o' : Nat} {t : List UInt8} {G : Nat → Prop} (h : JSt w b t p o W) (hr : JRb W' b t p' o') (hf : Frm G W W') (hG : ∀ i, G i → i = b ∨ w.heap.size ≤ i) : JSt w b t p' o' W' :=
  ⟨hr, h.2.trans hf (fun i hi g => by rcases hG i g with e | e; exact e; omega)⟩
theorem frm3o {wr W1 w2 w3 : World} {b m : Nat} (h1 : Below wr.heap.size wr W1) (h2 : Frm (fun i => i = b ∨ i = m) W1 w2) (h3 : Frm (fun i => i = wr.heap.size) w2 w3) : Frm (fun i => i = b ∨ i = m ∨ i = wr.heap.size) wr w3 :=
  ((Frm.of_below (F := fun i => i = b ∨ i = m ∨ i = wr.heap.size) h1).trans h2 (fun _ _ h => by rcases h with h | h; exact .inl h; exact .inr (.inl h))).trans h3 (fun _ _ h => .inr (.inr h))
/-- Members by rising names: they are what sorting leaves. -/
theorem srt_eq {d l : List MemT} (hp : d.Perm l) (hs : d.Pairwise (fun a b => Op.bytesLess b.1 a.1 = false)) (hn : (l.map (fun m => m.1)).Nodup) : d = srtM l := by
  have hinj : ∀ {l : List MemT}, (l.map (fun m => m.1)).Nodup → ∀ a ∈ l, ∀ b ∈ l, a.1 = b.1 → a = b := by
    intro l
    induction l with
    | nil => intro _ a ha; cases ha
    | cons x t ih =>
      intro h a ha b hb e
      rw [List.map_cons, List.nodup_cons] at h
      rcases List.mem_cons.1 ha with h1 | h1
      · rcases List.mem_cons.1 hb with h2 | h2
        · rw [h1, h2]
        · exact (h.1 (List.mem_map.2 ⟨b, h2, by rw [← h1]; exact e.symm⟩)).elim
      · rcases List.mem_cons.1 hb with h2 | h2
        · exact (h.1 (List.mem_map.2 ⟨a, h1, by rw [← h2]; exact e⟩)).elim
        · exact ih h.2 a h1 b h2 e
  have h2 : (srtM l).Pairwise (fun a b => Op.bytesLess b.1 a.1 = false) := by
    have := List.pairwise_mergeSort (le := fun a b : MemT => !Op.bytesLess b.1 a.1) (fun a b c h1 h2 => by
      simp only [Bool.not_eq_true'] at h1 h2 ⊢
      cases h : Op.bytesLess c.1 a.1 with
      | false => rfl
      | true =>
        cases h3 : Op.bytesLess a.1 b.1 with
        | true => have := bl_tr _ _ _ h h3; rw [this] at h2; cases h2
        | false => have e := bl_tot _ _ h3 h1; rw [← e, h] at h2; cases h2) (fun a b => by
      cases h : Op.bytesLess b.1 a.1 with
      | false => rfl
      | true =>
        cases h2 : Op.bytesLess a.1 b.1 with
        | false => rfl
        | true => have := bl_tr _ _ _ h h2; rw [bl_irr] at this; cases this) l
    exact this.imp (fun h => by simpa using h)
  have hq : d.Perm (srtM l) := hp.trans (List.mergeSort_perm _ _).symm
  refine List.Perm.eq_of_pairwise (le := fun a b : MemT => Op.bytesLess b.1 a.1 = false) (fun a b ha hb h1 h2 => ?_) hs h2 hq
  exact hinj hn a (hp.mem_iff.1 ha) b ((hp.mem_iff.1 (hq.mem_iff.2 hb))) (bl_tot _ _ h2 h1)
/-- What the loop of object tells, ahead of sorting. -/
def mesR (f : Nat → JR JV) (t : List UInt8) (p : Nat) : JR (List MemT) :=
  match entP t 125 p with
  | .err e => .err e
  | .ok true q => .ok [] q
  | .ok false q => mesP f t (t.length + 1) q []
def srtR : JR (List MemT) → JR (List MemT)
  | .err e => .err e
  | .ok l q => .ok (srtM l) q
theorem objP_eq (f : Nat → JR JV) (t : List UInt8) (p : Nat) : objP f t p = srtR (mesR f t p) := by
  unfold objP mesR
  cases h : entP t 125 p with
  | err e => rfl
  | ok d q =>
    cases d with
    | true => simp [srtR, srtM]
    | false =>
      dsimp only
      cases mesP f t (t.length + 1) q [] <;> rfl
/-- An object's members sorted, whatever their slice is. -/
theorem sorted_any {s : Nat} {acc : List MemT} {va : Option Addr} {vc : Nat} {rows : List (List Value)} {W : World} {t : List UInt8} (h : ObjP s acc (.slice va acc.length vc) rows W) (hal : acc.length ≤ t.length + 1) (hl : t.length ≤ 900000) :
    Calls Tryz.prog 65 #[.slice va acc.length vc, .func (.func 66) #[] #[]] W fun e W' => e = .returned (.tuple #[]) ∧ ∃ d : List MemT, d.Perm acc ∧ d.Pairwise (fun a b => Op.bytesLess b.1 a.1 = false) ∧ (∃ rd, RdFB (fun i => s < i) 6 W' (.slice va acc.length vc) rd ∧ RdM W' (fun i => s < i) d rd) ∧ Frm (fun i => s + 3 ≤ i) W W' := by
  obtain ⟨h1, h2, h3, h4⟩ := h
  by_cases h0 : acc.length = 0
  · have hc := AnyF.slices_SortFunc_none Tryz.sortJ va vc (.func (.func 66) #[] #[]) W
    rw [h0]
    refine Calls.mono (f := 65) hc ?_
    rintro e W' ⟨rfl, rfl⟩
    obtain rfl := List.eq_nil_of_length_eq_zero h0
    have hr : rows = [] := List.eq_nil_of_length_eq_zero (by have := (RdM.rows h4).1; simpa using this)
    subst hr
    refine ⟨rfl, [], List.Perm.nil, List.Pairwise.nil, ⟨[], ?_, by unfold RdM; trivial⟩, Frm.refl _ _⟩
    have := RdFB.of_row (F := fun i => s < i) (L := []) (by simp) h3 (fun k hk => by have := h3.lt k hk; omega)
    simpa using this
  · obtain ⟨g, cap, hv, hg, hglt⟩ := h3.form (by omega)
    simp only [Value.slice.injEq] at hv
    obtain ⟨rfl, _, rfl⟩ := hv
    obtain ⟨d0, hd1, hd2, hd3⟩ := rdM_some h4
    have hlen : d0.length = acc.length := by rw [← hd1, List.length_map]
    have hc := jsort_any (s + 3) g vc d0 W (by rw [hd2, hlen]; exact h3) (by omega)
    rw [hlen] at hc
    refine hc.mono ?_
    rintro e W' ⟨rfl, d, hp, hs, hr, hf⟩
    refine ⟨rfl, d.map (fun x => x.m), by rw [← hd1]; exact hp.map _, by rw [List.pairwise_map]; exact hs, ⟨d.map encR, hr.mono (fun i _ hi => by omega) (fun r hr => by rw [encR_len d r hr]; omega), rdM_all (fun x hx => ?_)⟩, hf.mono (fun i _ hi => by omega)⟩
    exact ((hd3 x (hp.mem_iff.1 hx)).frm hf (fun i hi e => hi.2.2 (by rw [e]; rfl))).mono (fun i _ hi => by omega)
/-- An object's box is a value. -/
theorem objJ {s n : Nat} {d : List MemT} {va : Option Addr} {vc : Nat} {rd : List (List Value)} {W W' : World} (h1 : RdFB (fun i => s < i) 6 W (.slice va n vc) rd) (h2 : RdM W (fun i => s < i) d rd) (hf : Frm (fun i => i = s) W W') :
    RdJ W' (fun i => s ≤ i) (.mk 7 0 [] [] d) [.int .i64 7, .int .i64 0, str [], .slice none 0 0, .slice va n vc] := by
  obtain ⟨r1, r2⟩ := RdM.rows h2
  unfold RdJ
  refine ⟨_, _, rfl, ⟨[], RdFB.nil _ _ _, by unfold RdL; trivial⟩, rd, ?_, ?_⟩
  · exact (h1.frm hf (fun i hi e => by omega)).mono (fun i _ hi => by omega) (fun r hr => by rw [r2 r hr]; omega)
  · exact (h2.frm hf (fun i hi e => by omega)).mono (fun i _ hi => by omega)
/-- What the loop of object keeps. -/
def ORel (t : List UInt8) (w : World) (b o : Nat) (f : Nat → JR JV) (R : JR (List MemT)) (n : Nat) (dn : Bool) (c : Nat) (W : World) : Prop :=
  (dn = false ∧ c = 0 ∧ ∃ q acc, q ≤ t.length ∧ t.length - q < n ∧ acc.length + n ≤ t.length + 1 ∧ mesP f t n q acc = R ∧ (acc.map (fun m => m.1)).Nodup ∧ JSt w b t q (o + 1) W ∧ ObjS w.heap.size acc W ∧ NamM W (w.heap.size + 2) (acc.map (fun m => m.1))) ∨
  (dn = true ∧ c = 0 ∧ n = 0 ∧ ∃ q acc, R = .ok acc q ∧ q ≤ t.length ∧ acc.length ≤ t.length + 1 ∧ (acc.map (fun m => m.1)).Nodup ∧ JSt w b t q o W ∧ ObjS w.heap.size acc W) ∨
  (c ≠ 0 ∧ n = 0 ∧ R = .err c ∧ ∃ q o' acc, acc.length ≤ t.length + 1 ∧ JSt w b t q o' W ∧ ObjS w.heap.size acc W)
theorem unqF_ge : ∀ (f : Nat) (t : List UInt8) (p : Nat) (o : List UInt8), (unqF f t p o).2.2 = 0 → p ≤ (unqF f t p o).2.1
  | 0, t, p, o, h => by simp [unqF] at h
  | f + 1, t, p, o, h => by
    rw [unqF] at h ⊢
    split at h
    · next h1 => exact absurd h h1
    · next h1 =>
      rw [if_neg h1]
      split at h
      · next h2 => rw [if_pos h2]; dsimp only; omega
      · next h2 =>
        rw [if_neg h2]
        have := unqF_ge f t _ _ h
        omega
theorem txtP_ge {t : List UInt8} {p : Nat} {s : List UInt8} {q : Nat} (h : txtP t p = .ok s q) : p < q := by
  unfold txtP at h
  split at h
  · cases h
  · next h0 =>
    split at h
    · cases h
    · simp only [JR.ok.injEq] at h
      obtain ⟨_, rfl⟩ := h
      have h0 : (unqR t (p : Int)).2.2 = 0 := by simpa using h0
      unfold unqR at h0 ⊢
      split at h0
      · cases h0
      · next h1 =>
        rw [if_neg h1]
        split at h0
        · next h2 => exact absurd h0 h2
        · next h2 =>
          rw [if_neg h2]
          have := unqF_ge _ _ _ _ h0
          simp only [Int.toNat_natCast] at this ⊢
          omega
theorem memP_new {f : Nat → JR JV} {t : List UInt8} {ns : List (List UInt8)} {p : Nat} {m : MemT} {q : Nat} (h : memP f t ns p = .ok m q) : m.1 ∉ ns ∧ ∃ p1 v, f p1 = .ok v q ∧ p ≤ p1 := by
  unfold memP at h
  split at h
  · cases h
  · split at h
    · cases h
    · next name q0 hx =>
      split at h
      · cases h
      · next hn =>
        split at h
        · cases h
        · split at h
          · cases h
          · split at h
            · cases h
            · next v r hv =>
              cases h
              refine ⟨hn, _, v, hv, ?_⟩
              have h1 := skp_ge t p
              have h2 := skp_ge t q0
              have h3 : skp t p < q0 := txtP_ge hx
              omega
set_option maxRecDepth 100000 in
set_option maxHeartbeats 8000000 in
theorem object_any (t : List UInt8) (b p o : Nat) (w : World) (f : Nat → JR JV) (CV : ∀ W q, JRb W b t q (o + 1) → q ≤ t.length → Calls Tryz.prog 24 #[.pointer (some ⟨b, 0, none⟩)] W (ValJ t W b (o + 1) (f q)))
    (hf : ∀ q v q1, f q = .ok v q1 → q ≤ q1) (h : JRb w b t p o) (hp : p < t.length) (hl : t.length ≤ 900000) (ho : o ≤ 1000) :
    Calls Tryz.prog 41 #[.pointer (some ⟨b, 0, none⟩)] w (ValJ t w b o (objV (objP f t p))) := by
  rw [objP_eq]
  have hb := h.lt
  have CM : Hid (∀ W q ns, JRb W b t q (o + 1) → q ≤ t.length → NamM W (w.heap.size + 2) ns → ns.length ≤ 1000000 → Calls Tryz.prog 64 #[.pointer (some ⟨b, 0, none⟩), .map (some (w.heap.size + 2))] W (MemJ t W b (w.heap.size + 2) (o + 1) ns (memP f t ns q))) := Lib.hid (fun W q ns h1 h2 h3 h4 => member_any t b _ q (o + 1) ns W f CV h1 h3 (by omega) h4 h2 (by omega))
  clear CV
  have hmm := @run_makeMap Tryz.prog
  obtain ⟨R, hR⟩ : ∃ R, R = mesR f t p := ⟨_, rfl⟩
  rw [← hR]
  obtain ⟨Wa, hWa⟩ : ∃ Wa, Wa = ((w.alloc (.cells #[.int .i64 0, .int .i64 0, .string ⟨#[]⟩, .slice none 0 0, .slice none 0 0] 28)).alloc (.cells #[.int .i64 7, .int .i64 0, .string ⟨#[]⟩, .slice none 0 0, .slice none 0 0] 28)).alloc (.map #[] 0) := ⟨_, rfl⟩
  have hba : Below w.heap.size w Wa := by rw [hWa]; exact (((Below.refl _ w).alloc (Nat.le_refl _) _).alloc (by simp) _).alloc (by simp; omega) _
  have ha : JRb Wa b t p o := h.below hba
  have hLs : ObjS w.heap.size [] Wa := by
    refine ⟨.slice none 0 0, [], ?_, ?_, World.ownsRow_nil _ _ _ _, by unfold RdM; trivial⟩
    · rw [hWa]
      exact box_up (box_up (heap_alloc_new w _) (below_alloc _ _)) (below_alloc _ _)
    · rw [hWa]
      have := heap_alloc_new (w.alloc (.cells #[.int .i64 0, .int .i64 0, .string ⟨#[]⟩, .slice none 0 0, .slice none 0 0] 28)) (.cells #[.int .i64 7, .int .i64 0, .string ⟨#[]⟩, .slice none 0 0, .slice none 0 0] 28)
      refine box_up ?_ (below_alloc _ _)
      simpa using this
  have hNm : NamM Wa (w.heap.size + 2) [] := by
    rw [hWa]
    have := NamM.made ((w.alloc (.cells #[.int .i64 0, .int .i64 0, .string ⟨#[]⟩, .slice none 0 0, .slice none 0 0] 28)).alloc (.cells #[.int .i64 7, .int .i64 0, .string ⟨#[]⟩, .slice none 0 0, .slice none 0 0] 28))
    simpa using this
  have CE : Hid (Calls Tryz.prog 62 #[.pointer (some ⟨b, 0, none⟩), .int .u8 125] Wa fun e w1 => ∃ (dn : Bool) (c n : Nat), e = .returned (.tuple #[.bool dn, .int .i64 (c : Int)]) ∧ Hid (ORel t w b o f R n dn c w1)) := Lib.hid ((enter_any t b p o 125 Wa ha hp (by omega) ho).mono (by
    intro e w1 h1
    have gr : ∀ {q o' : Nat}, JSt Wa b t q o' w1 → JSt w b t q o' w1 ∧ ObjS w.heap.size [] w1 ∧ NamM w1 (w.heap.size + 2) [] := fun {q o'} k => ⟨(JSt.below (JSt.refl h) hba).trans ⟨k.1, k.2⟩, hLs.frm k.2 (fun i hi _ _ e => by omega), hNm.frm k.2 (by omega)⟩
    unfold mesR at hR
    cases hx : entP t 125 p with
    | err c =>
      rw [hx] at h1 hR
      obtain ⟨rfl, hc, q, o', hs⟩ := h1
      obtain ⟨g1, g2, g3⟩ := gr hs
      exact ⟨false, c, 0, rfl, Lib.hid (.inr (.inr ⟨hc, rfl, hR, q, o', [], by simp, g1, g2⟩))⟩
    | ok dn q =>
      rw [hx] at h1 hR
      cases dn with
      | true =>
        obtain ⟨rfl, hs, hq⟩ := h1
        obtain ⟨g1, g2, g3⟩ := gr hs
        exact ⟨true, 0, 0, rfl, Lib.hid (.inr (.inl ⟨rfl, rfl, rfl, q, [], hR, hq, by simp, by simp, g1, g2⟩))⟩
      | false =>
        obtain ⟨rfl, hs, hq⟩ := h1
        obtain ⟨g1, g2, g3⟩ := gr hs
        exact ⟨false, 0, t.length + 1, rfl, Lib.hid (.inl ⟨rfl, rfl, q, [], hq, by omega, by simp, hR.symm, by simp, g1, g2, by simpa using g3⟩)⟩))
  clear hR hLs ha hba hNm
  go_enter Tryz.func41, Tryz.ntmps41
  go_wp2_with fail
  rw [← hWa]
  refine CE.out.mono ?_
  rintro e w1 ⟨dn, c, n, rfl, HL⟩
  clear CE hWa
  go_wp2_with fail
  go_loopg [6, 7, 8] n (fun gk v5 v6 v7 wr => ∃ (dn : Bool) (c : Nat), v5 = .bool dn ∧ v6 = .int .i64 (c : Int) ∧ Hid (ORel t w b o f R gk dn c wr))
  case atStart => exact ⟨dn, c, rfl, rfl, HL⟩
  case round =>
    obtain ⟨dn, c, rfl, rfl, HL⟩ := hrel
    rcases HL.out with ⟨rfl, rfl, q, acc, hq, hn, hacc, hR, hnd, hs, hls, hnm⟩ | ⟨rfl, rfl, hn, q, acc, hR, hq, hal, hnd, hs, hls⟩ | ⟨hc, hn, hR, q, o', acc, hal, hs, hls⟩
    · have HQ := Lib.hid (And.intro hq (And.intro hn (And.intro hacc (And.intro hR hnd))))
      obtain ⟨W1, hW1⟩ : ∃ W1, W1 = wr.alloc (.cells #[.string ⟨#[]⟩, .int .i64 0, .int .i64 0, .string ⟨#[]⟩, .slice none 0 0, .slice none 0 0] 53) := ⟨_, rfl⟩
      have hb1 : Below wr.heap.size wr W1 := by rw [hW1]; exact below_alloc _ _
      have hbx : W1.heap[wr.heap.size]? = some (.cells #[str [], .int .i64 0, .int .i64 0, str [], .slice none 0 0, .slice none 0 0] 53 (0, 0)) := by rw [hW1]; exact heap_alloc_new wr _
      obtain ⟨vl, rows, hlp⟩ := hls
      have HS1 := Lib.hid (And.intro (hs.below hb1) (And.intro hlp (And.intro hbx hb1)))
      have HZ : Hid (w.heap.size + 3 ≤ wr.heap.size ∧ W1.heap.size = wr.heap.size + 1 ∧ ∀ k, vl.ownBlock = some k → k < wr.heap.size) := Lib.hid ⟨by have := hnm.lt; omega, by rw [hW1]; simp, hlp.sz.2⟩
      have CV1 := Lib.hid (CM.out W1 q (acc.map (fun m => m.1)) HS1.out.1.1 hq (hnm.up hb1) (by rw [List.length_map]; omega))
      clear hq hn hacc hR hs hlp hb1 hbx HL hnd hnm
      go_wp2_with fail
      rw [← hW1]
      clear hW1
      cases hx : memP f t (acc.map (fun m => m.1)) q with
      | err c =>
        rw [hx] at CV1
        refine CV1.out.mono ?_
        rintro e w2 ⟨⟨nm, v⟩, cs, rfl, hc, hv, hf2, q', o', hj2⟩
        obtain ⟨al, ll, cl, am, lm, cm, rfl, _, _⟩ := hv.open
        have hbx2 := box_frm HS1.out.2.2.1 hf2 (by have := HZ.out.1; omega)
        have hb0 := box_cell hbx2 0
        have hb1 := box_cell hbx2 1
        have hb2 := box_cell hbx2 2
        have hb3 := box_cell hbx2 3
        have hb4 := box_cell hbx2 4
        have hb5 := box_cell hbx2 5
        have hfz := box_fr hbx2
        have H2 := Lib.hid (And.intro hj2 (And.intro hbx2 (And.intro hc hf2)))
        clear hbx2 hv hc CV1 hf2 hj2
        dsimp only
        go_upto_region 7 with fail
        refine wp_any_world (fun W => W.heap[wr.heap.size]? = some (.cells #[str nm, .int .i64 v.kind, .int .i64 v.n, str v.s, .slice al ll cl, .slice am lm cm] 53 (0, 0)) ∧ Frm (fun i => i = wr.heap.size) w2 W) (six_set H2.out.2.1 _ _ _ _ _ _) ?_
        clear hb0 hb1 hb2 hb3 hb4 hb5 hfz
        rintro w3 ⟨hb3, hf3⟩
        have HX : Hid (ORel t w b o f R 0 false c w3) := Lib.hid (.inr (.inr ⟨H2.out.2.2.1, rfl, by
          obtain ⟨hq, hn, hacc, hR, hnd⟩ := HQ.out
          obtain ⟨m, rfl⟩ : ∃ m, gk = m + 1 := ⟨gk - 1, by omega⟩
          rw [← hR, mesP, hx], q', o', acc, by have := HQ.out.2.2.1; omega, (HS1.out.1.next (H2.out.1) H2.out.2.2.2 (fun i e => by have := HZ.out.1; omega)).grow hf3 (fun i e => by have := HZ.out.1; omega), ⟨vl, rows, HS1.out.2.1.frm (frm3o HS1.out.2.2.2 H2.out.2.2.2 hf3) (fun i h1 h2 h3 e => by omega)⟩⟩))
        have hc0 : ((c : Int) == 0) = false := by rw [beq_eq_false_iff_ne]; have := H2.out.2.2.1; omega
        have HN : Hid (0 < gk) := Lib.hid (by have := HQ.out; omega)
        clear hb3 hf3 H2 HS1 HZ HQ
        go_wp2_with fail
        go_roundg 0
        case measure => exact HN.out
        case rel => exact ⟨false, c, rfl, rfl, HX⟩
      | ok mm q1 =>
        rw [hx] at CV1
        refine CV1.out.mono ?_
        rintro e w2 ⟨cs, rfl, hv, hf2, hj2, hq1, hnm2⟩
        obtain ⟨nm, v⟩ := mm
        dsimp only at hv hnm2
        have HVO := Lib.hid hv
        obtain ⟨al, ll, cl, am, lm, cm, rfl, _, _⟩ := hv.open
        have hbx2 := box_frm HS1.out.2.2.1 hf2 (by have := HZ.out.1; omega)
        have hb0 := box_cell hbx2 0
        have hb1 := box_cell hbx2 1
        have hb2 := box_cell hbx2 2
        have hb3 := box_cell hbx2 3
        have hb4 := box_cell hbx2 4
        have hb5 := box_cell hbx2 5
        have hfz := box_fr hbx2
        have H2 := Lib.hid (And.intro hj2 (And.intro hbx2 (And.intro hq1 (And.intro hf2 hnm2))))
        clear hbx2 hv hq1 CV1 hf2 hj2 hnm2
        go_upto_region 7 with fail
        refine wp_any_world (fun W => W.heap[wr.heap.size]? = some (.cells #[str nm, .int .i64 v.kind, .int .i64 v.n, str v.s, .slice al ll cl, .slice am lm cm] 53 (0, 0)) ∧ Frm (fun i => i = wr.heap.size) w2 W) (six_set H2.out.2.1 _ _ _ _ _ _) ?_
        clear hb0 hb1 hb2 hb3 hb4 hb5 hfz
        rintro w3 ⟨hb3, hf3⟩
        have hp0 := box_cell hb3 0
        have hp1 := box_cell hb3 1
        have hp2 := box_cell hb3 2
        have hp3 := box_cell hb3 3
        have hp4 := box_cell hb3 4
        have hp5 := box_cell hb3 5
        have HLP := Lib.hid (HS1.out.2.1.frm (frm3o HS1.out.2.2.2 H2.out.2.2.2.1 hf3) (fun i h1 h2 h3 e => by omega))
        have HJ := Lib.hid ((HS1.out.1.next H2.out.1 H2.out.2.2.2.1 (fun i e => by have := HZ.out.1; omega)).grow hf3 (fun i e => by have := HZ.out.1; omega))
        have HV3 : Hid (RdJ w3 (fun i => W1.heap.size ≤ i) v [.int .i64 v.kind, .int .i64 v.n, str v.s, .slice al ll cl, .slice am lm cm]) := Lib.hid (HVO.out.frm hf3 (fun i hi e => by have := HZ.out.2.1; omega))
        have HNM := Lib.hid (H2.out.2.2.2.2.frm hf3 (by have := HZ.out.1; omega))
        have hl3 := box_cell HLP.out.2.1 4
        have hlf := box_fr HLP.out.2.1
        clear hb3 hf3 HVO
        obtain ⟨i0, hi, hz0, hz1, hz2⟩ := info_parts infoM
        go_wp2_with (at_builtin; refine hold ?_)
        intro _
        have hacc : acc.length ≤ 1000000 := by have := HQ.out; omega
        have hB : w.heap.size + 3 ≤ w3.heap.size := by have := HNM.out.lt; omega
        refine wpList_append_lies _ (by rfl) _ _ 26 (by rfl) (w.heap.size + 3) 53 i0 _ 6 96 Tryz.underlying26 hi hz0 hz1 hz2 rfl (by decide) vl acc.length rows.flatten (by rfl) (owns_frm (F := fun _ => False) HLP.out.2.2.1 (Frm.of_below (below_alloc w3 _)) (fun _ _ h => h)) ⟨w3.heap.size, 0, none⟩ 1 1 [str nm, .int .i64 v.kind, .int .i64 v.n, str v.s, .slice al ll cl, .slice am lm cm] (by rfl) (by rfl) (World.news_of_block (heap_alloc_new w3 _)) (by simp [Value.oneCell']) (by decide) (by simp only [maxLen]; omega) (by omega) (by simp; omega) _ rfl ?_
        intro g cap w4 ho hg hl4 _
        have hadd := HLP.out.add (nm := nm) (v := v) (B0 := W1.heap.size) (by have := HZ.out; omega) (fun k hk => by have := HZ.out.2.2 k hk; have := HZ.out.2.1; omega) HV3.out ho hg (by simpa using hl4)
        have HA := Lib.hid hadd
        have HNM4 : Hid (NamM (w4.setCell ⟨w.heap.size + 1, 4, none⟩ (.slice (some ⟨g, 0, none⟩) (acc.length + 1) cap)) (w.heap.size + 2) (acc.map (fun m => m.1) ++ [nm])) := Lib.hid (HNM.out.frm hadd.2 (by omega))
        have hx3 : w4.cell? ⟨w.heap.size + 1, 4, none⟩ = some vl := by
          have := hg.cell_far ⟨w.heap.size + 1, 4, none⟩ (by simp; omega) (fun e => by have := HLP.out.2.2.1.lt _ e.symm; dsimp only at this; omega)
          rw [this]
          have h2 := (below_alloc w3 (.cells #[.string ⟨nm.toArray⟩, .int .i64 v.kind, .int .i64 v.n, .string ⟨v.s.toArray⟩, .slice al ll cl, .slice am lm cm] 53)).cell (p := ⟨w.heap.size + 1, 4, none⟩) (by show w.heap.size + 1 < _; omega)
          exact h2.trans hl3
        have hxf : w4.frozen? ⟨w.heap.size + 1, 4, none⟩ = false := by
          refine box_fr (cs := #[.int .i64 7, .int .i64 0, str [], .slice none 0 0, vl]) (T := 28) ?_ 4
          rw [hg.block _ (by simp; omega) (fun e => by have := HLP.out.2.2.1.lt _ e.symm; omega)]
          exact box_up HLP.out.2.1 (below_alloc w3 _)
        clear hadd ho hg hl4 hi hz0 hz1 hz2 hp0 hp1 hp2 hp3 hp4 hp5 hl3 hlf
        go_upto_region 9 with fail
        refine wp_any_world (fun W => (ObjP w.heap.size (acc ++ [(nm, v)]) (.slice (some ⟨g, 0, none⟩) (acc.length + 1) cap) (rows ++ [str nm :: [.int .i64 v.kind, .int .i64 v.n, str v.s, .slice al ll cl, .slice am lm cm]]) W ∧ Frm (fun i => w.heap.size ≤ i ∧ i ≠ w.heap.size + 2) w3 W) ∧ NamM W (w.heap.size + 2) (acc.map (fun m => m.1) ++ [nm])) ⟨HA.out, HNM4.out⟩ ?_
        clear hx3 hxf HA HNM4
        rintro w5 ⟨⟨h5, hf5⟩, hnm5⟩
        have H5 : Hid (JSt w b t q1 (o + 1) w5 ∧ ObjS w.heap.size (acc ++ [(nm, v)]) w5 ∧ NamM w5 (w.heap.size + 2) ((acc ++ [(nm, v)]).map (fun m => m.1))) := Lib.hid ⟨JSt.grow HJ.out hf5 (fun i e => by omega), ⟨_, _, h5⟩, by simpa using hnm5⟩
        have CB := Lib.hid (behind_any t b q1 o 125 w5 H5.out.1.1 H2.out.2.2.1 (by omega) ho)
        have HQ2 : Hid (∃ m, gk = m + 1 ∧ (acc ++ [(nm, v)]).length + m ≤ t.length + 1 ∧ (match behP t 125 q1 with | .err e => .err e | .ok true r => .ok (acc ++ [(nm, v)]) r | .ok false r => mesP f t m r (acc ++ [(nm, v)])) = R ∧ t.length - q < m + 1 ∧ q ≤ q1 ∧ ((acc ++ [(nm, v)]).map (fun m => m.1)).Nodup) := Lib.hid (by
          obtain ⟨hq, hn, hacc, hR, hnd⟩ := HQ.out
          obtain ⟨m, rfl⟩ : ∃ m, gk = m + 1 := ⟨gk - 1, by omega⟩
          obtain ⟨hnew, p1, v1, hf1, hp1⟩ := memP_new hx
          refine ⟨m, rfl, by simp; omega, ?_, hn, ?_, ?_⟩
          · rw [mesP, hx] at hR
            dsimp only at hR
            rw [← hR]
            cases behP t 125 q1 with
            | err e => rfl
            | ok d r => cases d <;> rfl
          · have := hf _ _ _ hf1
            omega
          · rw [List.map_append, List.nodup_append]
            refine ⟨hnd, by simp, ?_⟩
            intro a ha b hb e
            simp only [List.map_cons, List.map_nil, List.mem_singleton] at hb
            subst hb e
            exact hnew ha)
        clear h5 hf5 HQ HLP HJ HV3 H2 HZ HS1 hnm5 HNM
        go_wp2_with fail
        refine CB.out.mono ?_
        intro e w6 h6
        have key : ∃ (dn' : Bool) (c' n' : Nat), e = .returned (.tuple #[.bool dn', .int .i64 (c' : Int)]) ∧ n' < gk ∧ Hid (ORel t w b o f R n' dn' c' w6) := by
          obtain ⟨m, hm, hlen, hR, hn, hqq, hnd⟩ := HQ2.out
          have gr : ∀ {q o' : Nat}, JSt w5 b t q o' w6 → JSt w b t q o' w6 ∧ ObjS w.heap.size (acc ++ [(nm, v)]) w6 ∧ NamM w6 (w.heap.size + 2) ((acc ++ [(nm, v)]).map (fun m => m.1)) := fun {q o'} k => ⟨H5.out.1.trans k, ObjS.frm H5.out.2.1 k.2 (fun i hi _ _ e => by omega), H5.out.2.2.frm k.2 (by omega)⟩
          cases hx2 : behP t 125 q1 with
          | err c =>
            rw [hx2] at h6 hR
            obtain ⟨rfl, hc, q', o', hs⟩ := h6
            obtain ⟨g1, g2, g3⟩ := gr hs
            exact ⟨false, c, 0, rfl, by omega, Lib.hid (.inr (.inr ⟨hc, rfl, hR.symm, q', o', _, by omega, g1, g2⟩))⟩
          | ok d r =>
            have hlt := behP_lt hx2
            rw [hx2] at h6 hR
            cases d with
            | true =>
              obtain ⟨rfl, hs, hr⟩ := h6
              obtain ⟨g1, g2, g3⟩ := gr hs
              exact ⟨true, 0, 0, rfl, by omega, Lib.hid (.inr (.inl ⟨rfl, rfl, rfl, r, _, hR.symm, hr, by omega, hnd, g1, g2⟩))⟩
            | false =>
              obtain ⟨rfl, hs, hr⟩ := h6
              obtain ⟨g1, g2, g3⟩ := gr hs
              exact ⟨false, 0, m, rfl, by omega, Lib.hid (.inl ⟨rfl, rfl, r, _, hr, by omega, hlen, hR, hnd, g1, g2, g3⟩)⟩
        obtain ⟨dn', c', n', rfl, hlt, HL'⟩ := key
        have HLT := Lib.hid hlt
        clear h6 hlt HQ2 H5 CB
        go_wp2_with fail
        go_roundg n'
        case measure => exact HLT.out
        case rel => exact ⟨dn', c', rfl, rfl, HL'⟩
    · have HH := Lib.hid (And.intro hR (And.intro hq (And.intro hs hnd)))
      obtain ⟨vl, rows, hlp⟩ := hls
      obtain ⟨va, vc, rfl⟩ := own_slice hlp.2.2.1
      have CS := Lib.hid (sorted_any hlp hal hl)
      have e4 := box_cell hlp.2.1 4
      have HP := Lib.hid hlp
      clear hlp hR hq hs hn HL hnd hal
      go_wp2_with fail
      refine CS.out.mono ?_
      rintro e w2 ⟨rfl, d, hp, hsr, ⟨rd, hrd, hrm⟩, hf2⟩
      have b0 := box_frm HP.out.1 hf2 (by omega)
      have b1 := box_frm HP.out.2.1 hf2 (by omega)
      have e0 := box_cell b1 0
      have e1 := box_cell b1 1
      have e2 := box_cell b1 2
      have e3 := box_cell b1 3
      have e4' := box_cell b1 4
      have d0 := box_cell b0 0
      have d1 := box_cell b0 1
      have d2 := box_cell b0 2
      have d3 := box_cell b0 3
      have d4 := box_cell b0 4
      have df := box_fr b0
      have H2 := Lib.hid (And.intro b0 (And.intro hp (And.intro hsr (And.intro hrd (And.intro hrm hf2)))))
      clear b0 b1 hp hsr hrd hrm hf2 CS e4
      go_wp2_with fail
      refine bodyPost_any_world (fun W => W.heap[w.heap.size]? = some (.cells #[.int .i64 7, .int .i64 0, str [], .slice none 0 0, .slice va acc.length vc] 28 (0, 0)) ∧ Frm (fun i => i = w.heap.size) w2 W) (five_set H2.out.1 _ _ _ _ _) ?_
      clear e0 e1 e2 e3 e4' d0 d1 d2 d3 d4 df
      rintro w9 ⟨h9, hf9⟩
      have k0 := box_cell h9 0
      have k1 := box_cell h9 1
      have k2 := box_cell h9 2
      have k3 := box_cell h9 3
      have k4 := box_cell h9 4
      refine bodyPost_ret (v := .tuple #[.agg #[.int .i64 7, .int .i64 0, str [], .slice none 0 0, .slice va acc.length vc], .int .i64 0]) (by simp [results, Tryz.results41, go_sem, k0, k1, k2, k3, k4]) rfl ?_
      obtain ⟨_, hp, hsr, hrd, hrm, hf2⟩ := H2.out
      rw [HH.out.1]
      obtain rfl := srt_eq hp hsr HH.out.2.2.2
      exact ⟨[.int .i64 7, .int .i64 0, str [], .slice none 0 0, .slice va acc.length vc], rfl, objJ hrd hrm hf9, JSt.grow (JSt.grow HH.out.2.2.1 hf2 (fun i e => by omega)) hf9 (fun i e => by omega), HH.out.2.1⟩
    · have HH := Lib.hid (And.intro hR (And.intro hs hc))
      obtain ⟨vl, rows, hlp⟩ := hls
      obtain ⟨va, vc, rfl⟩ := own_slice hlp.2.2.1
      have CS := Lib.hid (sorted_any hlp hal hl)
      have e4 := box_cell hlp.2.1 4
      have HP := Lib.hid hlp
      have hc0 : ((c : Int) == 0) = false := by rw [beq_eq_false_iff_ne]; omega
      clear hlp hR hs hn HL hal hc
      go_wp2_with fail
      refine CS.out.mono ?_
      rintro e w2 ⟨rfl, d, hp, hsr, ⟨rd, hrd, hrm⟩, hf2⟩
      have b0 := box_frm HP.out.1 hf2 (by omega)
      have b1 := box_frm HP.out.2.1 hf2 (by omega)
      have e0 := box_cell b1 0
      have e1 := box_cell b1 1
      have e2 := box_cell b1 2
      have e3 := box_cell b1 3
      have e4' := box_cell b1 4
      have d0 := box_cell b0 0
      have d1 := box_cell b0 1
      have d2 := box_cell b0 2
      have d3 := box_cell b0 3
      have d4 := box_cell b0 4
      have df := box_fr b0
      have H2 := Lib.hid (And.intro b0 (And.intro hp (And.intro hsr (And.intro hrd (And.intro hrm hf2)))))
      clear b0 b1 hp hsr hrd hrm hf2 CS e4
      go_wp2_with fail
      refine bodyPost_any_world (fun W => W.heap[w.heap.size]? = some (.cells #[.int .i64 7, .int .i64 0, str [], .slice none 0 0, .slice va acc.length vc] 28 (0, 0)) ∧ Frm (fun i => i = w.heap.size) w2 W) (five_set H2.out.1 _ _ _ _ _) ?_
      clear e0 e1 e2 e3 e4' d0 d1 d2 d3 d4 df
      rintro w9 ⟨h9, hf9⟩
      have k0 := box_cell h9 0
      have k1 := box_cell h9 1
      have k2 := box_cell h9 2
      have k3 := box_cell h9 3
      have k4 := box_cell h9 4
      refine bodyPost_ret (v := .tuple #[.agg #[.int .i64 7, .int .i64 0, str [], .slice none 0 0, .slice va acc.length vc], .int .i64 (c : Int)]) (by simp [results, Tryz.results41, go_sem, k0, k1, k2, k3, k4]) rfl ?_
      obtain ⟨_, hp, hsr, hrd, hrm, hf2⟩ := H2.out
      rw [HH.out.1]
      exact ⟨.mk 7 0 [] [] d, [.int .i64 7, .int .i64 0, str [], .slice none 0 0, .slice va acc.length vc], rfl, HH.out.2.2, objJ hrd hrm hf9, q, o', JSt.grow (JSt.grow HH.out.2.1 hf2 (fun i e => by omega)) hf9 (fun i e => by omega)⟩
end Go.Proofs.YtidlhajibjnkeaaGreatDoor

/- JSON: what is read goes on. -/
namespace Go.Proofs.YtidlhajibjnkeaaGreatDoor
open Go.RowKit

theorem entP_ge {t : List UInt8} {c : UInt8} {p : Nat} {d : Bool} {q : Nat} (h : entP t c p = .ok d q) : p < q := by
  unfold entP at h
  have := skp_ge t (p + 1)
  split at h
  · cases h
  · split at h
    · cases h; omega
    · cases h; omega
theorem itsP_ge {f : Nat → JR JV} {t : List UInt8} (hf : ∀ q v q1, f q = .ok v q1 → q ≤ q1) : ∀ (n p : Nat) (acc l : List JV) (q : Nat), itsP f t n p acc = .ok l q → p ≤ q
  | 0, p, acc, l, q, h => by simp [itsP] at h
  | n + 1, p, acc, l, q, h => by
    rw [itsP] at h
    split at h
    · cases h
    · next v q1 h1 =>
      have g1 := hf _ _ _ h1
      split at h
      · cases h
      · next r h2 =>
        have := behP_lt h2
        cases h; omega
      · next r h2 =>
        have := behP_lt h2
        have := itsP_ge hf n r _ l q h
        omega
theorem mesP_ge {f : Nat → JR JV} {t : List UInt8} (hf : ∀ q v q1, f q = .ok v q1 → q ≤ q1) : ∀ (n p : Nat) (acc l : List MemT) (q : Nat), mesP f t n p acc = .ok l q → p ≤ q
  | 0, p, acc, l, q, h => by simp [mesP] at h
  | n + 1, p, acc, l, q, h => by
    rw [mesP] at h
    split at h
    · cases h
    · next v q1 h1 =>
      obtain ⟨_, p1, v1, hv, hp⟩ := memP_new h1
      have g1 := hf _ _ _ hv
      split at h
      · cases h
      · next r h2 =>
        have := behP_lt h2
        cases h; omega
      · next r h2 =>
        have := behP_lt h2
        have := mesP_ge hf n r _ l q h
        omega
theorem lstP_ge {f : Nat → JR JV} {t : List UInt8} (hf : ∀ q v q1, f q = .ok v q1 → q ≤ q1) {p : Nat} {l : List JV} {q : Nat} (h : lstP f t p = .ok l q) : p < q := by
  unfold lstP at h
  split at h
  · cases h
  · next h1 => have := entP_ge h1; cases h; omega
  · next h1 =>
    have := entP_ge h1
    have := itsP_ge hf _ _ _ _ _ h
    omega
theorem objP_ge {f : Nat → JR JV} {t : List UInt8} (hf : ∀ q v q1, f q = .ok v q1 → q ≤ q1) {p : Nat} {l : List MemT} {q : Nat} (h : objP f t p = .ok l q) : p < q := by
  unfold objP at h
  split at h
  · cases h
  · next h1 => have := entP_ge h1; cases h; omega
  · next h1 =>
    have := entP_ge h1
    split at h
    · cases h
    · next h2 =>
      have := mesP_ge hf _ _ _ _ _ h2
      cases h; omega
theorem digP_ge {t : List UInt8} {sg : Int} {p : Nat} {v : Int} {q : Nat} (h : digP t sg p = .ok v q) : p < q := by
  unfold digP at h
  split at h
  · cases h
  · split at h
    · cases h
    · next h1 =>
      split at h
      · cases h
      · split at h
        · cases h
        · cases h
          have : (dgs (t.drop p)).length ≠ 0 := fun e => h1 (.inl e)
          omega
theorem numP_ge {t : List UInt8} {p : Nat} {v : Int} {q : Nat} (h : numP t p = .ok v q) : p < q := by
  unfold numP at h
  split at h
  · have := digP_ge h; omega
  · exact digP_ge h
theorem casP_ge {lst : Nat → JR (List JV)} {obj : Nat → JR (List MemT)} {t : List UInt8} {c : UInt8} {p : Nat} {v : JV} {q : Nat} (h1 : ∀ l q, lst p = .ok l q → p < q) (h2 : ∀ l q, obj p = .ok l q → p < q) (h : casP lst obj t c p = .ok v q) : p < q := by
  unfold casP at h
  split at h
  · cases hx : lst p with
    | err e => rw [hx] at h; cases h
    | ok l r => rw [hx] at h; cases h; exact h1 _ _ hx
  · split at h
    · cases hx : obj p with
      | err e => rw [hx] at h; cases h
      | ok l r => rw [hx] at h; cases h; exact h2 _ _ hx
    · split at h
      · cases hx : txtP t p with
        | err e => rw [hx] at h; cases h
        | ok l r => rw [hx] at h; cases h; exact txtP_ge hx
      · split at h
        · cases hx : numP t p with
          | err e => rw [hx] at h; cases h
          | ok l r => rw [hx] at h; cases h; exact numP_ge hx
        · split at h
          · split at h
            · cases h; omega
            · cases h
          · split at h
            · split at h
              · cases h; omega
              · cases h
            · split at h
              · split at h
                · cases h; omega
                · cases h
              · cases h
theorem valP_ge (t : List UInt8) : ∀ (d p : Nat) (v : JV) (q : Nat), valP t d p = .ok v q → p ≤ q
  | 0, p, v, q, h => by
    rw [valP] at h
    split at h
    · cases h
    · split at h <;> cases h
  | d + 1, p, v, q, h => by
    rw [valP] at h
    split at h
    · cases h
    · have hs := skp_ge t p
      have := casP_ge (fun l q h => lstP_ge (valP_ge t d) h) (fun l q h => objP_ge (valP_ge t d) h) h
      omega
end Go.Proofs.YtidlhajibjnkeaaGreatDoor
