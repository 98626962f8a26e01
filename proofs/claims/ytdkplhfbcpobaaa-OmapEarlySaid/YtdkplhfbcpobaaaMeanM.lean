/- hbllaw2's meanwhile: words. -/
import Derived.Test.YtdkplhfbcpobaaaInts
import Derived.Test.YtdkplhfbcpobaaaMergesS
namespace Go.Proofs.Ytdkplhfbcpobaaa
open Go.RowKit

theorem KT.of_only {Wr : TypeId → Prop} {B b : Nat} {W W' : World} (h : Only b W W') (hb : b < B) : KT Wr B W W' :=
  ⟨h.1, fun k o hk h0 _ => (h.2 k (Array.getElem?_eq_some_iff.1 h0).1 (by omega)).trans h0⟩
/-- What meanwhile keeps. -/
structure MwS (w w4 : World) (b : Nat) (l : List OpV) (av : Option Addr) (cv : Nat) (xs : List Value) (i tn : Nat) (W : World) : Prop where
  out : ∃ v, Boxed W (w.heap.size + 2) 42 v ∧ RowI W (w.heap.size + 4) v xs
  bi : Boxed W (w.heap.size + 3) 3 (.int .i64 (i : Int))
  bm : Boxed W w.heap.size 24 (.pointer (some ⟨b, 0, none⟩))
  bl : Boxed W (w.heap.size + 1) 22 (.slice av l.length cv)
  nk : NK w4 W
  mp : ∃ t' L', TInv W b tn t' ∧ prs t' = L'.map encP ∧ RisK L'
  ob : ∀ k, k < w.heap.size → k ≠ b → W.heap[k]? = w.heap[k]?
  bb : Below b w W
section
variable {w w4 W W' : World} {b i tn cv : Nat} {l : List OpV} {av : Option Addr} {xs : List Value}
theorem MwS.turn (h : MwS w w4 b l av cv xs i tn W) (hb : b < w.heap.size) (h4 : w4.heap.size = w.heap.size + 5) (hw : Below b W W') (hk : ∀ k, k < w.heap.size + 4 → W'.heap[k]? = W.heap[k]?) (hn : NK W W')
    (hr : ∀ g cur, w.heap.size + 4 ≤ g → W.heap[g]? = some (.cells cur 3 (0, 0)) → W'.heap[g]? = some (.cells cur 3 (0, 0))) : MwS w w4 b l av cv xs i tn W' := by
  obtain ⟨v, h1, h2⟩ := h.out
  obtain ⟨t', L', h3, h5, h6⟩ := h.mp
  refine ⟨⟨v, (hk _ (by omega)).trans h1, h2.turn hr⟩, (hk _ (by omega)).trans h.bi, (hk _ (by omega)).trans h.bm, (hk _ (by omega)).trans h.bl, NK.trans h.nk hn, ⟨t', L', ⟨?_, h3.ws, h3.rs, h3.ht, h3.len⟩, h5, h6⟩, fun k h7 h8 => (hk k (by omega)).trans (h.ob k h7 h8), h.bb.trans hw⟩
  obtain ⟨T, o, hc, ht⟩ := h3.mp
  exact ⟨T, o, (hk b (by omega)).trans hc, tp_nk hn ht⟩
theorem nk_rows {row : Option Nat} (hg : W.grownBy W' row) (hr : ∀ r, row = some r → ∃ o : Obj, W.heap[r]? = some o ∧ o.isCells = false) : NK W W' :=
  ⟨hg.size, fun k _ _ _ _ _ _ hc => (hg.block k (Array.getElem?_eq_some_iff.1 hc).1 (fun e => by obtain ⟨o, ho, hcs⟩ := hr k e.symm; rw [hc] at ho; cases ho; cases hcs)).trans hc⟩
theorem mwS_own (hb : b < w.heap.size) (h4 : w4.heap.size = w.heap.size + 5) {β : Type} (f : β → List Value) (g n : β → Nat) : OwnFrom w4.heap.size (fun s W => MwS w w4 b l av cv (f s) (g s) (n s) W) := by
  intro s X Y row h hg hr
  have hne : ∀ k, k < w.heap.size + 5 → some k ≠ row := fun k hk e => by have := (hr k e.symm).1; omega
  have hsz := h.nk.1
  refine h.turn hb h4 ((Below.refl _ X).grown hg (by omega) (fun k e => by have := (hr k e).1; omega)) (fun k hk => hg.block k (by omega) (hne k (by omega))) (nk_rows hg (fun r e => (hr r e).2)) (fun k cur _ hc => ?_)
  rw [hg.block k (Array.getElem?_eq_some_iff.1 hc).1 (fun e => by obtain ⟨o, ho, hcs⟩ := (hr k e.symm).2; rw [hc] at ho; cases ho; cases hcs)]
  exact hc
theorem MwS.drew (h : MwS w w4 b l av cv xs i tn W) (hb : b < w.heap.size) (h4 : w4.heap.size = w.heap.size + 5) : MwS w w4 b l av cv xs i tn W.drew :=
  h.turn hb h4 (Below.drewsN (Below.refl _ _) 1) (fun _ _ => rfl) (NK.drew (NK.refl W)) (fun _ _ _ h => h)
/-- A number more. -/
theorem MwS.app (h : MwS w w4 b l av cv xs i tn W) (hb : b < w.heap.size) (h4 : w4.heap.size = w.heap.size + 5) {v v' : Value} {w1 : World} {x : Int} (hv : Boxed W (w.heap.size + 2) 42 v) (hrow : RowI W (w.heap.size + 4) v xs)
    (hr : RowI w1 (w.heap.size + 4) v' (xs ++ [.int .i64 x])) (hg : (W.alloc (.cells #[.int .i64 x] 3)).grownBy w1 v.ownBlock) :
    Boxed w1 (w.heap.size + 2) 42 v ∧ MwS w w4 b l av cv (xs ++ [.int .i64 x]) i tn (w1.setCell ⟨w.heap.size + 2, 0, none⟩ v') ∧ KT (fun T => T = 3) w4.heap.size W (w1.setCell ⟨w.heap.size + 2, 0, none⟩ v') := by
  have hsz : w.heap.size + 5 ≤ W.heap.size := by have := h.nk.1; omega
  have hbl := below_alloc W (.cells #[.int .i64 x] 3)
  have hown : ∀ k, v.ownBlock = some k → w.heap.size + 4 ≤ k := fun k e => (hrow.row.lt k e).1
  have hrA : RowI (W.alloc (.cells #[.int .i64 x] 3)) (w.heap.size + 4) v xs := hrow.turn (fun g cur _ hc => by rw [hbl.block g (Array.getElem?_eq_some_iff.1 hc).1]; exact hc)
  have hk : ∀ k, k < w.heap.size + 4 → w1.heap[k]? = W.heap[k]? := fun k hk => by
    rw [hg.block k (by rw [World.size_alloc]; omega) (fun e => by have := hown k e.symm; omega), hbl.block k (by omega)]
  have hv1 : Boxed w1 (w.heap.size + 2) 42 v := (hk _ (by omega)).trans hv
  have hgs := hg.size
  rw [World.size_alloc] at hgs
  have hn1 : NK W w1 := NK.trans (NK.of_below hbl) (nk_ints hrA hg)
  obtain ⟨t', L', h3, h5, h6⟩ := h.mp
  have hset : ∀ k, k ≠ w.heap.size + 2 → (w1.setCell ⟨w.heap.size + 2, 0, none⟩ v').heap[k]? = w1.heap[k]? := fun k hk => Below.heap_setCell _ _ _ _ hk
  have hn2 : NK w1 (w1.setCell ⟨w.heap.size + 2, 0, none⟩ v') := ⟨by simp [World.setCell], fun k _ _ _ _ _ _ hc => by
    rw [hset k (by rintro rfl; rw [show w1.heap[w.heap.size + 2]? = _ from hv1] at hc; simp at hc)]; exact hc⟩
  refine ⟨hv1, ⟨⟨v', hv1.set v', hr.turn (fun g cur hgb hc => by rw [hset g (by omega)]; exact hc)⟩, ?_, ?_, ?_, NK.trans h.nk (NK.trans hn1 hn2), ⟨t', L', ⟨?_, h3.ws, h3.rs, h3.ht, h3.len⟩, h5, h6⟩, fun k h7 h8 => ?_, h.bb.trans ?_⟩, ?_⟩
  · exact (hset _ (by omega)).trans ((hk _ (by omega)).trans h.bi)
  · exact (hset _ (by omega)).trans ((hk _ (by omega)).trans h.bm)
  · exact (hset _ (by omega)).trans ((hk _ (by omega)).trans h.bl)
  · obtain ⟨T, o, hc, ht⟩ := h3.mp
    exact ⟨T, o, (hset b (by omega)).trans ((hk b (by omega)).trans hc), tp_nk (NK.trans hn1 hn2) ht⟩
  · exact (hset k (by omega)).trans ((hk k (by omega)).trans (h.ob k h7 h8))
  · exact (((hbl.mono (by omega)).trans ((Below.refl b _).grown hg (by rw [World.size_alloc]; omega) (fun k e => by have := hown k e; omega)))).setCell (p := ⟨w.heap.size + 2, 0, none⟩) (by show b ≤ w.heap.size + 2; omega) v'
  · refine ((KT.alloc _ _ W _).trans (KT.of_grown hg fun j ej => ?_)).trans (KT.of_grown (grownBy_setCell' _ _ _) (fun j e => .inl (by cases e; omega)))
    rcases hrA.2 with ⟨rfl, _⟩ | ⟨g, cap, cur, rfl, _, hgb, _⟩
    · simp [Value.ownBlock] at ej
    · obtain rfl : g = j := by simpa [Value.ownBlock] using ej
      exact .inr ⟨_, _, _, hgb, rfl⟩
/-- The map turns. -/
theorem MwS.map (h : MwS w w4 b l av cv xs i tn W) (hb : b < w.heap.size) (h4 : w4.heap.size = w.heap.size + 5) {t2 : Tr} {L2 : List (Int × List UInt8)} {m : Nat} (hm : TInv W' b m t2) (hp : prs t2 = L2.map encP) (hr : RisK L2) (ho : Only b W W') (hbw : Below b W W') : MwS w w4 b l av cv xs i m W' := by
  have hsz : w.heap.size + 5 ≤ W.heap.size := by have := h.nk.1; omega
  obtain ⟨v, h1, h2⟩ := h.out
  obtain ⟨t', L', h3, _, _⟩ := h.mp
  obtain ⟨u1, u2, T, hc⟩ := h3.mp.two
  have hk : ∀ k, k < W.heap.size → k ≠ b → W'.heap[k]? = W.heap[k]? := ho.2
  exact ⟨⟨v, (hk _ (by omega) (by omega)).trans h1, h2.turn (fun g cur hg hc => (hk g (Array.getElem?_eq_some_iff.1 hc).1 (by omega)).trans hc)⟩, (hk _ (by omega) (by omega)).trans h.bi, (hk _ (by omega) (by omega)).trans h.bm, (hk _ (by omega) (by omega)).trans h.bl, NK.trans h.nk (NK.of_only hc ho), ⟨t2, L2, hm, hp, hr⟩, fun k h7 h8 => (hk k (by omega) h8).trans (h.ob k h7 h8), h.bb.trans hbw⟩
theorem MwS.del (h : MwS w w4 b l av cv xs i tn W) (hb : b < w.heap.size) (h4 : w4.heap.size = w.heap.size + 5) (ht : tn ≤ 1000000) {k : Int} (hk : KSIS (.int .i64 k)) : ∃ z : Bool,
    Calls Try.prog 13 #[.pointer (some ⟨b, 0, none⟩), .int .i64 k] W fun e W' => e = .returned (.bool z) ∧ MwS w w4 b l av cv xs i tn W' ∧ KT (fun T => T = 3) w4.heap.size W W' := by
  obtain ⟨t', L', h3, h5, h6⟩ := h.mp
  have hh := h3.ht
  have hl := h3.len
  refine ⟨hasT (.int .i64 k) t', (mdelIS_any b _ t' W h3.mp hk h3.ws (by omega) (by omega)).mono ?_⟩
  rintro e W' ⟨rfl, hm, ho, hbw⟩
  have h7 := h3.ws.rem (k := .int .i64 k)
  have hp : prs (remT (.int .i64 k) t') = (delK k L').map encP := by rw [(prs_rem ordIS hk h3.ws h3.rs).1, h5, delL_enc]
  exact ⟨rfl, h.map hb h4 ⟨hm, h7.1, by rw [hp]; exact ris_enc (delK_ris k h6), by omega, by have := len_rem (.int .i64 k) t'; omega⟩ hp (delK_ris k h6) ho hbw, KT.of_only ho (by omega)⟩
theorem MwS.put (h : MwS w w4 b l av cv xs i tn W) (hb : b < w.heap.size) (h4 : w4.heap.size = w.heap.size + 5) (ht : tn ≤ 1000000) {k : Int} (hk : KSIS (.int .i64 k)) (y : List UInt8) : ∃ z : Bool,
    Calls Try.prog 11 #[.pointer (some ⟨b, 0, none⟩), .int .i64 k, str y] W fun e W' => e = .returned (.bool z) ∧ MwS w w4 b l av cv xs i (tn + 1) W' ∧ KT (fun T => T = 3) w4.heap.size W W' := by
  obtain ⟨t', L', h3, h5, h6⟩ := h.mp
  have hh := h3.ht
  have hl := h3.len
  refine ⟨newT (.int .i64 k) t', (mputIS_any b _ _ t' W h3.mp hk ⟨_, rfl⟩ h3.ws (by omega) (by omega)).mono ?_⟩
  rintro e W' ⟨rfl, hm, ho, hbw⟩
  exact ⟨rfl, h.map hb h4 (h3.put hk ⟨_, rfl⟩ hm) (by rw [prs_put ordIS hk h3.ws h3.rs, h5, insL_enc]) (insK_ris k y h6) ho hbw, KT.of_only ho (by omega)⟩
/-- The count turns. -/
theorem MwS.cnt (h : MwS w w4 b l av cv xs i tn W) (hb : b < w.heap.size) (h4 : w4.heap.size = w.heap.size + 5) (j : Nat) : MwS w w4 b l av cv xs j tn (W.setCell ⟨w.heap.size + 3, 0, none⟩ (.int .i64 (j : Int))) ∧ KT (fun T => T = 3) w4.heap.size W (W.setCell ⟨w.heap.size + 3, 0, none⟩ (.int .i64 (j : Int))) := by
  have hset : ∀ k, k ≠ w.heap.size + 3 → (W.setCell ⟨w.heap.size + 3, 0, none⟩ (.int .i64 (j : Int))).heap[k]? = W.heap[k]? := fun k hk => Below.heap_setCell _ _ _ _ hk
  obtain ⟨v, h1, h2⟩ := h.out
  obtain ⟨t', L', h3, h5, h6⟩ := h.mp
  have hn2 : NK W (W.setCell ⟨w.heap.size + 3, 0, none⟩ (.int .i64 (j : Int))) := ⟨by simp [World.setCell], fun k _ _ _ _ _ _ hc => by
    rw [hset k (by rintro rfl; rw [show W.heap[w.heap.size + 3]? = _ from h.bi] at hc; simp at hc)]; exact hc⟩
  refine ⟨⟨⟨v, (hset _ (by omega)).trans h1, h2.turn (fun g cur hg hc => (hset g (by omega)).trans hc)⟩, h.bi.set _, (hset _ (by omega)).trans h.bm, (hset _ (by omega)).trans h.bl, NK.trans h.nk hn2, ⟨t', L', ⟨?_, h3.ws, h3.rs, h3.ht, h3.len⟩, h5, h6⟩, fun k h7 h8 => (hset k (by omega)).trans (h.ob k h7 h8), h.bb.trans ((Below.refl b W).setCell (p := ⟨w.heap.size + 3, 0, none⟩) (by show b ≤ w.heap.size + 3; omega) _)⟩, KT.of_grown (grownBy_setCell' _ _ _) (fun k e => .inl (by cases e; omega))⟩
  obtain ⟨T, o, hc, ht⟩ := h3.mp
  exact ⟨T, o, (hset b (by omega)).trans hc, tp_nk hn2 ht⟩
theorem MwS.more (h : MwS w w4 b l av cv xs i tn W) {m : Nat} (hm : tn ≤ m) : MwS w w4 b l av cv xs i m W := by
  obtain ⟨t', L', h3, h5, h6⟩ := h.mp
  exact ⟨h.out, h.bi, h.bm, h.bl, h.nk, ⟨t', L', ⟨h3.mp, h3.ws, h3.rs, Nat.le_trans h3.ht hm, Nat.le_trans h3.len hm⟩, h5, h6⟩, h.ob, h.bb⟩
end
end Go.Proofs.Ytdkplhfbcpobaaa
