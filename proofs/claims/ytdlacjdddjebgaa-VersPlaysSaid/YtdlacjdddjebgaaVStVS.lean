/- A store of versions of string: how it lies; New, Last, add, Put, Kill, Get. -/
import Derived.Test.YtdlacjdddjebgaaVUpVS
import Derived.Test.YtdlacjdddjebgaaVStM
import Derived.Test.YtdlacjdddjebgaaVFrm
import Derived.Test.YtdlacjdddjebgaaAppN
import Derived.Test.YtdlacjdddjebgaaGetVS
import Derived.Test.YtdlacjdddjebgaaDelVS
namespace Go.Proofs.Ytdlacjdddjebgaa
open Go.RowKit

/-- What a key has: the slice, the versions. -/
abbrev ChVS := Value × List VerVS
abbrev ChsVS := List (List UInt8 × ChVS)
/-- The blocks of a store's own. -/
def BlkVS (s mb : Nat) (S : ChsVS) (k : Nat) : Prop := k = s ∨ k = mb ∨ ∃ x ∈ S, x.2.1.ownBlock = some k
/-- The slice of a key, its versions. -/
def valSVS (key : List UInt8) (S : ChsVS) : Value := ((getB key S).map Prod.fst).getD (.slice none 0 0)
def verSVS (key : List UInt8) (S : ChsVS) : List VerVS := ((getB key S).map Prod.snd).getD []
/-- A store. -/
structure StVS (W : World) (B s mb : Nat) (t : Tr) (S : ChsVS) (cnt low : Int) (k : Nat) : Prop where
  box : W.heap[s]? = some (.cells #[.pointer (some ⟨mb, 0, none⟩), .int .i64 cnt, .int .i64 low] 71 (0, 0))
  mp : MP W mb t
  ws : WS KSVS VSVS t
  pr : prs t = S.map (pairB Prod.fst)
  rs : RisB S
  ch : ∀ x ∈ S, W.ownsRow B 65 3 x.2.1 x.2.2.length (x.2.2.map cellsVS).flatten
  ap : S.Pairwise (fun x y => ∀ b, x.2.1.ownBlock = some b → y.2.1.ownBlock ≠ some b)
  tr : ∀ x ∈ S, RisT (timesVS x.2.2)
  hk : ht t ≤ k ∧ S.length ≤ k ∧ (∀ x ∈ S, x.2.2.length ≤ k)
  lo : B ≤ s ∧ B ≤ mb
theorem StVS.slt {W : World} {B s mb : Nat} {t : Tr} {S : ChsVS} {cnt low : Int} {k : Nat} (h : StVS W B s mb t S cnt low k) : s < W.heap.size := by
  exact (Array.getElem?_eq_some_iff.1 h.box).1
theorem StVS.blk {W : World} {B s mb : Nat} {t : Tr} {S : ChsVS} {cnt low : Int} {k : Nat} (h : StVS W B s mb t S cnt low k) : ∀ i, BlkVS s mb S i → B ≤ i ∧ i < W.heap.size := by
  rintro i (rfl | rfl | ⟨x, hx, hi⟩)
  · exact ⟨h.lo.1, h.slt⟩
  · exact ⟨h.lo.2, h.mp.lt⟩
  · exact World.ownsRow.lt (h.ch x hx) i hi
theorem StVS.ne {W : World} {B s mb : Nat} {t : Tr} {S : ChsVS} {cnt low : Int} {k : Nat} (h : StVS W B s mb t S cnt low k) : s ≠ mb := by
  rintro rfl
  obtain ⟨T, o, hm, _⟩ := h.mp
  rw [h.box] at hm
  simp at hm
theorem StVS.five {W : World} {B s mb : Nat} {t : Tr} {S : ChsVS} {cnt low : Int} {k : Nat} (h : StVS W B s mb t S cnt low k) : ∀ i, BlkVS s mb S i → ∀ cs T z, W.heap[i]? = some (.cells cs T z) → cs.size ≠ 5 := by
  rintro i (rfl | rfl | ⟨x, hx, hi⟩) cs T z hc
  · rw [h.box] at hc
    simp only [Option.some.injEq, Obj.cells.injEq] at hc
    rw [← hc.1]; simp
  · obtain ⟨T', o, hb, _⟩ := h.mp
    rw [hb] at hc
    simp only [Option.some.injEq, Obj.cells.injEq] at hc
    rw [← hc.1]; simp
  · obtain ⟨cap, hcap⟩ := owns_size (h.ch x hx) hi hc
    omega
/-- A chain's block is neither the store's nor the map's. -/
theorem StVS.apart {W : World} {B s mb : Nat} {t : Tr} {S : ChsVS} {cnt low : Int} {k : Nat} (h : StVS W B s mb t S cnt low k) {x : List UInt8 × ChVS} (hx : x ∈ S) {i : Nat} (hi : x.2.1.ownBlock = some i) : i ≠ mb ∧ i ≠ s := by
  constructor
  · rintro rfl
    obtain ⟨T', o, hb, _⟩ := h.mp
    obtain ⟨cap, hcap⟩ := owns_size (h.ch x hx) hi hb
    simp at hcap
    omega
  · rintro rfl
    rcases (h.ch x hx).2 with ⟨h1, _⟩ | ⟨g, cap, cur, h1, _, hg, _, _, h3, _⟩
    · rw [h1] at hi; simp [Value.ownBlock] at hi
    · rw [h1] at hi
      simp only [Value.ownBlock, Option.some.injEq] at hi
      subst hi
      rw [h.box] at hg
      simp at hg
/-- A store stands when blocks turn that are not its own, nor nodes. -/
theorem StVS.frm {W W' : World} {B s mb : Nat} {t : Tr} {S : ChsVS} {cnt low : Int} {k : Nat} (h : StVS W B s mb t S cnt low k) {F : Nat → Prop} (hf : Frm F W W') (h5 : ∀ k, F k → ∀ cs T z, W.heap[k]? = some (.cells cs T z) → cs.size ≠ 5) (hn : ∀ i, BlkVS s mb S i → ¬ F i) : StVS W' B s mb t S cnt low k :=
  ⟨by rw [hf.block s h.slt (hn s (.inl rfl))]; exact h.box, MP.frm hf h5 (hn mb (.inr (.inl rfl))) h.mp, h.ws, h.pr, h.rs, fun x hx => owns_frm (h.ch x hx) hf (fun i hi => hn i (.inr (.inr ⟨x, hx, hi⟩))), h.ap, h.tr, h.hk, h.lo⟩
theorem StVS.below {W W' : World} {B s mb : Nat} {t : Tr} {S : ChsVS} {cnt low : Int} {k : Nat} (h : StVS W B s mb t S cnt low k) (hb : Below W.heap.size W W') : StVS W' B s mb t S cnt low k :=
  h.frm (F := fun _ => False) (Frm.of_below hb) (fun _ hk => hk.elim) (fun _ _ hk => hk)
theorem StVS.drewN {W : World} {B s mb : Nat} {t : Tr} {S : ChsVS} {cnt low : Int} {k : Nat} (h : StVS W B s mb t S cnt low k) (q : Nat) : StVS (W.drewN q) B s mb t S cnt low k := h.below (Below.drewsN (Below.refl _ _) q)
theorem StVS.ris {W : World} {B s mb : Nat} {t : Tr} {S : ChsVS} {cnt low : Int} {k : Nat} (h : StVS W B s mb t S cnt low k) : Ris (prs t) := by rw [h.pr]; exact (ris_map _ _).2 h.rs
theorem keySVS (key : List UInt8) : KSVS (str key) := ⟨key, rfl⟩
theorem StVS.get {W : World} {B s mb : Nat} {t : Tr} {S : ChsVS} {cnt low : Int} {k : Nat} (h : StVS W B s mb t S cnt low k) (key : List UInt8) : getT (str key) t = (getB key S).map Prod.fst := by
  rw [getT_eq ordVS (keySVS key) h.ws h.ris, h.pr, get_map]
/-- A key's chain: how it lies. -/
theorem StVS.chain {W : World} {B s mb : Nat} {t : Tr} {S : ChsVS} {cnt low : Int} {k : Nat} (h : StVS W B s mb t S cnt low k) (key : List UInt8) :
    W.ownsRow B 65 3 (valSVS key S) (verSVS key S).length ((verSVS key S).map cellsVS).flatten ∧ RisT (timesVS (verSVS key S)) ∧ (verSVS key S).length ≤ k := by
  unfold valSVS verSVS
  cases e : getB key S with
  | none => exact ⟨World.ownsRow_nil W _ _ 3, by simp [timesVS, RisT], Nat.zero_le _⟩
  | some y =>
    have hm := getB_mem e
    exact ⟨h.ch _ hm, h.tr _ hm, h.hk.2.2 _ hm⟩
theorem rd_rowVS {w : World} {base : Nat} {e : TypeId} {v : Value} {l : List VerVS} (h : w.ownsRow base e 3 v l.length (l.map cellsVS).flatten) : RdVS w v l := RdF.of_row (cellsVS_len l) (by simpa using h)
theorem getSVS_any {W : World} {B s mb : Nat} {t : Tr} {S : ChsVS} {cnt low : Int} {k : Nat} (h : StVS W B s mb t S cnt low k) (key : List UInt8) :
    Calls Try.prog 48 #[.pointer (some ⟨mb, 0, none⟩), str key] W fun e w' => e = .returned (.tuple #[valSVS key S, .bool (getB key S).isSome]) ∧ W = w' := by
  refine (mgetVS_any mb (str key) t W h.mp (keySVS key) h.ws).mono ?_
  rintro e w' ⟨rfl, rfl⟩
  refine ⟨?_, rfl⟩
  unfold getEVS valSVS
  rw [h.get key]
  simp
/-- When a key's last version was put. -/
def lastTVS (l : List VerVS) : Int := (l.getLast?.map (fun v => v.1)).getD 0
theorem StVS.cells {W : World} {B s mb : Nat} {t : Tr} {S : ChsVS} {cnt low : Int} {k : Nat} (h : StVS W B s mb t S cnt low k) :
    W.cell? ⟨s, 0, none⟩ = some (.pointer (some ⟨mb, 0, none⟩)) ∧ W.cell? ⟨s, 1, none⟩ = some (.int .i64 cnt) ∧ W.cell? ⟨s, 2, none⟩ = some (.int .i64 low) ∧ ∀ j, W.frozen? ⟨s, j, none⟩ = false := by
  refine ⟨by simp [World.cell?, h.box], by simp [World.cell?, h.box], by simp [World.cell?, h.box], fun j => frozen_of_row W s j _ _ h.box⟩
set_option maxHeartbeats 1000000 in
theorem lastVS_any {W : World} {B s mb : Nat} {t : Tr} {S : ChsVS} {cnt low : Int} {k : Nat} (h : StVS W B s mb t S cnt low k) (hk : k ≤ 1000000) (key : List UInt8) :
    Calls Try.prog 18 #[.pointer (some ⟨s, 0, none⟩), str key] W fun e w' => e = .returned (.int .i64 (lastTVS (verSVS key S))) ∧ W = w' := by
  have CG := Lib.hid (getSVS_any h key)
  obtain ⟨c0, _, _, _⟩ := h.cells
  obtain ⟨ho, _, hl⟩ := h.chain key
  obtain ⟨l, hvl⟩ : ∃ l, l = verSVS key S := ⟨_, rfl⟩
  obtain ⟨v, hvv⟩ : ∃ v, v = valSVS key S := ⟨_, rfl⟩
  obtain ⟨z, hz⟩ : ∃ z, z = (getB key S).isSome := ⟨_, rfl⟩
  rw [← hvl] at ho hl ⊢
  rw [← hvv] at ho CG
  rw [← hz] at CG
  have hrd := rd_rowVS ho
  obtain ⟨av, cv, rfl, _⟩ := hrd.form
  have HV := Lib.hid hrd
  clear h ho hvl hvv hz hrd
  by_cases hl0 : l = []
  · subst hl0
    have e : lastTVS ([] : List VerVS) = 0 := rfl
    rw [e]
    clear e
    go_enter Try.func18, Try.ntmps18
    go_wp2_with fail
    refine CG.out.mono ?_
    rintro e w' ⟨rfl, rfl⟩
    go_wp2_with fail
    go_ret
    exact ⟨rfl, rfl⟩
  · obtain ⟨n, hn⟩ : ∃ n, n + 1 = l.length := ⟨l.length - 1, by have := List.length_pos_iff.2 hl0; omega⟩
    have hln : n < l.length := by omega
    have e : lastTVS l = l[n].1 := by
      unfold lastTVS
      rw [List.getLast?_eq_getElem?, show l.length - 1 = n by omega, List.getElem?_eq_getElem hln]; rfl
    rw [e]
    obtain ⟨bA, oA, rfl, c1, _, _⟩ := HV.out.get hln
    obtain ⟨x, hx⟩ : ∃ x, x = l[n].1 := ⟨_, rfl⟩
    rw [← hx] at c1 ⊢
    obtain ⟨N, hN⟩ : ∃ N : Nat, N = l.length := ⟨_, rfl⟩
    rw [← hN] at CG hn hln hl
    have z1 : ((N : Int) == 0) = false := by simp; omega
    have z2 : decide ((N : Int) = 0) = false := by simp; omega
    have tm : IntKind.i64.wrap ((N : Int) - 1) = (n : Int) := by rw [show (N : Int) - 1 = (n : Int) by omega]; exact IntWalk.i64_in _ (by omega)
    have tm2 : (N : Int) - 1 = (n : Int) := by omega
    have g4 : (n : Int) < (N : Int) := by omega
    have g5 : (0 : Int) ≤ (n : Int) := by omega
    clear hl0 hn hx hN e HV hln
    go_enter Try.func18, Try.ntmps18
    go_wp2_with fail
    refine CG.out.mono ?_
    rintro e w' ⟨rfl, rfl⟩
    go_wp2_with fail
    go_ret
    exact ⟨rfl, rfl⟩
end Go.Proofs.Ytdlacjdddjebgaa
