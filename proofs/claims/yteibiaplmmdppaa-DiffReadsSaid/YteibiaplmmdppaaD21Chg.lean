/- hbllaw21.Changes, hblref20.SameChanges. -/
import Derived.Test.YteibiaplmmdppaaRdV
import Derived.Test.YteibiaplmmdppaaMrgMath
import Derived.Test.YteibiaplmmdppaaRowsF
import Derived.Test.YteibiaplmmdppaaKit
import Derived.Deep.RegionHeld3
import Derived.Deep.QuietTactic
import Derived.BigQuiet
namespace Go.Proofs.Yteibiaplmmdppaa
open Go.RowKit

/-- An append of one struct, in a region that draws. -/
theorem step_appendN {P : Program} {w : World} {ops : Array Oper} {o : Oper} {a : Act} {K : Act → World → Prop} {Q : Exit → Act → World → Prop} {N : Prop} (hgd : o.guard = none) (s x : Operand) (T : TypeId) (ho : o.op = .call { callee := .builtin .append, args := #[s, x], argTypes := #[T, T] })
    {base : Nat} {E : TypeId} {i : TypeInfo} {z : Value} {size bytes : Nat} (hT : P.underlying T = some (.slice E)) (hi : P.info? E = some i) (hz : i.zero = some z) (h1 : i.size = size) (h2 : i.bytes = bytes) (hzs : z.cells.size = size) (hsz : 0 < size)
    {v : Value} {k : Nat} {xs : List Value} (hs : a.eval s = v) (hown : w.ownsRow base E size v k xs) {b : Nat} (us : List Value) (hx : a.eval x = .slice (some ⟨b, 0, none⟩) 1 1) (hb : w.heap[b]? = some (.cells us.toArray E (0, 0))) (hus : us.length = size) (hone : ∀ u ∈ us, u.oneCell' = true)
    (b1 : k + 1 ≤ maxLen) (b2 : (k + 1) * bytes ≤ 140737488355328) (b3 : base ≤ w.heap.size) (hK : ∀ v' w', w'.ownsRow base E size v' (k + 1) (xs ++ us) → w.grownBy w' v.ownBlock → K (a.put o.dst v') w') :
    if Region.wanted o (yielded ops a.tmps) = true then Oper.wp P o a w K Q else N := by
  have hw : Region.wanted o (yielded ops a.tmps) = true := by simp [Region.wanted, hgd]
  rw [if_pos hw]
  refine wp_append_own w s x T ho base E i z size bytes hT hi hz h1 h2 hzs hsz v k xs hs hown ⟨b, 0, none⟩ 1 1 us hx (by omega) ?_ hone b1 b2 b3 ?_
  · intro j u hj
    have e : (⟨b, 0, none⟩ : Addr).add j = ⟨b, j, none⟩ := by simp [Addr.add]; rintro rfl; rfl
    rw [e]
    simpa [World.cell?, hb] using hj
  · intro v' w' g1 g2 _
    exact hK v' w' g1 g2
theorem infoRC : (Try.prog.info? 31).map (fun i => (i.zero, i.size, i.bytes)) = some (some (.agg #[str [], str [], .bool false]), 3, 40) := by kernel_rfl
/-- Under way. -/
def ChgAt (w W : World) (v : Value) (L : List ChgT) (k : Nat) : Prop := W.ownsRow w.heap.size 31 3 v k ((L.take k).map cellsC).flatten ∧ Below w.heap.size w W
set_option maxRecDepth 100000 in
set_option maxHeartbeats 4000000 in
theorem changes_any (v : Value) (L : List ChgT) (w : World) (hv : RdC w v L) (hl : L.length ≤ 1000000) :
    Calls Try.prog 17 #[v] w fun e w' => ∃ u, e = .returned u ∧ RdC w' u L ∧ Below w.heap.size w w' := by
  obtain ⟨av, cv, rfl, _⟩ := hv.form
  obtain ⟨i0, hi, hz0, hz1, hz2⟩ := info_parts infoRC
  have HV := Lib.hid hv
  clear hv
  go_enter Try.func17, Try.ntmps17
  go_wp2_with fail
  go_loopw [3, 4] (fun o i wr => ∃ k : Nat, k ≤ L.length ∧ i = .int .i64 (k : Int) ∧ Hid (ChgAt w wr o L k)) (fun _ i _ => L.length - (intOf i).toNat)
  case atStart => exact ⟨0, Nat.zero_le _, rfl, Lib.hid ⟨World.ownsRow_nil w _ _ 3, Below.refl _ _⟩⟩
  case round =>
    obtain ⟨k, hk, rfl, HR⟩ := hrel
    obtain ⟨vo, hvo⟩ : ∃ v, v = u3 := ⟨_, rfl⟩
    subst hvo
    by_cases hlt : k < L.length
    · have g3 : (k : Int) < (L.length : Int) := by omega
      have g4 : (0 : Int) ≤ (k : Int) := by omega
      obtain ⟨bA, oA, rfl, c0, c1, c2⟩ := HV.out.get hlt
      obtain ⟨⟨ck, cv1, cg⟩, hc⟩ : ∃ c, c = L[k] := ⟨_, rfl⟩
      rw [← hc] at c0 c1 c2
      dsimp only at c0 c1 c2
      have hlA := World.block_lt_of_cell? w _ c0
      have HS := Lib.hid (show ((L.take (k + 1)).map cellsC).flatten = ((L.take k).map cellsC).flatten ++ [str ck, str cv1, .bool cg] by
        rw [List.take_succ_eq_append_getElem hlt, ← hc]; simp [cellsC])
      have HK3 : Hid (∀ W, Below w.heap.size w W → W.cell? ⟨bA, oA + k * 3, none⟩ = some (str ck) ∧ W.cell? ⟨bA, oA + k * 3 + 1, none⟩ = some (str cv1) ∧ W.cell? ⟨bA, oA + k * 3 + 2, none⟩ = some (.bool cg)) := Lib.hid (fun W h => by
        have h3 : bA < w.heap.size := hlA
        rw [h.cell (p := ⟨bA, oA + k * 3, none⟩) h3, h.cell (p := ⟨bA, oA + k * 3 + 1, none⟩) h3, h.cell (p := ⟨bA, oA + k * 3 + 2, none⟩) h3]
        exact ⟨c0, c1, c2⟩)
      have HW0 : Hid (ChgAt w wr.drew vo L k) := Lib.hid ⟨HR.out.1, Below.drewsN HR.out.2 1⟩
      obtain ⟨d0, d1, d2⟩ := HK3.out wr.drew HW0.out.2
      have HD := Lib.hid (And.intro d0 (And.intro d1 d2))
      have hsz : w.heap.size ≤ wr.heap.size := HR.out.2.size
      have HA : Hid (Below w.heap.size w (wr.alloc (.cells #[str ck, str cv1, .bool cg] 31)).drew) := Lib.hid (Below.drewsN (HR.out.2.alloc HR.out.2.size _) 1)
      clear c0 c1 c2 hc hlA HV HR
      go_wp2_with fail
      go_region_held3 (fun W => W.cell? ⟨bA, oA + k * 3, none⟩ = some (str ck) ∧ W.cell? ⟨bA, oA + k * 3 + 1, none⟩ = some (str cv1) ∧ W.cell? ⟨bA, oA + k * 3 + 2, none⟩ = some (.bool cg))
        (first
          | (exact HK3.out _ HN.out.2)
          | (exact HK3.out _ HA.out)
          | (exact HD.out)
          | go_keep)
        ((first
          | (refine step_appendN (by rfl) _ _ 27 (by rfl) (size := 3) (bytes := 40) Try.underlying27 hi hz0 hz1 hz2 rfl (by decide) (by rfl) (World.ownsRow.alloc HW0.out.1 _) [str ck, str cv1, .bool cg] (by rfl) (heap_alloc_new _ _) rfl ?_ ?_ ?_ ?_ ?_
             · intro u hu
               simp only [List.mem_cons, List.not_mem_nil, or_false] at hu
               rcases hu with rfl | rfl | rfl <;> rfl
             · unfold maxLen; omega
             · omega
             · simp; omega
             intro v7 w7 ho7 hg7
             have HN : Hid (ChgAt w w7 v7 L (k + 1)) := Lib.hid ⟨by rw [HS.out]; exact ho7, ((HW0.out.2.alloc HW0.out.2.size _).grown hg7 (by simp; omega) (fun j ej => (World.ownsRow.lt HW0.out.1 j ej).1))⟩
             clear ho7 hg7)
          | fail))
      all_goals
        go_wp2_with fail
        go_roundw
        case rel => exact ⟨k + 1, by omega, by go_num, HN⟩
        case measure => simp [intOf]; omega
    · obtain rfl : k = L.length := by omega
      have g3 : ¬ (L.length : Int) < (L.length : Int) := by omega
      have hR : RdC wr vo L := by
        have h := HR.out.1
        rw [List.take_length] at h
        exact RdF.of_row (cellsC_len L) (by simpa using h)
      have HRR := Lib.hid hR
      clear hR HV
      go_wp2_with fail
      go_ret
      exact ⟨_, rfl, HRR.out, HR.out.2⟩
theorem rchg_neq (c : ChgT) (W : World) : (binOp .neq 31 (encC c) (encC c)).run Try.prog W = .ok (.bool false) W := by
  have hS : Try.prog.underlying 31 = some (.struct (Try.prog.fieldsOf 31)) := by kernel_rfl
  have hp : Try.prog.stoodInHeld 31 = false := by kernel_rfl
  unfold encC
  rw [run_neq_struct, show (10000 : Nat) = 9999 + 1 from rfl, run_equalIn_agg W 9999 31 _ _ hS hp]
  simp only [Program.fieldsOf, Try.underlying31]
  go_simp
set_option maxHeartbeats 2000000 in
/-- Two lists of changes that read alike. -/
theorem samechg_any (va vb : Value) (L : List ChgT) (w : World) (ha : RdC w va L) (hb : RdC w vb L) :
    Calls Try.prog 16 #[va, vb] w fun e w' => e = .returned (.bool true) ∧ Below w.heap.size w w' := by
  obtain ⟨aa, ca, rfl, hl, _⟩ := ha.form
  obtain ⟨ab, cb, rfl, _⟩ := hb.form
  have HA := Lib.hid ha
  have HB := Lib.hid hb
  clear ha hb
  go_enter Try.func16, Try.ntmps16
  go_wp2_with fail
  go_loopw [5] (fun i wr => ∃ (k q : Nat), k ≤ L.length ∧ i = .int .i64 (k : Int) ∧ wr = w.drewN q) (fun i _ => L.length - (intOf i).toNat)
  case atStart => exact ⟨0, 0, Nat.zero_le _, rfl, rfl⟩
  case round =>
    obtain ⟨k, q, hk, rfl, rfl⟩ := hrel
    by_cases hlt : k < L.length
    · have g3 : (k : Int) < (L.length : Int) := by omega
      have g4 : (0 : Int) ≤ (k : Int) := by omega
      obtain ⟨bA, oA, rfl, c0, c1, c2⟩ := HA.out.get hlt
      obtain ⟨bB, oB, rfl, e0, e1, e2⟩ := HB.out.get hlt
      obtain ⟨⟨ck, cv1, cg⟩, hc⟩ : ∃ c, c = L[k] := ⟨_, rfl⟩
      rw [← hc] at c0 c1 c2 e0 e1 e2
      dsimp only at c0 c1 c2 e0 e1 e2
      have hq : ∀ W, (binOp .neq 31 (.agg #[str ck, str cv1, .bool cg]) (.agg #[str ck, str cv1, .bool cg])).run Try.prog W = .ok (.bool false) W := rchg_neq (ck, cv1, cg)
      clear hc HA HB
      go_wp2_with fail
      go_quiet (fail)
      go_wp2_with fail
      go_roundw
      case rel => exact ⟨k + 1, _, by omega, by go_num, rfl⟩
      case measure => simp [intOf]; omega
    · obtain rfl : k = L.length := by omega
      have g3 : ¬ (L.length : Int) < (L.length : Int) := by omega
      go_wp2_with fail
      go_ret
      exact ⟨rfl, Below.drewsN (Below.refl _ w) q⟩
end Go.Proofs.Yteibiaplmmdppaa
