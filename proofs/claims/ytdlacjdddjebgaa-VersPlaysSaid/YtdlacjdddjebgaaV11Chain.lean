/- A store told by its chains: Count, Last, Chain. -/
import Derived.Test.YtdlacjdddjebgaaV11StayN
import Derived.Test.YtdlacjdddjebgaaVPrVS
namespace Go.Proofs.Ytdlacjdddjebgaa
open Go.RowKit

variable {X W : World} {K : Nat → Prop} {s mb : Nat} {C : ChC} {low : Int} {n : Nat}
theorem countG (h : SG X K W s mb C low n) : Calls Try.prog 20 #[.pointer (some ⟨s, 0, none⟩)] W fun e W' => e = .returned (.int .i64 (totC C : Int)) ∧ W = W' := by
  obtain ⟨t, S, h1, h2, h3, h4, h5⟩ := h
  exact countVS_st h1
theorem lastG (h : SG X K W s mb C low n) (hn : n ≤ 10000) (key : List UInt8) : Calls Try.prog 18 #[.pointer (some ⟨s, 0, none⟩), str key] W fun e W' => e = .returned (.int .i64 (lastTVS (verC key C))) ∧ W = W' := by
  obtain ⟨t, S, h1, h2, h3, h4, h5⟩ := h
  have := lastVS_any h1 (by omega) key
  rw [ver_chs, h2] at this
  exact this
/-- A chain cloned, whatever its slice is. -/
def CloQ (l : List VerVS) (w : World) (e : Ending) (w' : World) : Prop := ∃ v, e = .returned v ∧ RdVS w' v l ∧ Below w.heap.size w w'
theorem cloneQ_nil (w : World) : Calls Try.prog 47 #[.slice none 0 0] w (CloQ [] w) := by
  have qT : ∀ w : World, (binOp .eql 40 (.slice none 0 0) (.slice none 0 0)).run Try.prog w = .ok (.bool true) w := fun w => Lib.run_eql_slice_nil w _ _ _ _ _ _ _ Try.underlying40
  have HN : Hid (RdVS w (.slice none 0 0) []) := Lib.hid (rd_rowVS (base := 0) (e := 65) (World.ownsRow_nil w _ _ 3))
  go_enter Try.func47, Try.ntmps47
  go_wp2_with fail
  go_ret
  exact ⟨_, rfl, HN.out, Below.refl _ _⟩
theorem cloneQ_some (ad : Addr) (cap : Nat) (l : List VerVS) (w : World) (hv : RdVS w (.slice (some ad) l.length cap) l) (hl : l.length ≤ 1000000) :
    Calls Try.prog 47 #[.slice (some ad) l.length cap] w (CloQ l w) := by
  obtain ⟨n, hn⟩ : ∃ n, n = l.length := ⟨_, rfl⟩
  obtain ⟨i0, hi, hz0, hz1, hz2⟩ := info_parts infoVS
  rw [← hn] at hv ⊢
  have HV := Lib.hid hv
  have qT : ∀ w : World, (binOp .eql 40 (.slice (some ad) n cap) (.slice none 0 0)).run Try.prog w = .ok (.bool false) w := fun w => Lib.run_eql_slice_nil w _ _ _ _ _ _ _ Try.underlying40
  have HN := Lib.hid hn
  clear hv hn
  go_enter Try.func47, Try.ntmps47
  go_wp2_with (at_builtin; refine hold ?_)
  intro _
  refine wpList_appendF (by rfl) _ _ 40 (by rfl) w.heap.size 65 i0 _ 3 32 Try.underlying40 hi hz0 hz1 hz2 rfl (by decide) _ 0 [] (by rfl) (World.ownsRow_made w #[] 0 (Nat.le_refl _) (by decide) rfl) _ (l.map cellsVS) (cellsVS_len l) onesVS (by rfl) (RdF.below HV.out (below_alloc w _) (Nat.le_refl _)) (fun c h => by cases h) (by rw [List.length_map]; simp [maxLen]; omega) (by rw [List.length_map]; omega) (by simp) ?_
  intro v' w' ho hg
  have ho' := own0VS ho (by simp)
  have hb' : Below w.heap.size w w' := (below_alloc w _).grown hg (by simp) (fun k hk => by simp [Value.ownBlock] at hk; omega)
  have HX := Lib.hid (And.intro (rd_rowVS ho') hb')
  obtain ⟨a, c, rfl, _⟩ := (rd_rowVS ho').form
  clear ho ho' hg hb'
  go_wp2_with fail
  go_ret
  exact ⟨_, rfl, HX.out.1, HX.out.2⟩
set_option maxHeartbeats 1000000 in
theorem chainG (h : SG X K W s mb C low n) (hn : n ≤ 10000) (key : List UInt8) : Calls Try.prog 25 #[.pointer (some ⟨s, 0, none⟩), str key] W (CloQ (verC key C) W) := by
  obtain ⟨t, S, h1, h2, h3, h4, h5⟩ := h
  have CG := Lib.hid (getSVS_any h1 key)
  obtain ⟨c0, _, _, _⟩ := h1.cells
  obtain ⟨ho, _, hl⟩ := h1.chain key
  have e : verSVS key S = verC key C := by rw [ver_chs, h2]; rfl
  rw [e] at ho hl
  obtain ⟨l, hvl⟩ : ∃ l, l = verC key C := ⟨_, rfl⟩
  obtain ⟨v, hvv⟩ : ∃ v, v = valSVS key S := ⟨_, rfl⟩
  obtain ⟨z, hz⟩ : ∃ z, z = (getB key S).isSome := ⟨_, rfl⟩
  rw [← hvl] at ho hl ⊢
  rw [← hvv] at ho CG
  rw [← hz] at CG
  have hrd := rd_rowVS ho
  have CC : Hid (Calls Try.prog 47 #[v] W (CloQ l W)) := Lib.hid (by
    rcases ho.2 with ⟨rfl, h0⟩ | ⟨g, cap, cur, rfl, _⟩
    · obtain rfl := List.eq_nil_of_length_eq_zero h0
      exact cloneQ_nil W
    · exact cloneQ_some _ cap l W hrd (by omega))
  clear h1 h2 h3 h4 h5 ho hl e hvl hvv hz hrd
  go_enter Try.func25, Try.ntmps25
  go_wp2_with fail
  refine CG.out.mono ?_
  rintro e w' ⟨rfl, rfl⟩
  go_wp2_with fail
  refine CC.out.mono ?_
  rintro e w' ⟨u, rfl, h1, h2⟩
  have HX := Lib.hid (And.intro h1 h2)
  obtain ⟨a, c, rfl, _⟩ := h1.form
  clear h1 h2 CC CG c0
  go_wp2_with fail
  go_ret
  exact ⟨_, rfl, HX.out.1, HX.out.2⟩
end Go.Proofs.Ytdlacjdddjebgaa
