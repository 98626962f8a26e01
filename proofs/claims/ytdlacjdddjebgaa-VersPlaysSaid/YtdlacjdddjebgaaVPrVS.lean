/- A store of versions of string: what Prune calls: slices.Clone, a key taken away. -/
import Derived.Test.YtdlacjdddjebgaaVOpsVS
import Derived.Lib.SliceRun
import Derived.Lib.SmallJoins
namespace Go.Proofs.Ytdlacjdddjebgaa
open Go.RowKit

theorem onesVS {l : List VerVS} : ∀ u ∈ (l.map cellsVS).flatten, u.oneCell' = true := by
  intro u hu
  obtain ⟨r, hr, hu⟩ := List.mem_flatten.1 hu
  obtain ⟨c, _, rfl⟩ := List.mem_map.1 hr
  simp only [cellsVS, List.mem_cons, List.not_mem_nil, or_false] at hu
  rcases hu with rfl | rfl | rfl <;> rfl
theorem own0VS {w : World} {base : Nat} {v : Value} {l : List VerVS} {n : Nat} (h : w.ownsRow base 65 3 v (0 + n) ([] ++ (l.map cellsVS).flatten)) (hn : n = l.length) : w.ownsRow base 65 3 v l.length (l.map cellsVS).flatten := by
  subst hn; simpa using h
/-- Cloned: a row of its own. -/
def CloPVS (l : List VerVS) (n : Nat) (w : World) (e : Ending) (w' : World) : Prop := ∃ g c, e = .returned (.slice (some ⟨g, 0, none⟩) n c) ∧ w'.ownsRow w.heap.size 65 3 (.slice (some ⟨g, 0, none⟩) n c) l.length (l.map cellsVS).flatten ∧ Below w.heap.size w w'
theorem cloneVS_any (ad : Addr) (n cap : Nat) (l : List VerVS) (w : World) (hv : RdVS w (.slice (some ad) n cap) l) (hn : n = l.length) (hne : 0 < n) (hl : n ≤ 1000000) :
    Calls Try.prog 47 #[.slice (some ad) n cap] w (CloPVS l n w) := by
  obtain ⟨i0, hi, hz0, hz1, hz2⟩ := info_parts infoVS
  have HV := Lib.hid hv
  have qT : ∀ w : World, (binOp .eql 40 (.slice (some ad) n cap) (.slice none 0 0)).run Try.prog w = .ok (.bool false) w := fun w => Lib.run_eql_slice_nil w _ _ _ _ _ _ _ Try.underlying40
  have HN := Lib.hid hn
  clear hv hn
  go_enter Try.func47, Try.ntmps47
  go_wp2_with (at_builtin; refine hold ?_)
  intro _
  refine wpList_appendF (by rfl) _ _ 40 (by rfl) w.heap.size 65 i0 _ 3 32 Try.underlying40 hi hz0 hz1 hz2 rfl (by decide) _ 0 [] (by rfl) (World.ownsRow_made w #[] 0 (Nat.le_refl _) (by decide) rfl) _ (l.map cellsVS) (cellsVS_len l) onesVS (by rfl) (RdF.below HV.out (below_alloc w _) (Nat.le_refl _)) (fun c h => by cases h) (by rw [List.length_map, ← HN.out]; simp [maxLen]; omega) (by rw [List.length_map, ← HN.out]; omega) (by simp) ?_
  intro v' w' ho hg
  have ho' := own0VS ho (by simp)
  have hb' : Below w.heap.size w w' := (below_alloc w _).grown hg (by simp) (fun k hk => by simp [Value.ownBlock] at hk; omega)
  rcases Joins.ownsRow_forms ho' with ⟨_, h0⟩ | ⟨g, c, rfl⟩
  · exfalso; rw [← HN.out] at h0; omega
  · have HX := Lib.hid (And.intro ho' hb')
    have hnl : n = l.length := HN.out
    rw [← hnl] at HX ⊢
    clear ho ho' hg hb' hnl
    go_wp2_with fail
    go_ret
    exact ⟨g, c, rfl, by have := HX.out.1; rw [HN.out] at this ⊢; exact this, HX.out.2⟩
/-- A key taken away. -/
theorem delSVS_any {W : World} {B s mb : Nat} {t : Tr} {P Q : ChsVS} {key : List UInt8} {y : ChVS} {cnt low : Int} {k : Nat} (h : StVS W B s mb t (P ++ (key, y) :: Q) cnt low k) (hk : k ≤ 1000000) :
    Calls Try.prog 45 #[.pointer (some ⟨mb, 0, none⟩), str key] W fun e W8 => e = .returned (.bool (hasT (str key) t)) ∧
      StVS W8 B s mb (remT (str key) t) (P ++ Q) cnt low k ∧ Frm (fun i => i = mb) W W8 := by
  have hprl : (prs t).length ≤ k := by rw [h.pr, List.length_map]; exact h.hk.2.1
  refine (mdelVS_any mb (str key) t W h.mp (keySVS key) h.ws (by have := h.hk.1; omega) (by omega)).mono ?_
  rintro e W8 ⟨rfl, hm8, ho8, hb8⟩
  have f8 : Frm (fun i => i = mb) W W8 := Frm.of_only ho8 hb8 rfl
  obtain ⟨ws1, ws2⟩ := WS.rem (k := str key) h.ws
  have sub : (P ++ Q).Sublist (P ++ (key, y) :: Q) := List.Sublist.append (List.Sublist.refl _) (List.sublist_cons_self _ _)
  refine ⟨rfl, ⟨?_, hm8, ws1, ?_, h.rs.sublist sub, ?_, h.ap.sublist sub, fun x hx => h.tr x (sub.subset hx), ⟨by have := h.hk.1; omega, Nat.le_trans sub.length_le h.hk.2.1, fun x hx => h.hk.2.2 x (sub.subset hx)⟩, h.lo⟩, f8⟩
  · rw [f8.block s h.slt h.ne]; exact h.box
  · rw [(prs_rem ordVS (keySVS key) h.ws h.ris).1, h.pr]
    exact delL_mid h.rs
  · intro x hx
    exact owns_frm (h.ch x (sub.subset hx)) f8 (fun i hi => (h.apart (sub.subset hx) hi).1)
/-- A slice without its first ones. -/
theorem RdVS.drop {w : World} {b off n cap : Nat} {l : List VerVS} (h : RdVS w (.slice (some ⟨b, off, none⟩) n cap) l) (j : Nat) (hj : j ≤ l.length) : RdVS w (.slice (some ⟨b, off + j * 3, none⟩) (n - j) (cap - j)) (l.drop j) := by
  obtain ⟨a', c', he, h1, h2, h3, h4⟩ := h
  simp only [Value.slice.injEq] at he
  obtain ⟨rfl, hn, rfl⟩ := he
  rw [List.length_map] at hn h1 h2
  subst hn
  refine ⟨some ⟨b, off + j * 3, none⟩, cap - j, by rw [List.length_map, List.length_drop], by simp; omega, by simp; omega, by omega, fun hne => ⟨b, off + j * 3, rfl, fun i hi u v hu => ?_⟩⟩
  obtain ⟨b', off', ha, hc⟩ := h4 (by rintro e; apply hne; rw [List.map_eq_nil_iff] at e; rw [e]; simp)
  simp only [Option.some.injEq, Addr.mk.injEq] at ha
  obtain ⟨rfl, rfl, _⟩ := ha
  have hi' : i < l.length - j := by simpa using hi
  have := hc (j + i) (by simp; omega) u v (by simpa using hu)
  rw [show off + j * 3 + i * 3 + u = off + (j + i) * 3 + u by rw [Nat.add_mul]; omega]
  exact this
/-- A key's chain put anew. -/
theorem putMVS_any {W0 W7 : World} {B s mb : Nat} {t : Tr} {P Q : ChsVS} {key : List UInt8} {y : ChVS} {cnt low : Int} {k : Nat} (h : StVS W0 B s mb t (P ++ (key, y) :: Q) cnt low k) (hk : k ≤ 1000000) (l' : List VerVS) (g n cap : Nat)
    (ho : W7.ownsRow B 65 3 (.slice (some ⟨g, 0, none⟩) n cap) l'.length (l'.map cellsVS).flatten) (hb : Below W0.heap.size W0 W7) (hr : RisT (timesVS l')) (hl : l'.length ≤ k) (hg : W0.heap.size ≤ g) :
    Calls Try.prog 46 #[.pointer (some ⟨mb, 0, none⟩), str key, .slice (some ⟨g, 0, none⟩) n cap] W7 fun e W8 => e = .returned (.bool (newT (str key) t)) ∧
      StVS W8 B s mb (putT (str key) (.slice (some ⟨g, 0, none⟩) n cap) t) (P ++ (key, (.slice (some ⟨g, 0, none⟩) n cap, l')) :: Q) cnt low (k + 1) ∧ Frm (BlkVS s mb (P ++ (key, y) :: Q)) W0 W8 := by
  refine (putSVS_any h hk key l' g n cap ho (Frm.of_below hb) hr (by omega) (.inr hg)).mono ?_
  rintro e W8 ⟨rfl, h1, h2⟩
  rw [insB_mid h.rs] at h1
  exact ⟨rfl, h1, h2.mono (fun i _ hi => valSVS_blk hi)⟩
end Go.Proofs.Ytdlacjdddjebgaa
