/- A store of versions of int: what Prune calls: slices.Clone, a key taken away. -/
import Derived.Test.YtdlacjdddjebgaaVOpsVI
import Derived.Lib.SliceRun
import Derived.Lib.SmallJoins
namespace Go.Proofs.Ytdlacjdddjebgaa
open Go.RowKit

theorem onesVI {l : List VerVI} : ∀ u ∈ (l.map cellsVI).flatten, u.oneCell' = true := by
  intro u hu
  obtain ⟨r, hr, hu⟩ := List.mem_flatten.1 hu
  obtain ⟨c, _, rfl⟩ := List.mem_map.1 hr
  simp only [cellsVI, List.mem_cons, List.not_mem_nil, or_false] at hu
  rcases hu with rfl | rfl | rfl <;> rfl
theorem own0VI {w : World} {base : Nat} {v : Value} {l : List VerVI} {n : Nat} (h : w.ownsRow base 98 3 v (0 + n) ([] ++ (l.map cellsVI).flatten)) (hn : n = l.length) : w.ownsRow base 98 3 v l.length (l.map cellsVI).flatten := by
  subst hn; simpa using h
/-- Cloned: a row of its own. -/
def CloPVI (l : List VerVI) (n : Nat) (w : World) (e : Ending) (w' : World) : Prop := ∃ g c, e = .returned (.slice (some ⟨g, 0, none⟩) n c) ∧ w'.ownsRow w.heap.size 98 3 (.slice (some ⟨g, 0, none⟩) n c) l.length (l.map cellsVI).flatten ∧ Below w.heap.size w w'
theorem cloneVI_any (ad : Addr) (n cap : Nat) (l : List VerVI) (w : World) (hv : RdVI w (.slice (some ad) n cap) l) (hn : n = l.length) (hne : 0 < n) (hl : n ≤ 1000000) :
    Calls Try.prog 61 #[.slice (some ad) n cap] w (CloPVI l n w) := by
  obtain ⟨i0, hi, hz0, hz1, hz2⟩ := info_parts infoVI
  have HV := Lib.hid hv
  have qT : ∀ w : World, (binOp .eql 93 (.slice (some ad) n cap) (.slice none 0 0)).run Try.prog w = .ok (.bool false) w := fun w => Lib.run_eql_slice_nil w _ _ _ _ _ _ _ Try.underlying93
  have HN := Lib.hid hn
  clear hv hn
  go_enter Try.func61, Try.ntmps61
  go_wp2_with (at_builtin; refine hold ?_)
  intro _
  refine wpList_appendF (by rfl) _ _ 93 (by rfl) w.heap.size 98 i0 _ 3 24 Try.underlying93 hi hz0 hz1 hz2 rfl (by decide) _ 0 [] (by rfl) (World.ownsRow_made w #[] 0 (Nat.le_refl _) (by decide) rfl) _ (l.map cellsVI) (cellsVI_len l) onesVI (by rfl) (RdF.below HV.out (below_alloc w _) (Nat.le_refl _)) (fun c h => by cases h) (by rw [List.length_map, ← HN.out]; simp [maxLen]; omega) (by rw [List.length_map, ← HN.out]; omega) (by simp) ?_
  intro v' w' ho hg
  have ho' := own0VI ho (by simp)
  have hb' : Below w.heap.size w w' := (below_alloc w _).grown hg (by simp) (fun k hk => by simp [Value.ownBlock] at hk; omega)
  rcases Joins.ownsRow_forms ho' with ⟨_, h0⟩ | ⟨g, c, rfl⟩
  · exfalso; rw [← HN.out] at h0; omega
  · have HX := Lib.hid (And.intro ho' hb')
    have hnl : n = l.length := HN.out
    rw [← hnl] at HX ⊢
    clear ho ho' hg hb' hnl
    go_wp2_with fail
    go_ret
    exact ⟨g, c, rfl, by have := HX.out.1; rw [HN.out] at this ⊢; exact this, HX.out.2⟩
/-- A key taken away. -/
theorem delSVI_any {W : World} {B s mb : Nat} {t : Tr} {P Q : ChsVI} {key : List UInt8} {y : ChVI} {cnt low : Int} {k : Nat} (h : StVI W B s mb t (P ++ (key, y) :: Q) cnt low k) (hk : k ≤ 1000000) :
    Calls Try.prog 59 #[.pointer (some ⟨mb, 0, none⟩), str key] W fun e W8 => e = .returned (.bool (hasT (str key) t)) ∧
      StVI W8 B s mb (remT (str key) t) (P ++ Q) cnt low k ∧ Frm (fun i => i = mb) W W8 := by
  have hprl : (prs t).length ≤ k := by rw [h.pr, List.length_map]; exact h.hk.2.1
  refine (mdelVI_any mb (str key) t W h.mp (keySVI key) h.ws (by have := h.hk.1; omega) (by omega)).mono ?_
  rintro e W8 ⟨rfl, hm8, ho8, hb8⟩
  have f8 : Frm (fun i => i = mb) W W8 := Frm.of_only ho8 hb8 rfl
  obtain ⟨ws1, ws2⟩ := WS.rem (k := str key) h.ws
  have sub : (P ++ Q).Sublist (P ++ (key, y) :: Q) := List.Sublist.append (List.Sublist.refl _) (List.sublist_cons_self _ _)
  refine ⟨rfl, ⟨?_, hm8, ws1, ?_, h.rs.sublist sub, ?_, h.ap.sublist sub, fun x hx => h.tr x (sub.subset hx), ⟨by have := h.hk.1; omega, Nat.le_trans sub.length_le h.hk.2.1, fun x hx => h.hk.2.2 x (sub.subset hx)⟩, h.lo⟩, f8⟩
  · rw [f8.block s h.slt h.ne]; exact h.box
  · rw [(prs_rem ordVI (keySVI key) h.ws h.ris).1, h.pr]
    exact delL_mid h.rs
  · intro x hx
    exact owns_frm (h.ch x (sub.subset hx)) f8 (fun i hi => (h.apart (sub.subset hx) hi).1)
/-- A slice without its first ones. -/
theorem RdVI.drop {w : World} {b off n cap : Nat} {l : List VerVI} (h : RdVI w (.slice (some ⟨b, off, none⟩) n cap) l) (j : Nat) (hj : j ≤ l.length) : RdVI w (.slice (some ⟨b, off + j * 3, none⟩) (n - j) (cap - j)) (l.drop j) := by
  obtain ⟨a', c', he, h1, h2, h3, h4⟩ := h
  simp only [Value.slice.injEq] at he
  obtain ⟨rfl, hn, rfl⟩ := he
  rw [List.length_map] at hn h1 h2
  subst hn
  refine ⟨some ⟨b, off + j * 3, none⟩, cap - j, by rw [List.length_map, List.length_drop], by simp; omega, by simp; omega, by omega, fun hne => ⟨b, off + j * 3, rfl, fun i hi u v hu => ?_⟩⟩
  obtain ⟨b', off', ha, hc⟩ := h4 (by rintro e; apply hne; rw [List.map_eq_nil_iff] at e; rw [e]; simp)
  simp only [Option.some.injEq, Addr.mk.injEq] at ha
  obtain ⟨rfl, rfl, _⟩ := ha
  have hi' : i < l.length - j := by simpa using hi
  have := hc (j + i) (by simp; omega) u v (by simpa using hu)
  rw [show off + j * 3 + i * 3 + u = off + (j + i) * 3 + u by rw [Nat.add_mul]; omega]
  exact this
/-- A key's chain put anew. -/
theorem putMVI_any {W0 W7 : World} {B s mb : Nat} {t : Tr} {P Q : ChsVI} {key : List UInt8} {y : ChVI} {cnt low : Int} {k : Nat} (h : StVI W0 B s mb t (P ++ (key, y) :: Q) cnt low k) (hk : k ≤ 1000000) (l' : List VerVI) (g n cap : Nat)
    (ho : W7.ownsRow B 98 3 (.slice (some ⟨g, 0, none⟩) n cap) l'.length (l'.map cellsVI).flatten) (hb : Below W0.heap.size W0 W7) (hr : RisT (timesVI l')) (hl : l'.length ≤ k) (hg : W0.heap.size ≤ g) :
    Calls Try.prog 60 #[.pointer (some ⟨mb, 0, none⟩), str key, .slice (some ⟨g, 0, none⟩) n cap] W7 fun e W8 => e = .returned (.bool (newT (str key) t)) ∧
      StVI W8 B s mb (putT (str key) (.slice (some ⟨g, 0, none⟩) n cap) t) (P ++ (key, (.slice (some ⟨g, 0, none⟩) n cap, l')) :: Q) cnt low (k + 1) ∧ Frm (BlkVI s mb (P ++ (key, y) :: Q)) W0 W8 := by
  refine (putSVI_any h hk key l' g n cap ho (Frm.of_below hb) hr (by omega) (.inr hg)).mono ?_
  rintro e W8 ⟨rfl, h1, h2⟩
  rw [insB_mid h.rs] at h1
  exact ⟨rfl, h1, h2.mono (fun i _ hi => valSVI_blk hi)⟩
end Go.Proofs.Ytdlacjdddjebgaa
