/- OmapTexts: words and contracts. -/
import Derived.Test.YtdkplhfbcpobaaaFirstO
import Derived.Test.YtdkplhfbcpobaaaAllSI
import Derived.Test.YtdkplhfbcpobaaaKeysSI
import Derived.Test.YtdkplhfbcpobaaaTakeSI
import Derived.Test.YtdkplhfbcpobaaaGetSI
import Derived.Test.YtdkplhfbcpobaaaKindsMath
import Derived.Test.YtdkplhfbcpobaaaUnique
namespace Go.Proofs.Ytdkplhfbcpobaaa
open Go.RowKit

theorem less_str (a b : List UInt8) : lessV (str a) (str b) = Op.bytesLess a b := by simp [lessV]
theorem insL_keys (x : List UInt8) (v : Value) : ∀ (L : List (Value × Value)) (l : List (List UInt8)), L.map (·.1) = l.map str → (insL (str x) v L).map (·.1) = (insU x l).map str
  | [], [], _ => rfl
  | [], _ :: _, h => by simp at h
  | _ :: _, [], h => by simp at h
  | (k, y) :: L, a :: l, h => by
    simp only [List.map_cons, List.cons.injEq] at h
    obtain ⟨rfl, h⟩ := h
    unfold insL insU
    rw [less_str, less_str]
    split
    · simp [h]
    · split
      · have := insL_keys x v L l h
        simp [this]
      · rename_i g1 g2
        have e : x = a := bl_tot x a (by simpa using g1) (by simpa using g2)
        subst e
        simp [h]
/-- A map of the first k texts of l to the places where they stand. -/
structure SInv (l : List (List UInt8)) (W : World) (b k : Nat) (t : Tr) : Prop where
  mp : MP W b t
  ws : WS KSSI VSSI t
  rs : Ris (prs t)
  ht : ht t ≤ k
  len : (prs t).length ≤ k
  keys : (prs t).map (·.1) = (uniqF (l.take k)).map str
  got : ∀ j (h : j < l.length), j < k → ∃ m : Nat, j ≤ m ∧ m < k ∧ l[m]? = some l[j] ∧ getL (str l[j]) (prs t) = some (.int .i64 (m : Int))
theorem SInv.below {l : List (List UInt8)} {W W' : World} {b k : Nat} {t : Tr} (h : SInv l W b k t) (hb : Below W.heap.size W W') : SInv l W' b k t := ⟨h.mp.below hb, h.ws, h.rs, h.ht, h.len, h.keys, h.got⟩
theorem SInv.put {l : List (List UInt8)} {W W' : World} {b i : Nat} {t : Tr} (h : SInv l W b i t) (hi : i < l.length) (hm : MP W' b (putT (str l[i]) (.int .i64 (i : Int)) t)) : SInv l W' b (i + 1) (putT (str l[i]) (.int .i64 (i : Int)) t) := by
  have ks : ∀ j (hj : j < l.length), KSSI (str l[j]) := fun j hj => ⟨_, rfl⟩
  have hv : VSSI (.int .i64 (i : Int)) := ⟨_, rfl⟩
  have hw := WS.put (k := str l[i]) (x := .int .i64 (i : Int)) (ks i hi) hv h.ws
  have hp := prs_put ordSI (x := .int .i64 (i : Int)) (ks i hi) h.ws h.rs
  have hkeys : ∀ p ∈ prs t, KSSI p.1 := fun p hp => (ws_keys h.ws p hp).1
  refine ⟨hm, hw.1, by rw [hp]; exact (ris_ins ordSI (ks i hi) hkeys h.rs).1, by have := h.ht; have := hw.2; omega, ?_, ?_, ?_⟩
  · rw [len_put]
    have := h.len
    split <;> omega
  · rw [hp, insL_keys _ _ _ _ h.keys, List.take_add_one, List.getElem?_eq_getElem hi]
    show _ = (uniqF (l.take i ++ [l[i]])).map str
    rw [uniqF_snoc]
  · intro j hj hji
    rw [hp, getL_ins ordSI (ks i hi) (ks j hj) hkeys h.rs]
    by_cases e : l[j] = l[i]
    · rw [if_pos (by rw [e])]
      refine ⟨i, by omega, by omega, ?_, rfl⟩
      rw [e]; simp [hi]
    · rw [if_neg (by simpa using e)]
      have hlt : j < i := by
        rcases Nat.lt_or_ge j i with h | h
        · exact h
        · obtain rfl : j = i := by omega
          exact absurd rfl e
      obtain ⟨m, a, b, c, d⟩ := h.got j hj hlt
      exact ⟨m, a, by omega, c, d⟩
/-- Its first keys. -/
theorem take_allS {l : List (List UInt8)} {w : World} {b k : Nat} {t : Tr} (h : SInv l w b k t) (hk : k ≤ 1000000) (n : Int) (hn : 1 ≤ n) :
    ∀ w2, w2 = (w.alloc (.cells #[.pointer (some ⟨b, 0, none⟩)] 60)).alloc (.cells #[.func (.func 57) #[] #[.pointer (some ⟨w.heap.size, 0, none⟩)]] 68) →
      Calls Try.prog 30 #[.func (.func 56) #[] #[.pointer (some ⟨w.heap.size + 1, 0, none⟩)], .int .i64 n] w2 (TakePSI w2 (((prs t).take n.toNat).map (·.1))) := by
  rintro w2 rfl
  have b0 := Boxed.new w 60 (.pointer (some ⟨b, 0, none⟩))
  have bx := Boxed.new (w.alloc (.cells #[.pointer (some ⟨b, 0, none⟩)] 60)) 68 (.func (.func 57) #[] #[.pointer (some ⟨w.heap.size, 0, none⟩)])
  rw [World.size_alloc] at bx
  refine takeSI_any (xs := prs t) (Ok := NK (w.alloc (.cells #[.pointer (some ⟨b, 0, none⟩)] 60))) (gf := 56) (lb := #[.pointer (some ⟨w.heap.size + 1, 0, none⟩)]) n hn (by have := h.len; omega) (fun p hp => (ws_keys h.ws p hp).1) (enters_of Try.func56 (by kernel_rfl) rfl)
    (fun W hW => NK.of_below ((below_alloc _ _).trans (hW.mono (by simp)))) (fun W hW => ?_)
  refine keyssSI_any (gf := 57) (lb := #[.pointer (some ⟨w.heap.size, 0, none⟩)]) (enters_of Try.func57 (by kernel_rfl) rfl) (fun W' hW' => ?_)
    ((hW.cell (p := ⟨w.heap.size + 1, 0, none⟩) (by simp)).trans bx.cell) (by decide)
  have hsz := hW.size
  simp only [World.size_alloc] at hsz
  exact allsSI_any (h.mp.below (below_alloc w _)) b0.cell (((below_alloc _ _).trans (hW.mono (by simp))).trans (hW'.mono (by simp; omega)))
end Go.Proofs.Ytdkplhfbcpobaaa
