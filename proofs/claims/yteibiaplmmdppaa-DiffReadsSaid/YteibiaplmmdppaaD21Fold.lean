/- diff.Fold[string]: changes done to a copy. -/
import Derived.Test.YteibiaplmmdppaaOfFSS
import Derived.Test.YteibiaplmmdppaaDelSS
import Derived.Test.YteibiaplmmdppaaTISS
import Derived.Test.YteibiaplmmdppaaRdV
import Derived.Test.YteibiaplmmdppaaMrgMath
import Derived.Test.YteibiaplmmdppaaRowsF
namespace Go.Proofs.Yteibiaplmmdppaa
open Go.RowKit

theorem del_mem (k : Value) : ∀ {l : List (Value × Value)} {p : Value × Value}, p ∈ delL k l → p ∈ l
  | [], _, h => by simp [delL] at h
  | (k', x') :: t, p, h => by
    unfold delL at h
    split at h
    · exact h
    · split at h
      · rcases List.mem_cons.1 h with rfl | h
        · simp
        · simp [del_mem k h]
      · simp [h]
theorem ris_del (k : Value) : ∀ {l : List (Value × Value)}, Ris l → Ris (delL k l)
  | [], _ => by simp [delL, Ris]
  | (k', x') :: t, h => by
    obtain ⟨h1, h2⟩ := h
    unfold delL
    split
    · exact ⟨h1, h2⟩
    · split
      · exact ⟨fun q hq => h1 q (del_mem k hq), ris_del k h2⟩
      · exact h2
theorem TISS.rem {W W' : World} {b k : Nat} {t : Tr} (h : TISS W b k t) {x : Value} (hx : KSSS x) (hm : MP W' b (remT x t)) : TISS W' b k (remT x t) ∧ prs (remT x t) = delL x (prs t) := by
  have hp := (prs_rem ordSS hx h.ws h.rs).1
  have hw := WS.rem (k := x) h.ws
  have hl := len_rem x t
  exact ⟨⟨hm, hw.1, by rw [hp]; exact ris_del x h.rs, by have := h.ht; have := hw.2; omega, by have := h.len; split at hl <;> omega⟩, hp⟩
/-- A change done. -/
def chgDo (s : List (Value × Value)) (c : ChgT) : List (Value × Value) := if c.2.2 = true then delL (str c.1) s else insL (str c.1) (str c.2.1) s
def foldV (s : List (Value × Value)) (L : List ChgT) : List (Value × Value) := L.foldl chgDo s
theorem foldV_succ (s : List (Value × Value)) {L : List ChgT} {k : Nat} (hlt : k < L.length) : foldV s (L.take (k + 1)) = chgDo (foldV s (L.take k)) L[k] := by
  unfold foldV
  rw [List.take_succ_eq_append_getElem hlt, List.foldl_append]
  rfl
/-- Under way. -/
def FoldAt (w W : World) (b n k : Nat) (s : List (Value × Value)) (L : List ChgT) : Prop := Below w.heap.size w W ∧ w.heap.size ≤ b ∧ ∃ t, TISS W b (n + k) t ∧ prs t = foldV s (L.take k)
def FoldE (w : World) (n : Nat) (s : List (Value × Value)) (L : List ChgT) (e : Ending) (w' : World) : Prop := ∃ b t, e = .returned (.pointer (some ⟨b, 0, none⟩)) ∧ w.heap.size ≤ b ∧ TISS w' b (n + L.length) t ∧ prs t = foldV s L ∧ Below w.heap.size w w'
set_option maxRecDepth 100000 in
set_option maxHeartbeats 4000000 in
theorem fold_any (va v : Value) (L : List ChgT) (n : Nat) (t0 : Tr) (w : World) (ha : MOSS w va t0) (hw0 : WS KSSS VSSS t0) (hr0 : Ris (prs t0)) (hh0 : ht t0 ≤ n) (hl0 : (prs t0).length ≤ n) (hn : n ≤ 1000000) (hv : RdC w v L) (hl : L.length ≤ 1000000) :
    Calls Try.prog 20 #[va, v] w (FoldE w n (prs t0) L) := by
  obtain ⟨av, cv, rfl, _⟩ := hv.form
  have HV := Lib.hid hv
  have C := Lib.hid (copyOfSS_any va t0 w ha)
  have H0 := Lib.hid (And.intro hw0 (And.intro hr0 (And.intro hh0 hl0)))
  clear hv ha hw0 hr0 hh0 hl0
  go_enter Try.func20, Try.ntmps20
  go_wp2_with fail
  refine C.out.mono ?_
  rintro e w1 ⟨b, rfl, hb, hm, hb1⟩
  have H1 : Hid (FoldAt w w1 b n 0 (prs t0) L) := Lib.hid ⟨hb1, hb, t0, ⟨hm, H0.out.1, H0.out.2.1, by have := H0.out.2.2.1; omega, by have := H0.out.2.2.2; omega⟩, by rw [List.take_zero]; rfl⟩
  clear hb hm hb1 C
  go_wp2_with fail
  go_loopw [12] (fun i wr => ∃ k : Nat, k ≤ L.length ∧ i = .int .i64 (k : Int) ∧ Hid (FoldAt w wr b n k (prs t0) L)) (fun i _ => L.length - (intOf i).toNat)
  case atStart => exact ⟨0, Nat.zero_le _, rfl, H1⟩
  case round =>
    obtain ⟨k, hk, rfl, HR⟩ := hrel
    by_cases hlt : k < L.length
    · have g3 : (k : Int) < (L.length : Int) := by omega
      have g4 : (0 : Int) ≤ (k : Int) := by omega
      obtain ⟨bA, oA, rfl, c0, c1, c2⟩ := HV.out.get hlt
      obtain ⟨h1, h2, t, h3, h4⟩ := HR.out
      have hS := foldV_succ (prs t0) hlt
      obtain ⟨⟨ck, cv1, cg⟩, hc⟩ : ∃ c, c = L[k] := ⟨_, rfl⟩
      rw [← hc] at c0 c1 c2 hS
      dsimp only at c0 c1 c2
      have hlA := World.block_lt_of_cell? w _ c0
      have d0 : wr.cell? ⟨bA, oA + k * 3, none⟩ = some (str ck) := (h1.cell (p := ⟨bA, oA + k * 3, none⟩) hlA).trans c0
      have d1 : wr.cell? ⟨bA, oA + k * 3 + 1, none⟩ = some (str cv1) := (h1.cell (p := ⟨bA, oA + k * 3 + 1, none⟩) hlA).trans c1
      have d2 : wr.cell? ⟨bA, oA + k * 3 + 2, none⟩ = some (.bool cg) := (h1.cell (p := ⟨bA, oA + k * 3 + 2, none⟩) hlA).trans c2
      have hx := below_alloc wr (.cells #[str ck, str cv1, .bool cg] 48)
      have HS := Lib.hid hS
      have HX := Lib.hid (And.intro (h1.trans (hx.mono h1.size)) (And.intro h2 (And.intro (h3.below hx) h4)))
      have CP := Lib.hid (mputSS_any b (str ck) (str cv1) t (wr.alloc (.cells #[str ck, str cv1, .bool cg] 48)) (h3.below hx).mp ⟨_, rfl⟩ ⟨_, rfl⟩ h3.ws (by have := h3.ht; omega) (by have := h3.len; omega))
      have CD := Lib.hid (mdelSS_any b (str ck) t (wr.alloc (.cells #[str ck, str cv1, .bool cg] 48)) (h3.below hx).mp ⟨_, rfl⟩ h3.ws (by have := h3.ht; omega) (by have := h3.len; omega))
      clear c0 c1 c2 hc hlA h1 h2 h3 h4 hx hS HV HR H0 H1
      cases cg with
      | true =>
        go_wp2_with fail
        refine CD.out.mono ?_
        rintro e w3 ⟨rfl, hm3, ho3, hb3⟩
        have HN : Hid (FoldAt w w3 b n (k + 1) (prs t0) L) := by
          obtain ⟨q1, q2, q3, q4⟩ := HX.out
          obtain ⟨r1, r2⟩ := q3.rem ⟨_, rfl⟩ hm3
          exact Lib.hid ⟨q1.trans (hb3.mono q2), q2, _, ⟨r1.mp, r1.ws, r1.rs, by have := r1.ht; omega, by have := r1.len; omega⟩, by rw [r2, q4, HS.out]; rfl⟩
        clear hm3 ho3 hb3 CP CD HX
        go_wp2_with fail
        go_roundw
        case rel => exact ⟨k + 1, by omega, by go_num, HN⟩
        case measure => simp [intOf]; omega
      | false =>
        go_wp2_with fail
        refine CP.out.mono ?_
        rintro e w3 ⟨rfl, hm3, ho3, hb3⟩
        have HN : Hid (FoldAt w w3 b n (k + 1) (prs t0) L) := by
          obtain ⟨q1, q2, q3, q4⟩ := HX.out
          obtain ⟨r1, r2⟩ := q3.put (v := str cv1) ⟨_, rfl⟩ ⟨_, rfl⟩ hm3
          exact Lib.hid ⟨q1.trans (hb3.mono q2), q2, _, ⟨r1.mp, r1.ws, r1.rs, by have := r1.ht; omega, by have := r1.len; omega⟩, by rw [r2, q4, HS.out]; rfl⟩
        clear hm3 ho3 hb3 CP CD HX
        go_wp2_with fail
        go_roundw
        case rel => exact ⟨k + 1, by omega, by go_num, HN⟩
        case measure => simp [intOf]; omega
    · obtain rfl : k = L.length := by omega
      have g3 : ¬ (L.length : Int) < (L.length : Int) := by omega
      clear HV H0 H1
      go_wp2_with fail
      go_ret
      obtain ⟨h1, h2, t, h3, h4⟩ := HR.out
      exact ⟨b, t, rfl, h2, h3, by rw [h4, List.take_length], h1⟩
end Go.Proofs.Yteibiaplmmdppaa
