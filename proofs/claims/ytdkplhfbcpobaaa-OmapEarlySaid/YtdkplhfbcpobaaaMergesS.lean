/- OmapMerges: two maps and rows; slices' beginnings. -/
import Derived.Test.YtdkplhfbcpobaaaMergesM
import Derived.Test.YtdkplhfbcpobaaaRPut
namespace Go.Proofs.Ytdkplhfbcpobaaa
open Go.RowKit

section
variable {W₀ W : World} {b bx n : Nat} {t : Tr} {L : List (Int × List UInt8)}
theorem bool_of (p : Prop) : ∃ Z : Bool, Z = true ↔ p := ⟨@decide p (Classical.propDecidable p), by simp⟩
/-- Put, of the map. -/
theorem mput_pi (h : PI W₀ W b bx t L n) (hn : n ≤ 1000000) {k : Int} (hk : KSIS (.int .i64 k)) (v : List UInt8) :
    Calls Try.prog 11 #[.pointer (some ⟨b, 0, none⟩), .int .i64 k, str v] W fun e W' => e = .returned (.bool (newT (.int .i64 k) t)) ∧ PI W₀ W' b bx (putT (.int .i64 k) (str v) t) L (n + 1) ∧ Only b W W' ∧ Below b W W' := by
  have := h.tv.ht
  have := h.tv.len
  refine (mputIS_any b _ _ t W h.tv.mp hk ⟨_, rfl⟩ h.tv.ws (by omega) (by omega)).mono ?_
  rintro e W' ⟨rfl, hm, ho, hb⟩
  exact ⟨rfl, h.map (h.tv.put hk ⟨_, rfl⟩ hm) ho hb, ho, hb⟩
/-- put, of the rows. -/
theorem rput_pi (h : PI W₀ W b bx t L n) (hL : L.length ≤ 1000000) (k : Int) (v : List UInt8) : ∃ Z : Bool,
    Calls Try.prog 12 #[.pointer (some ⟨bx, 0, none⟩), .int .i64 k, str v] W fun e W' => e = .returned (.bool Z) ∧ PI W₀ W' b bx t (insK k v L) n ∧ ∃ vo, RowsP W bx (bx + 1) vo L ∧ FrR W W' bx (bx + 1) vo := by
  obtain ⟨vo, h1, _⟩ := h.rw
  obtain ⟨Z, hZ⟩ := bool_of (¬ ∃ p ∈ L, p.1 = k)
  refine ⟨Z, (rput_any h1 (by omega) k v hL).mono ?_⟩
  rintro e W' ⟨z, vo', rfl, hz, h2, hf⟩
  have e : z = Z := by
    rw [← hZ] at hz
    cases z <;> cases Z <;> simp at hz ⊢
  subst e
  exact ⟨rfl, h.rows h1 hf h2 (.inl (insK_ne k v L)), vo, h1, hf⟩
end
/-- Two maps beside rows. -/
structure MS (W₀ W : World) (b1 b2 bx : Nat) (t1 t2 : Tr) (L : List (Int × List UInt8)) (n1 n2 : Nat) : Prop where
  p1 : PI W₀ W b1 bx t1 L n1
  p2 : PI W₀ W b2 bx t2 L n2
  ne : b1 ≠ b2
section
variable {W₀ W W' : World} {b1 b2 bx n1 n2 : Nat} {t1 t2 : Tr} {L : List (Int × List UInt8)}
theorem MS.below (h : MS W₀ W b1 b2 bx t1 t2 L n1 n2) (hb : Below W.heap.size W W') : MS W₀ W' b1 b2 bx t1 t2 L n1 n2 := ⟨h.p1.below hb, h.p2.below hb, h.ne⟩
theorem MS.put1 (h : MS W₀ W b1 b2 bx t1 t2 L n1 n2) (hn : n1 ≤ 1000000) {k : Int} (hk : KSIS (.int .i64 k)) (v : List UInt8) :
    Calls Try.prog 11 #[.pointer (some ⟨b1, 0, none⟩), .int .i64 k, str v] W fun e W' => e = .returned (.bool (newT (.int .i64 k) t1)) ∧ Hid (MS W₀ W' b1 b2 bx (putT (.int .i64 k) (str v) t1) t2 L (n1 + 1) n2) := by
  refine (mput_pi h.p1 hn hk v).mono ?_
  rintro e W' ⟨rfl, h1, ho, hb⟩
  exact ⟨rfl, Lib.hid ⟨h1, h.p2.other h.p1 (Ne.symm h.ne) ho hb, h.ne⟩⟩
theorem MS.put2 (h : MS W₀ W b1 b2 bx t1 t2 L n1 n2) (hn : n2 ≤ 1000000) {k : Int} (hk : KSIS (.int .i64 k)) (v : List UInt8) :
    Calls Try.prog 11 #[.pointer (some ⟨b2, 0, none⟩), .int .i64 k, str v] W fun e W' => e = .returned (.bool (newT (.int .i64 k) t2)) ∧ Hid (MS W₀ W' b1 b2 bx t1 (putT (.int .i64 k) (str v) t2) L n1 (n2 + 1)) := by
  refine (mput_pi h.p2 hn hk v).mono ?_
  rintro e W' ⟨rfl, h1, ho, hb⟩
  exact ⟨rfl, Lib.hid ⟨h.p1.other h.p2 h.ne ho hb, h1, h.ne⟩⟩
theorem MS.rput (h : MS W₀ W b1 b2 bx t1 t2 L n1 n2) (hL : L.length ≤ 1000000) (k : Int) (v : List UInt8) : ∃ Z : Bool,
    Calls Try.prog 12 #[.pointer (some ⟨bx, 0, none⟩), .int .i64 k, str v] W fun e W' => e = .returned (.bool Z) ∧ Hid (MS W₀ W' b1 b2 bx t1 t2 (insK k v L) n1 n2) := by
  obtain ⟨Z, hC⟩ := rput_pi h.p1 hL k v
  refine ⟨Z, hC.mono ?_⟩
  rintro e W' ⟨rfl, h1, vo, h2, h3⟩
  obtain ⟨vo', h4, _⟩ := h1.rw
  exact ⟨rfl, Lib.hid ⟨h1, h.p2.rows h2 h3 h4 (.inl (insK_ne k v L)), h.ne⟩⟩
end
theorem rdv_take {w : World} {a : Option Addr} {n c : Nat} {l : List Value} (h : RdV w (.slice a n c) l) (k : Nat) (hk : k ≤ l.length) : RdV w (.slice a k c) (l.take k) := by
  obtain ⟨a', c', he, h1, h2⟩ := h
  simp only [Value.slice.injEq] at he
  obtain ⟨rfl, _, rfl⟩ := he
  have hl : (l.take k).length = k := by rw [List.length_take]; omega
  refine ⟨a, c, by rw [hl], by omega, fun hne => ?_⟩
  obtain ⟨b, off, ha, hc⟩ := h2 (by intro e; apply hne; simp [e])
  refine ⟨b, off, ha, fun i hi => ?_⟩
  rw [hc i (by omega)]
  simp
/-- The beginnings of two such slices. -/
theorem TwoV.take {w : World} {a1 a2 : Option Addr} {n1 n2 c1 c2 : Nat} {l : List (Int × List UInt8)} (h : TwoV w (.slice a1 n1 c1) (.slice a2 n2 c2) l) (k : Nat) (hk : k ≤ l.length) : TwoV w (.slice a1 k c1) (.slice a2 k c2) (l.take k) := by
  refine ⟨?_, ?_⟩
  · rw [List.map_take]; exact rdv_take h.1 k (by simpa using hk)
  · rw [List.map_take]; exact rdv_take h.2 k (by simpa using hk)
/-- What from tells, with its room. -/
theorem two_from_cap {w : World} {l : List (Int × List UInt8)} {e : Ending} {w' : World} (h : FromP w l e w') : ∃ a1 c1 a2 c2, e = .returned (.tuple #[.slice a1 l.length c1, .slice a2 l.length c2]) ∧ TwoV w' (.slice a1 l.length c1) (.slice a2 l.length c2) l ∧ l.length ≤ c1 ∧ l.length ≤ c2 ∧ Below w.heap.size w w' := by
  have h2 := two_from h
  obtain ⟨va, vb, rfl, ra, rb, hb⟩ := h
  obtain ⟨va', vb', he, ht, _⟩ := h2
  simp only [Ending.returned.injEq, Value.tuple.injEq, Array.mk.injEq, List.cons.injEq, and_true] at he
  obtain ⟨rfl, rfl⟩ := he
  obtain ⟨a1, c1, rfl, h1⟩ := row_cap ra
  obtain ⟨a2, c2, rfl, h2⟩ := row_cap rb
  exact ⟨a1, c1, a2, c2, rfl, ht, h1, h2, hb⟩
/-- What gather tells of all of a map. -/
theorem gather_all {w : World} {b k : Nat} {t : Tr} {LA : List (Int × List UInt8)} (h : TInv w b k t) (hA : LA.length ≤ 1000) (hp : prs t = LA.map encP) : ∀ W, Below (w.heap.size + 1) (w.alloc (.cells #[.pointer (some ⟨b, 0, none⟩)] 24)) W → Calls Try.prog 53 #[.func (.func 48) #[] #[.pointer (some ⟨w.heap.size, 0, none⟩)]] W (GatherP W (LA.map encP)) := by
  intro W hW
  rw [← hp]
  refine gather_any (Ok := NK (w.alloc (.cells #[.pointer (some ⟨b, 0, none⟩)] 24))) (by rw [hp]; simp; omega) (fun p hp => ws_keys h.ws p hp) (enters_of Try.func48 (by kernel_rfl) rfl) (fun W2 h2 => ?_) (fun W2 h2 => ?_)
  · have hs := hW.size
    rw [World.size_alloc] at hs
    exact NK.of_below (by rw [World.size_alloc]; exact hW.trans (h2.mono hs))
  · have hs := hW.size
    rw [World.size_alloc] at hs
    exact range_all h.mp W2 (hW.trans (h2.mono hs))
theorem keys_enc {w : World} {b k : Nat} {t : Tr} {LA : List (Int × List UInt8)} (h : TInv w b k t) (hp : prs t = LA.map encP) : ∀ p ∈ LA, KSIS (.int .i64 p.1) := fun p hq => (ws_keys h.ws (encP p) (by rw [hp]; exact List.mem_map_of_mem hq)).1
/-- All of two maps, merged. -/
theorem merge_two {w w5 w6 w7 : World} {b1 b2 k1 k2 : Nat} {t1 t2 : Tr} {LA LB : List (Int × List UInt8)} (h1 : TInv w b1 k1 t1) (h2 : TInv w b2 k2 t2) (hA : LA.length ≤ 1000) (hB : LB.length ≤ 1000) (p1 : prs t1 = LA.map encP) (p2 : prs t2 = LB.map encP)
    (e5 : w5 = w.alloc (.cells #[.pointer (some ⟨b1, 0, none⟩)] 24)) (e6 : w6 = w5.alloc (.cells #[.pointer (some ⟨b2, 0, none⟩)] 24)) (e7 : w7 = (w6.alloc (.cells #[.func (.func 48) #[] #[.pointer (some ⟨w.heap.size, 0, none⟩)]] 48)).alloc (.cells #[.func (.func 48) #[] #[.pointer (some ⟨w5.heap.size, 0, none⟩)]] 48)) :
    ∀ W, Below w7.heap.size w7 W → ∀ n : Int, Calls Try.prog 20 #[.func (.func 52) #[] #[.pointer (some ⟨w6.heap.size, 0, none⟩), .pointer (some ⟨w6.heap.size + 1, 0, none⟩)], .int .i64 n] W (TwoE W ((mergeK LA LB).take n.toNat)) := by
  have s5 : w5.heap.size = w.heap.size + 1 := by rw [e5]; simp
  have s6 : w6.heap.size = w.heap.size + 2 := by rw [e6]; simp; omega
  have l5 : Below w.heap.size w w5 := by rw [e5]; exact below_alloc w _
  have l6 : Below w5.heap.size w5 w6 := by rw [e6]; exact below_alloc w5 _
  have l7 : Below w6.heap.size w6 w7 := by rw [e7]; exact ((Below.refl _ w6).alloc (Nat.le_refl _) _).alloc (by simp) _
  have c0 : w7.cell? ⟨w6.heap.size, 0, none⟩ = some (.func (.func 48) #[] #[.pointer (some ⟨w.heap.size, 0, none⟩)]) := by rw [e7]; exact ((Boxed.new w6 _ _).alloc _).cell
  have c1 : w7.cell? ⟨w6.heap.size + 1, 0, none⟩ = some (.func (.func 48) #[] #[.pointer (some ⟨w5.heap.size, 0, none⟩)]) := by
    have := Boxed.new (w6.alloc (.cells #[.func (.func 48) #[] #[.pointer (some ⟨w.heap.size, 0, none⟩)]] 48)) 48 (.func (.func 48) #[] #[.pointer (some ⟨w5.heap.size, 0, none⟩)])
    rw [World.size_alloc] at this
    rw [e7]; exact this.cell
  have q1 : Below (w.heap.size + 1) (w.alloc (.cells #[.pointer (some ⟨b1, 0, none⟩)] 24)) w7 := by rw [← e5, ← s5]; exact l6.trans (l7.mono l6.size)
  have q2 : Below (w5.heap.size + 1) (w5.alloc (.cells #[.pointer (some ⟨b2, 0, none⟩)] 24)) w7 := by rw [← e6]; exact l7.mono (by omega)
  refine merge_run (va := .func (.func 48) #[] #[.pointer (some ⟨w.heap.size, 0, none⟩)]) hA hB (keys_enc h1 p1) (keys_enc h2 p2) (fun W' hW' => gather_all h1 hA p1 W' (q1.trans (hW'.mono (by have := l6.size; have := l7.size; omega)))) (enters_of Try.func48 (by kernel_rfl) rfl) (fun W' hW' => ?_) c0 c1
  rw [← p2]
  refine (range_all (h2.mp.below l5) W' (q2.trans (hW'.mono (by have := l7.size; omega)))).strict (fun W'' h => NK.trans (NK.of_below ?_) h)
  rw [← e6]; exact l7
/-- All of a map, merged with none. -/
theorem merge_one {w w5 w6 : World} {b1 k1 : Nat} {t1 : Tr} {LA : List (Int × List UInt8)} (h1 : TInv w b1 k1 t1) (hA : LA.length ≤ 1000) (p1 : prs t1 = LA.map encP)
    (e5 : w5 = w.alloc (.cells #[.pointer (some ⟨b1, 0, none⟩)] 24)) (e6 : w6 = (w5.alloc (.cells #[.func (.func 48) #[] #[.pointer (some ⟨w.heap.size, 0, none⟩)]] 48)).alloc (.cells #[.func (.func 51) #[] #[]] 48)) :
    ∀ W, Below w6.heap.size w6 W → ∀ n : Int, Calls Try.prog 20 #[.func (.func 52) #[] #[.pointer (some ⟨w5.heap.size, 0, none⟩), .pointer (some ⟨w5.heap.size + 1, 0, none⟩)], .int .i64 n] W (TwoE W (LA.take n.toNat)) := by
  have s5 : w5.heap.size = w.heap.size + 1 := by rw [e5]; simp
  have l6 : Below w5.heap.size w5 w6 := by rw [e6]; exact ((Below.refl _ w5).alloc (Nat.le_refl _) _).alloc (by simp) _
  have c0 : w6.cell? ⟨w5.heap.size, 0, none⟩ = some (.func (.func 48) #[] #[.pointer (some ⟨w.heap.size, 0, none⟩)]) := by rw [e6]; exact ((Boxed.new w5 _ _).alloc _).cell
  have c1 : w6.cell? ⟨w5.heap.size + 1, 0, none⟩ = some (.func (.func 51) #[] #[]) := by
    have := Boxed.new (w5.alloc (.cells #[.func (.func 48) #[] #[.pointer (some ⟨w.heap.size, 0, none⟩)]] 48)) 48 (.func (.func 51) #[] #[])
    rw [World.size_alloc] at this
    rw [e6]; exact this.cell
  have q1 : Below (w.heap.size + 1) (w.alloc (.cells #[.pointer (some ⟨b1, 0, none⟩)] 24)) w6 := by rw [← e5, ← s5]; exact l6
  have := merge_run (va := .func (.func 48) #[] #[.pointer (some ⟨w.heap.size, 0, none⟩)]) (LA := LA) (LB := []) hA (by simp) (keys_enc h1 p1) (by simp) (fun W' hW' => gather_all h1 hA p1 W' (q1.trans (hW'.mono (by have := l6.size; omega)))) (enters_of Try.func51 (by kernel_rfl) rfl) (fun W' _ => merg1_seqs W') c0 c1
  rw [mergeK_end] at this
  exact this
/-- None, merged with none. -/
theorem merge_none {w w6 : World} (e6 : w6 = (w.alloc (.cells #[.nilFunc] 48)).alloc (.cells #[.func (.func 51) #[] #[]] 48)) :
    ∀ W, Below w6.heap.size w6 W → ∀ n : Int, Calls Try.prog 20 #[.func (.func 52) #[] #[.pointer (some ⟨w.heap.size, 0, none⟩), .pointer (some ⟨w.heap.size + 1, 0, none⟩)], .int .i64 n] W (TwoE W []) := by
  have c0 : w6.cell? ⟨w.heap.size, 0, none⟩ = some .nilFunc := by rw [e6]; exact ((Boxed.new w _ _).alloc _).cell
  have c1 : w6.cell? ⟨w.heap.size + 1, 0, none⟩ = some (.func (.func 51) #[] #[]) := by
    have := Boxed.new (w.alloc (.cells #[.nilFunc] 48)) 48 (.func (.func 51) #[] #[])
    rw [World.size_alloc] at this
    rw [e6]; exact this.cell
  have := merge_run (va := .nilFunc) (LA := []) (LB := []) (by simp) (by simp) (by simp) (by simp) (fun W' _ => gather_nil W') (enters_of Try.func51 (by kernel_rfl) rfl) (fun W' _ => merg1_seqs W') c0 c1
  simpa [mergeK_end] using this
end Go.Proofs.Ytdkplhfbcpobaaa
