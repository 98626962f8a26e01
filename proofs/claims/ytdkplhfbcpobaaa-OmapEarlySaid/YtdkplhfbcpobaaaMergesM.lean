/- OmapMerges: words and contracts. -/
import Derived.Test.YtdkplhfbcpobaaaPlaysM
import Derived.Test.YtdkplhfbcpobaaaMerge
namespace Go.Proofs.Ytdkplhfbcpobaaa
open Go.RowKit

/-- Rows merged: of a key that both have the second one's. -/
def mergeK : List (Int × List UInt8) → List (Int × List UInt8) → List (Int × List UInt8)
  | ra, [] => ra
  | [], x :: t => x :: mergeK [] t
  | p :: ra, x :: t => if p.1 < x.1 then p :: mergeK ra (x :: t) else if x.1 < p.1 then x :: mergeK (p :: ra) t else x :: mergeK ra t
termination_by a b => a.length + b.length
theorem mergeK_end (ra : List (Int × List UInt8)) : mergeK ra [] = ra := by cases ra <;> simp [mergeK]
theorem mergeK_nil : ∀ t : List (Int × List UInt8), mergeK [] t = t
  | [] => by simp [mergeK]
  | x :: t => by rw [mergeK, mergeK_nil t]
theorem mergeK_less {p x : Int × List UInt8} {ra t : List (Int × List UInt8)} (h : p.1 < x.1) : mergeK (p :: ra) (x :: t) = p :: mergeK ra (x :: t) := by rw [mergeK, if_pos h]
theorem mergeK_more {p x : Int × List UInt8} {ra t : List (Int × List UInt8)} (h : x.1 < p.1) : mergeK (p :: ra) (x :: t) = x :: mergeK (p :: ra) t := by rw [mergeK, if_neg (by omega), if_pos h]
theorem mergeK_same {p x : Int × List UInt8} {ra t : List (Int × List UInt8)} (h : p.1 = x.1) : mergeK (p :: ra) (x :: t) = x :: mergeK ra t := by rw [mergeK, if_neg (by omega), if_neg (by omega)]
theorem insK_less {k : Int} {v : List UInt8} {p : Int × List UInt8} {t : List (Int × List UInt8)} (h : k < p.1) : insK k v (p :: t) = (k, v) :: p :: t := by simp [insK, h]
theorem insK_more {k : Int} {v : List UInt8} {p : Int × List UInt8} {t : List (Int × List UInt8)} (h : p.1 < k) : insK k v (p :: t) = p :: insK k v t := by rw [insK, if_neg (by omega), if_pos h]
theorem insK_same {k : Int} {v : List UInt8} {p : Int × List UInt8} {t : List (Int × List UInt8)} (h : p.1 = k) : insK k v (p :: t) = (k, v) :: t := by rw [insK, if_neg (by omega), if_neg (by omega)]
theorem mrg_enc : ∀ a b : List (Int × List UInt8), mrgL (a.map encP) (b.map encP) = (mergeK a b).map encP
  | ra, [] => by rw [List.map_nil, mrg_end, mergeK_end]
  | [], x :: t => by rw [List.map_nil, mrg_nil, mergeK_nil]
  | p :: ra, x :: t => by
    rcases Int.lt_trichotomy p.1 x.1 with h | h | h
    · rw [mergeK_less h, List.map_cons, List.map_cons, mrg_less (by simp [encP, lessV, h]), List.map_cons, ← mrg_enc ra (x :: t), List.map_cons]
    · rw [mergeK_same h, List.map_cons, List.map_cons, mrg_same (by simp [encP, lessV, h]) (by simp [encP, lessV, h]), List.map_cons, ← mrg_enc ra t]
    · rw [mergeK_more h, List.map_cons, List.map_cons, mrg_more (by simp [encP, lessV]; omega) (by simp [encP, lessV, h]), List.map_cons, ← mrg_enc (p :: ra) t, List.map_cons]
termination_by a b => a.length + b.length
/-- To lay a row into what is merged is to lay it into the second one. -/
theorem insK_merge (k : Int) (v : List UInt8) : ∀ a b : List (Int × List UInt8), insK k v (mergeK a b) = mergeK a (insK k v b)
  | [], [] => by rw [mergeK_nil, mergeK_nil]
  | p :: ra, [] => by
    rw [mergeK_end]
    show insK k v (p :: ra) = mergeK (p :: ra) [(k, v)]
    rcases Int.lt_trichotomy p.1 k with h | h | h
    · rw [insK_more h, mergeK_less h]
      have := insK_merge k v ra []
      rw [mergeK_end] at this
      rw [this]; rfl
    · rw [insK_same h, mergeK_same h, mergeK_end]
    · rw [insK_less h, mergeK_more h, mergeK_end]
  | [], x :: t => by rw [mergeK_nil, mergeK_nil]
  | p :: ra, x :: t => by
    rcases Int.lt_trichotomy p.1 x.1 with h | h | h
    · rw [mergeK_less h]
      rcases Int.lt_trichotomy p.1 k with g | g | g
      · rw [insK_more g, insK_merge k v ra (x :: t)]
        rcases Int.lt_trichotomy x.1 k with f | f | f
        · rw [insK_more f, mergeK_less h]
        · rw [insK_same f, mergeK_less g]
        · rw [insK_less f, mergeK_less g]
      · rw [insK_same g, insK_less (by omega), mergeK_same g]
      · rw [insK_less g, insK_less (by omega), mergeK_more g, mergeK_less h]
    · rw [mergeK_same h]
      rcases Int.lt_trichotomy x.1 k with g | g | g
      · rw [insK_more g, insK_more g, mergeK_same h, insK_merge k v ra t]
      · rw [insK_same g, insK_same g, mergeK_same (by simp; omega)]
      · rw [insK_less g, insK_less g, mergeK_more (by simp; omega), mergeK_same h]
    · rw [mergeK_more h]
      rcases Int.lt_trichotomy x.1 k with g | g | g
      · rw [insK_more g, insK_more g, mergeK_more h, insK_merge k v (p :: ra) t]
      · rw [insK_same g, insK_same g, mergeK_more (by simp; omega)]
      · rw [insK_less g, insK_less g, mergeK_more (by simp; omega), mergeK_more h]
termination_by a b => a.length + b.length
theorem insK_ne (k : Int) (v : List UInt8) : ∀ L : List (Int × List UInt8), insK k v L ≠ []
  | [] => by simp [insK]
  | p :: t => by
    unfold insK
    split
    · simp
    · split <;> simp
/-- The rows that calls of Put make of rows. -/
def putsK (L : List (Int × List UInt8)) (l : List OpV) : List (Int × List UInt8) := l.foldl (fun L o => insK o.k o.v L) L
theorem putsK_snoc (L : List (Int × List UInt8)) (l : List OpV) (o : OpV) : putsK L (l ++ [o]) = insK o.k o.v (putsK L l) := by simp [putsK]
theorem putsK_take {L : List (Int × List UInt8)} {l : List OpV} {k : Nat} (h : k < l.length) : putsK L (l.take (k + 1)) = insK l[k].k l[k].v (putsK L (l.take k)) := by
  rw [List.take_succ_eq_append_getElem h, putsK_snoc]
theorem putsK_merge (L : List (Int × List UInt8)) : ∀ l : List OpV, putsK L l = mergeK L (putsK [] l) := by
  intro l
  have : ∀ n, n ≤ l.length → putsK L (l.take n) = mergeK L (putsK [] (l.take n)) := by
    intro n
    induction n with
    | zero => intro _; simp [putsK, mergeK_end]
    | succ n ih =>
      intro h
      rw [putsK_take (by omega), putsK_take (by omega), ih (by omega), insK_merge]
  have h := this l.length (Nat.le_refl _)
  rwa [List.take_length] at h
theorem putsK_len : ∀ (l : List OpV) (L : List (Int × List UInt8)), RisK L → (putsK L l).length ≤ L.length + l.length ∧ RisK (putsK L l)
  | [], L, h => ⟨Nat.le_refl _, h⟩
  | o :: l, L, h => by
    have h1 := putsK_len l (insK o.k o.v L) (insK_ris o.k o.v h)
    have h2 : (insK o.k o.v L).length ≤ L.length + 1 := by
      rcases insK_len o.k o.v h with ⟨e, _⟩ | ⟨e, _⟩ <;> omega
    refine ⟨?_, h1.2⟩
    have := h1.1
    show (putsK (insK o.k o.v L) l).length ≤ L.length + (l.length + 1)
    omega
/-- A stricter world serves. -/
theorem Seqs.strict {α : Type} {P : Program} {gf : Nat} {lb : Array Value} {encs : α → Array Value} {Ok Ok' : World → Prop} {Wr : TypeId → Prop} {xs : List α} {W : World} (h : Seqs P gf lb encs Ok Wr xs W) (ho : ∀ W, Ok' W → Ok W) : Seqs P gf lb encs Ok' Wr xs W :=
  fun l J Jx h1 h2 h3 h4 h5 => h l J Jx h1 h2 (fun pre W hw => ho _ (h3 pre W hw)) h4 h5
set_option maxRecDepth 100000 in
theorem pairs_less (gf : Nat) (lb : Array Value) (n : Int) (hn : n < 1) (w : World) : Calls Try.prog 20 #[.func (.func gf) #[] lb, .int .i64 n] w (TwoE w []) := by
  have hfn : ∀ w, (binOp .eql 48 (.func (.func gf) #[] lb) .nilFunc).run Try.prog w = .ok (.bool false) w := fun w => by kernel_rfl
  go_enter Try.func20, Try.ntmps20
  go_wp2
  go_ret2
  have hz : ∀ W, RdV W (.slice none 0 0) [] := fun W => ⟨none, 0, rfl, by simp, fun h => absurd rfl h⟩
  exact ⟨_, _, rfl, ⟨hz _, hz _⟩, (((Below.refl _ w).alloc (Nat.le_refl _) _).alloc (by simp) _).alloc (by simp; omega) _⟩
/-- What is merged, ranged over. -/
theorem merge_run {va : Value} {LA LB : List (Int × List UInt8)} {gb Ba Bb : Nat} {lbb : Array Value} {w3 : World} (hA : LA.length ≤ 1000) (hB : LB.length ≤ 1000) (hka : ∀ p ∈ LA, KSIS (.int .i64 p.1)) (hkb : ∀ p ∈ LB, KSIS (.int .i64 p.1))
    (hga : ∀ W', Below w3.heap.size w3 W' → Calls Try.prog 53 #[va] W' (GatherP W' (LA.map encP))) (eg : ∀ args w, (callFunc gb args).run Try.prog w = .ok (.enter gb args) w)
    (hsb : ∀ W', Below w3.heap.size w3 W' → Seqs Try.prog gb lbb (fun p : Value × Value => #[p.1, p.2]) (NK w3) (fun T => T = 3 ∨ T = 9) (LB.map encP) W')
    (hca : w3.cell? ⟨Ba, 0, none⟩ = some va) (hcb : w3.cell? ⟨Bb, 0, none⟩ = some (.func (.func gb) #[] lbb)) :
    ∀ W, Below w3.heap.size w3 W → ∀ n : Int, Calls Try.prog 20 #[.func (.func 52) #[] #[.pointer (some ⟨Ba, 0, none⟩), .pointer (some ⟨Bb, 0, none⟩)], .int .i64 n] W (TwoE W ((mergeK LA LB).take n.toNat)) := by
  intro W hW n
  by_cases hn : 1 ≤ n
  · have e := mrg_enc LA LB
    have hl := mrg_len (LA.map encP) (LB.map encP)
    simp only [List.length_map] at hl
    have ka : ∀ p ∈ LA.map encP, KSIS p.1 ∧ VSIS p.2 := fun p hp => by obtain ⟨q, hq, rfl⟩ := List.mem_map.1 hp; exact ⟨hka q hq, _, rfl⟩
    have kb : ∀ p ∈ LB.map encP, KSIS p.1 ∧ VSIS p.2 := fun p hp => by obtain ⟨q, hq, rfl⟩ := List.mem_map.1 hp; exact ⟨hkb q hq, _, rfl⟩
    refine (pairsW_any (Ok := NK w3) (xs := mrgL (LA.map encP) (LB.map encP)) (gf := 52) (lb := #[.pointer (some ⟨Ba, 0, none⟩), .pointer (some ⟨Bb, 0, none⟩)]) n hn (by omega) (mrg_mem _ _ _ ka kb) (enters_of Try.func52 (by kernel_rfl) rfl)
      (fun W2 h2 => NK.of_below (hW.trans (h2.mono hW.size))) (fun W2 h2 => ?_)).mono (fun e' w' he => two_pairs (by rw [e, List.map_take]) he)
    have h3 := hW.trans (h2.mono hW.size)
    refine merg2_seqs (by simp; omega) (by simp; omega) ka kb (fun W4 h4 => hga W4 (h3.trans (h4.mono h3.size))) eg (fun W4 h4 => hsb W4 (h3.trans (h4.mono h3.size)))
      ((h3.cell (p := ⟨Ba, 0, none⟩) (World.block_lt_of_cell? w3 _ hca)).trans hca) ((h3.cell (p := ⟨Bb, 0, none⟩) (World.block_lt_of_cell? w3 _ hcb)).trans hcb) (by decide) (by decide) (by decide)
  · have e0 : n.toNat = 0 := by omega
    rw [e0, List.take_zero]
    exact pairs_less _ _ n (by omega) W
end Go.Proofs.Ytdkplhfbcpobaaa
