/- hblref.Split at ' ', by its contract. -/
import Derived.Test.YtnaafdennieedaaRPlace
import Derived.Test.YtnaafdennieedaaRdV
namespace Go.Proofs.Ytnaafdennieedaa
open Go.RowKit

/-- A text cut at every ' '. -/
def splitB : List UInt8 → List (List UInt8)
  | [] => [[]]
  | c :: t => if c = 32 then [] :: splitB t else match splitB t with
    | [] => [[c]]
    | p :: ps => (c :: p) :: ps
theorem splitB_one : ∀ l : List UInt8, l.count 32 = 0 → splitB l = [l]
  | [], _ => rfl
  | c :: t, h => by
    have hc : c ≠ 32 := by rintro rfl; simp at h
    rw [List.count_cons_of_ne (by simpa using hc)] at h
    rw [splitB, if_neg hc, splitB_one t h]
theorem infoStr : (Try.prog.info? 9).map (fun i => (i.zero, i.size, i.bytes)) = some (some (str []), 1, 16) := by kernel_rfl
/-- The pieces that end ahead of place i, and where the last one begins. -/
structure RSB (W wr : World) (l : List UInt8) (v : Value) (P : List (List UInt8)) (a i : Nat) : Prop where
  row : wr.ownsRow W.heap.size 9 1 v P.length (P.map str)
  eq : splitB l = P ++ splitB (l.drop a)
  le : a ≤ i
  il : i ≤ l.length
  no : ∀ j, a ≤ j → j < i → l[j]? ≠ some 32
  b : Below W.heap.size W wr
  pl : P.length ≤ i
theorem splitB_at : ∀ (l : List UInt8) (i : Nat), (∀ j, j < i → l[j]? ≠ some 32) → l[i]? = some 32 → splitB l = l.take i :: splitB (l.drop (i + 1))
  | [], i, _, h => by simp at h
  | c :: t, 0, _, h => by
    simp at h
    subst h
    simp [splitB]
  | c :: t, i + 1, hn, h => by
    have hc : c ≠ 32 := by
      have := hn 0 (by omega)
      simpa using this
    have ih := splitB_at t i (fun j hj => by have := hn (j + 1) (by omega); simpa using this) (by simpa using h)
    rw [splitB, if_neg hc, ih]
    simp
theorem splitB_end : ∀ (l : List UInt8), (∀ j, j < l.length → l[j]? ≠ some 32) → splitB l = [l] := by
  intro l h
  refine splitB_one l ?_
  rw [List.count_eq_zero]
  intro hm
  obtain ⟨j, hj, e⟩ := List.mem_iff_getElem.1 hm
  exact h j hj (by rw [List.getElem?_eq_getElem hj, e])
theorem append1S {P : Program} {T E : TypeId} {ops : Array Oper} {rest : List Oper} {o : Oper} {a : Act} {Q : Exit → Act → World → Prop} {w : World} (hT : P.underlying T = some (.slice E))
    (hE : (P.info? E).map (fun i => (i.zero, i.size, i.bytes)) = some (some (str []), 1, 16)) (hgd : o.guard = none) (s x : Operand) (ho : o.op = .call { callee := .builtin .append, args := #[s, x], argTypes := #[T, T] })
    (base : Nat) (v : Value) (L : List (List UInt8)) (c : List UInt8) (hown : w.ownsRow base E 1 v L.length (L.map str)) (hs : a.eval s = v)
    (hx : a.eval x = .slice (some ⟨w.heap.size, 0, none⟩) 1 1) (hlen : L.length < 1000000000) (hbase : base ≤ w.heap.size)
    (h : ∀ v' w', w'.ownsRow base E 1 v' (L ++ [c]).length ((L ++ [c]).map str) → w.grownBy w' v.ownBlock → wpList P ops Q rest (a.put o.dst v') w') :
    wpList P ops Q (o :: rest) a (w.alloc (.cells #[str c] E)) := by
  obtain ⟨i, hi, h1, h2, h3⟩ := info_parts hE
  refine wpList_append_own _ hgd s x T ho base E i (str []) 1 16 hT hi h1 h2 h3 rfl (by decide) v L.length (L.map str) hs (World.ownsRow.alloc hown _) ⟨w.heap.size, 0, none⟩ 1 1 [str c] hx rfl ?_ ?_ (by unfold maxLen; omega) (by omega) (by simp; omega) ?_
  · intro j u hj
    match j, hj with
    | 0, hj => simp at hj; subst hj; simp [Addr.add]
  · intro u hu; simp at hu; subst hu; rfl
  · intro v' w' h1 h2 _
    refine h v' w' ?_ (grown_trans (World.grownBy_alloc w _ _) h2)
    simpa using h1
set_option maxHeartbeats 2000000 in
theorem rsplitb_any (l : List UInt8) (w : World) (hl : l.length ≤ 100000) :
    Calls Try.prog 30 #[str l, .int .u8 32] w fun e w' => ∃ v, e = .returned v ∧ w'.ownsRow w.heap.size 9 1 v (splitB l).length ((splitB l).map str) ∧ Below w.heap.size w w' := by
  go_enter Try.func30, Try.ntmps30
  go_wp2_with fail
  go_loopw [5, 6, 7] (fun v fv iv wr => (∃ (P : List (List UInt8)) (a i : Nat), fv = .int .i64 (a : Int) ∧ iv = .int .i64 (i : Int) ∧ Hid (RSB w wr l v P a i)) ∨ (iv = .int .i64 ((l.length : Int) + 1) ∧ (splitB l).length ≤ l.length + 1 ∧ wr.ownsRow w.heap.size 9 1 v (splitB l).length ((splitB l).map str) ∧ Below w.heap.size w wr))
    (fun _ _ iv _ => l.length + 1 - (intOf iv).toNat)
  case atStart => exact .inl ⟨[], 0, 0, rfl, rfl, Lib.hid ⟨World.ownsRow_nil w _ _ 1, by simp, Nat.le_refl _, Nat.zero_le _, fun j _ hj => by omega, Below.refl _ _, Nat.zero_le _⟩⟩
  case round =>
    obtain ⟨w3, hw3⟩ : ∃ w, w = wr := ⟨_, rfl⟩
    subst hw3
    rcases hrel with ⟨P, a, i, rfl, rfl, HR⟩ | ⟨rfl, hlen, hrow, hb⟩
    · have hi := HR.out.il
      have ha := HR.out.le
      have hpl := HR.out.pl
      have n0 : (i : Int) ≤ (l.length : Int) := by omega
      have n0' : (0 : Int) ≤ (i : Int) := by omega
      have m1 : (0 : Int) ≤ (a : Int) := by omega
      have m2 : (a : Int) ≤ (i : Int) := by omega
      have m3 : (i : Int).toNat = i := by omega
      have m4 : (a : Int).toNat = a := by omega
      have e1 := str_cut l a i
      have hbw := HR.out.b.size
      by_cases he : i = l.length
      · have t1 : ((i : Int) == (l.length : Int)) = true := by rw [beq_iff_eq]; omega
        have HFIN : Hid (splitB l = P ++ [(l.drop a).take (i - a)]) := Lib.hid (by
          rw [HR.out.eq, splitB_end (l.drop a) (fun j hj => by
            rw [List.getElem?_drop]
            exact HR.out.no (a + j) (by omega) (by simp at hj; omega)), List.take_of_length_le (by simp; omega)])
        have HE := Lib.hid he
        clear he
        go_wp2_with (at_builtin; refine hold ?_)
        intro _
        refine append1S Try.underlying33 infoStr rfl _ _ rfl w.heap.size _ P ((l.drop a).take (i - a)) HR.out.row rfl rfl (by omega) hbw ?_
        intro v' w' hrow' hg
        have hB := HR.out.b.grown hg hbw (fun k e => (World.ownsRow.lt HR.out.row k e).1)
        go_wp2_with fail
        go_roundw
        case rel => exact .inr ⟨by rw [HE.out], by rw [HFIN.out]; simp; omega, by rw [HFIN.out]; exact hrow', hB⟩
        case measure => have := HE.out; simp [intOf]; omega
      · have t1 : ((i : Int) == (l.length : Int)) = false := by rw [beq_eq_false_iff_ne]; omega
        have hlt : i < l.length := by omega
        have n1 : (i : Int) < (l.length : Int) := by omega
        obtain ⟨d, hd⟩ : ∃ d, d = l[i] := ⟨_, rfl⟩
        have hgd : (ByteArray.mk l.toArray)[i]'(by simpa [ByteArray.size] using hlt) = d := hd.symm
        have hq : l[i]? = some d := by rw [List.getElem?_eq_getElem hlt, hd]
        have HQ := Lib.hid hq
        clear hd hq he
        by_cases h32 : d = 32
        · have t2 : ((d.toNat : Int) == 32) = true := by rw [h32]; rfl
          have HFIN : Hid (splitB l = P ++ (l.drop a).take (i - a) :: splitB (l.drop (i + 1))) := Lib.hid (by
            rw [HR.out.eq, splitB_at (l.drop a) (i - a) (fun j hj => by
              rw [List.getElem?_drop]
              exact HR.out.no (a + j) (by omega) (by omega)) (by rw [List.getElem?_drop, show a + (i - a) = i by omega, HQ.out, h32])]
            simp only [List.drop_drop]
            rw [show a + (i - a + 1) = i + 1 by omega])
          clear h32
          go_wp2_with (at_builtin; refine hold ?_)
          intro _
          refine append1S Try.underlying33 infoStr rfl _ _ rfl w.heap.size _ P ((l.drop a).take (i - a)) HR.out.row rfl rfl (by omega) hbw ?_
          intro v' w' hrow' hg
          have hB := HR.out.b.grown hg hbw (fun k e => (World.ownsRow.lt HR.out.row k e).1)
          go_wp2_with fail
          go_roundw
          case rel => exact .inl ⟨P ++ [(l.drop a).take (i - a)], i + 1, i + 1, by go_num, by go_num, Lib.hid ⟨hrow', by rw [HFIN.out]; simp, Nat.le_refl _, by omega, fun j h1 h2 => by omega, hB, by simp; omega⟩⟩
          case measure => simp [intOf]; omega
        · have t2 : ((d.toNat : Int) == 32) = false := by
            rw [beq_eq_false_iff_ne]
            intro h
            exact h32 (UInt8.toNat_inj.1 (by show d.toNat = 32; omega))
          have HN : Hid (RSB w w3 l u5 P a (i + 1)) := Lib.hid ⟨HR.out.row, HR.out.eq, by omega, by omega, fun j h1 h2 => by
            by_cases hj : j = i
            · rw [hj, HQ.out]
              intro h
              exact h32 (Option.some.inj h)
            · exact HR.out.no j h1 (by omega), HR.out.b, by omega⟩
          clear h32
          go_wp2_with fail
          go_roundw
          case rel => exact .inl ⟨P, a, i + 1, rfl, by go_num, HN⟩
          case measure => simp [intOf]; omega
    · have n0 : ¬ (l.length : Int) + 1 ≤ (l.length : Int) := by omega
      have H := Lib.hid (And.intro hrow hb)
      have hrv := RdV.of_row (by simpa using hrow : w3.ownsRow w.heap.size 9 1 u5 ((splitB l).map str).length ((splitB l).map str))
      have hex : ∃ va vc, u5 = .slice va (splitB l).length vc := by
        obtain ⟨va, vc, h, _⟩ := hrv
        exact ⟨va, vc, by rw [List.length_map] at h; exact h⟩
      obtain ⟨va, vc, hv⟩ := hex
      rw [hv] at H ⊢
      clear hrow hb hrv hv hlen
      go_wp2_with fail
      go_ret
      exact ⟨_, rfl, H.out.1, H.out.2⟩
end Go.Proofs.Ytnaafdennieedaa
