import Derived.Test.YtidlhajibjnkeaaGreatDoorJVal
import Derived.Test.YtidlhajibjnkeaaGreatDoorBl
import Derived.Deep.LoopGhost
/- hblref1.Parse: plain facts. -/
namespace Go.Proofs.YtidlhajibjnkeaaGreatDoor
open Go.RowKit

/-- The document's number: its digits, kept at 2^58 at most. -/
def rcapF : List UInt8 → Nat → Nat
  | [], n => n
  | c :: t, n => rcapF t (min (10 * n + (c.toNat - 48)) 288230376151711744)
theorem rcapF_snoc (c : UInt8) : ∀ (l : List UInt8) (n : Nat), rcapF (l ++ [c]) n = min (10 * rcapF l n + (c.toNat - 48)) 288230376151711744
  | [], _ => rfl
  | d :: t, n => by rw [List.cons_append, rcapF, rcapF_snoc c t, rcapF]
theorem rcapF_le : ∀ (l : List UInt8) (n : Nat), n ≤ 288230376151711744 → rcapF l n ≤ 288230376151711744
  | [], _, h => h
  | c :: t, n, h => by
    rw [rcapF]
    exact rcapF_le t _ (by omega)
def CapRel (x y : Nat) : Prop := (x = y ∧ y ≤ 9007199254740991) ∨ (9007199254740991 < x ∧ 9007199254740991 < y)
theorem cap_rel : ∀ (l : List UInt8) (x y : Nat), (∀ c ∈ l, c.toNat ≤ 57) → CapRel x y → CapRel (rcapF l x) (capF l y)
  | [], _, _, _, h => h
  | c :: t, x, y, hc, h => by
    have h57 := hc c (by simp)
    rw [rcapF, capF]
    refine cap_rel t _ _ (fun d hd => hc d (by simp [hd])) ?_
    unfold CapRel at *
    rcases h with ⟨rfl, h⟩ | ⟨h1, h2⟩
    · rw [if_pos h]
      by_cases g : 10 * x + (c.toNat - 48) ≤ 9007199254740991
      · left
        omega
      · right
        omega
    · right
      rw [if_neg (by omega)]
      omega
theorem dgs_small (l : List UInt8) : ∀ c ∈ dgs l, c.toNat ≤ 57 := by
  intro c hc
  obtain ⟨k, hk, e⟩ := List.getElem_of_mem hc
  have := (dgs_at l k hk).2
  rw [e, dgJ_iff] at this
  exact this.2
theorem cap_dgs (l : List UInt8) : CapRel (rcapF (dgs l) 0) (capF (dgs l) 0) := cap_rel _ 0 0 (dgs_small l) (.inl ⟨rfl, by decide⟩)
/-- Members by names that don't fall. -/
def SrtM (d : List MemT) : Prop := d.Pairwise (fun a b => Op.bytesLess b.1 a.1 = false)
section
variable {d : List MemT} {k : Nat} {m : MemT} {nm : List UInt8}
theorem ins_sorted (hs : SrtM d) (h1 : ∀ j (h : j < d.length), j < k → Op.bytesLess d[j].1 m.1 = true) (h2 : ∀ h : k < d.length, Op.bytesLess d[k].1 m.1 = false) : SrtM (d.take k ++ m :: d.drop k) := by
  have hbig : ∀ j (h : j < d.length), k ≤ j → Op.bytesLess d[j].1 m.1 = false := by
    intro j h hkj
    have h2' := h2 (by omega)
    by_cases e : j = k
    · subst e
      exact h2'
    · have hp := (List.pairwise_iff_getElem.1 hs) k j (by omega) h (by omega)
      cases hj : Op.bytesLess d[j].1 m.1 with
      | false => rfl
      | true =>
        cases hkj2 : Op.bytesLess d[k].1 d[j].1 with
        | true =>
          have := bl_tr _ _ _ hkj2 hj
          rw [this] at h2'
          cases h2'
        | false =>
          have e := bl_tot _ _ hkj2 hp
          rw [e, hj] at h2'
          cases h2'
  have hd : d.take k ++ d.drop k = d := List.take_append_drop k d
  have hs' := hs
  unfold SrtM at hs'
  rw [← hd, List.pairwise_append] at hs'
  unfold SrtM
  rw [List.pairwise_append, List.pairwise_cons]
  refine ⟨hs'.1, ⟨fun b hb => ?_, hs'.2.1⟩, fun a ha b hb => ?_⟩
  · obtain ⟨j, hj, e⟩ := List.getElem_of_mem hb
    rw [List.getElem_drop] at e
    rw [← e]
    exact hbig _ _ (by omega)
  · rcases List.mem_cons.1 hb with rfl | hb
    · obtain ⟨j, hj, e⟩ := List.getElem_of_mem ha
      rw [List.getElem_take] at e
      rw [List.length_take] at hj
      have := h1 j (by omega) (by omega)
      rw [e] at this
      cases hx : Op.bytesLess b.1 a.1 with
      | false => rfl
      | true =>
        have h3 := bl_tr _ _ _ this hx
        rw [bl_irr] at h3
        cases h3
    · exact hs'.2.2 a ha b hb
theorem ins_perm {acc : List MemT} (hp : d.Perm acc) : (d.take k ++ m :: d.drop k).Perm (acc ++ [m]) := by
  have h : (d.take k ++ m :: d.drop k).Perm (m :: (d.take k ++ d.drop k)) := List.perm_middle
  rw [List.take_append_drop] at h
  exact (h.trans (hp.cons m)).trans (List.perm_append_singleton m acc).symm
theorem dup_iff {acc : List MemT} (hp : d.Perm acc) (hs : SrtM d) (h1 : ∀ j (h : j < d.length), j < k → Op.bytesLess d[j].1 nm = true) (h2 : ∀ h : k < d.length, Op.bytesLess d[k].1 nm = false) :
    (∃ h : k < d.length, d[k].1 = nm) ↔ nm ∈ acc.map (fun m => m.1) := by
  constructor
  · rintro ⟨h, e⟩
    exact List.mem_map.2 ⟨d[k], hp.mem_iff.1 (List.getElem_mem h), e⟩
  · intro h
    obtain ⟨x, hx, e⟩ := List.mem_map.1 h
    obtain ⟨j, hj, e2⟩ := List.getElem_of_mem (hp.mem_iff.2 hx)
    have e3 : d[j].1 = nm := by rw [e2]; exact e
    have hkj : k ≤ j := Classical.byContradiction fun g => by
      have := h1 j hj (by omega)
      rw [e3, bl_irr] at this
      cases this
    refine ⟨by omega, ?_⟩
    by_cases g : j = k
    · subst g
      exact e3
    · have hq := (List.pairwise_iff_getElem.1 hs) k j (by omega) hj (by omega)
      rw [e3] at hq
      exact bl_tot _ _ (h2 (by omega)) hq
end
theorem txt_end (t : List UInt8) : txtP t t.length = .err 2 := by
  have h : (unqR t (t.length : Int)).2.2 = 2 := by
    unfold unqR
    rw [if_neg (by omega)]
    simp [wantN]
  unfold txtP
  rw [h]
  rfl
theorem val_end (t : List UInt8) (d : Nat) : valP t d t.length = .err 2 := by
  cases d <;> (unfold valP; rw [skp_end]; simp)
end Go.Proofs.YtidlhajibjnkeaaGreatDoor

/- hblref1.Parse: the document's reader: fail, skip, digit, begins. -/
namespace Go.Proofs.YtidlhajibjnkeaaGreatDoor
open Go.RowKit

/-- A value's zero, as it lies. -/
theorem zero_box (w : World) : ∃ Wa, Wa = w.alloc (.cells #[.int .i64 0, .int .i64 0, .string ⟨#[]⟩, .slice none 0 0, .slice none 0 0] 35) ∧ Below w.heap.size w Wa ∧ Wa.heap[w.heap.size]? = some (.cells #[.int .i64 0, .int .i64 0, str [], .slice none 0 0, .slice none 0 0] 35 (0, 0)) ∧ Wa.heap.size = w.heap.size + 1 :=
  ⟨_, rfl, below_alloc _ _, heap_alloc_new w _, by simp⟩
theorem box_far {w : World} {s b j : Nat} {o : Obj} (v : Value) (h : w.heap[s]? = some o) (hn : s ≠ b) : (w.setCell ⟨b, j, none⟩ v).heap[s]? = some o := box_frm h (Frm.set (F := fun i => i = b) v rfl) hn
set_option maxHeartbeats 1000000 in
theorem rfail_any {t : List UInt8} {b p x : Nat} {w : World} (c : Nat) (h : JRb w b t p x) :
    Calls Tryz.prog 28 #[.pointer (some ⟨b, 0, none⟩), .int .i64 (c : Int)] w fun e w' => e = .returned (.agg #[.int .i64 0, .int .i64 0, str [], .slice none 0 0, .slice none 0 0]) ∧ JSt w b t p (if x = 0 then c else x) w' := by
  obtain ⟨Wa, hWa, hba, hbx, hsz⟩ := zero_box w
  have hb := h.lt
  have ha := h.below hba
  have c2 := ha.c2
  have f2 := ha.fr 2
  have b0 := box_cell hbx 0
  have b1 := box_cell hbx 1
  have b2 := box_cell hbx 2
  have b3 := box_cell hbx 3
  have b4 := box_cell hbx 4
  have hfz := box_fr hbx
  have HA := Lib.hid (And.intro ha (And.intro hba (And.intro hbx hb)))
  by_cases hx : x = 0
  · rw [if_pos hx]
    have e0 : ((x : Int) == 0) = true := by rw [hx]; rfl
    have HG := Lib.hid hx
    clear ha hbx hx hba hsz hb h
    go_enter Tryz.func28, Tryz.ntmps28
    go_upto_region 1 with fail
    rw [← hWa]
    clear hWa
    go_upto_region 3 with fail
    refine wp_any_world (fun W => W.heap[w.heap.size]? = some (.cells #[.int .i64 0, .int .i64 0, str [], .slice none 0 0, .slice none 0 0] 35 (0, 0)) ∧ JSt w b t p c W) ⟨box_far _ HA.out.2.2.1 (by have := HA.out.2.2.2; omega), JSt.setOpen ⟨HA.out.1, Frm.of_below HA.out.2.1⟩ c _ rfl⟩ ?_
    clear b0 b1 b2 b3 b4 hfz c2 f2
    rintro w2 ⟨hz, hs⟩
    have b0 := box_cell hz 0
    have b1 := box_cell hz 1
    have b2 := box_cell hz 2
    have b3 := box_cell hz 3
    have b4 := box_cell hz 4
    have hfz := box_fr hz
    have HX := Lib.hid (And.intro hz hs)
    clear hz hs
    go_wp2_with fail
    refine bodyPost_any_world (fun W => W.heap[w.heap.size]? = some (.cells #[.int .i64 0, .int .i64 0, str [], .slice none 0 0, .slice none 0 0] 35 (0, 0)) ∧ Frm (fun i => i = w.heap.size) w2 W) (five_set HX.out.1 _ _ _ _ _) ?_
    clear b0 b1 b2 b3 b4 hfz
    rintro w9 ⟨h9, hf9⟩
    have k0 := box_cell h9 0
    have k1 := box_cell h9 1
    have k2 := box_cell h9 2
    have k3 := box_cell h9 3
    have k4 := box_cell h9 4
    refine bodyPost_ret (v := .agg #[.int .i64 0, .int .i64 0, str [], .slice none 0 0, .slice none 0 0]) (by simp [results, Tryz.results28, go_sem, k0, k1, k2, k3, k4]) rfl ?_
    exact ⟨rfl, JSt.grow HX.out.2 hf9 (fun i e => by have := HA.out.2.2.2; omega)⟩
  · rw [if_neg hx]
    have e0 : ((x : Int) == 0) = false := by rw [beq_eq_false_iff_ne]; omega
    clear ha hx hsz hb h
    go_enter Tryz.func28, Tryz.ntmps28
    go_upto_region 1 with fail
    rw [← hWa]
    clear hWa hbx hba
    go_wp2_with fail
    refine bodyPost_any_world (fun W => W.heap[w.heap.size]? = some (.cells #[.int .i64 0, .int .i64 0, str [], .slice none 0 0, .slice none 0 0] 35 (0, 0)) ∧ Frm (fun i => i = w.heap.size) Wa W) (five_set HA.out.2.2.1 _ _ _ _ _) ?_
    clear b0 b1 b2 b3 b4 hfz c2 f2
    rintro w9 ⟨h9, hf9⟩
    have k0 := box_cell h9 0
    have k1 := box_cell h9 1
    have k2 := box_cell h9 2
    have k3 := box_cell h9 3
    have k4 := box_cell h9 4
    refine bodyPost_ret (v := .agg #[.int .i64 0, .int .i64 0, str [], .slice none 0 0, .slice none 0 0]) (by simp [results, Tryz.results28, go_sem, k0, k1, k2, k3, k4]) rfl ?_
    exact ⟨rfl, JSt.grow ⟨HA.out.1, Frm.of_below HA.out.2.1⟩ hf9 (fun i e => by have := HA.out.2.2.2; omega)⟩
/-- The first error. -/
theorem rfail_first {t : List UInt8} {b p : Nat} {w : World} (c : Nat) (h : JRb w b t p 0) :
    Calls Tryz.prog 28 #[.pointer (some ⟨b, 0, none⟩), .int .i64 (c : Int)] w fun e w' => e = .returned (.agg #[.int .i64 0, .int .i64 0, str [], .slice none 0 0, .slice none 0 0]) ∧ JSt w b t p c w' := rfail_any c h
/-- Whether a byte is a blank, test by test. -/
theorem bl_ways (c : UInt8) : (isBl c = true ∧ ((((c.toNat : Int) == 32) = true) ∨ (((c.toNat : Int) == 32) = false ∧ ((c.toNat : Int) == 9) = true) ∨ (((c.toNat : Int) == 32) = false ∧ ((c.toNat : Int) == 9) = false ∧ ((c.toNat : Int) == 10) = true) ∨ (((c.toNat : Int) == 32) = false ∧ ((c.toNat : Int) == 9) = false ∧ ((c.toNat : Int) == 10) = false ∧ ((c.toNat : Int) == 13) = true))) ∨
    (isBl c = false ∧ ((c.toNat : Int) == 32) = false ∧ ((c.toNat : Int) == 9) = false ∧ ((c.toNat : Int) == 10) = false ∧ ((c.toNat : Int) == 13) = false) := by
  have key : ∀ k : UInt8, ((c.toNat : Int) == (k.toNat : Int)) = (c == k) := by
    intro k
    by_cases h : c = k
    · rw [h]; simp
    · rw [beq_eq_false_iff_ne.2 h, beq_eq_false_iff_ne]
      intro e
      exact h (UInt8.toNat_inj.1 (by omega))
  have k1 := key 32
  have k2 := key 9
  have k3 := key 10
  have k4 := key 13
  have g1 : (((32 : UInt8).toNat : Nat) : Int) = 32 := rfl
  have g2 : (((9 : UInt8).toNat : Nat) : Int) = 9 := rfl
  have g3 : (((10 : UInt8).toNat : Nat) : Int) = 10 := rfl
  have g4 : (((13 : UInt8).toNat : Nat) : Int) = 13 := rfl
  rw [g1] at k1
  rw [g2] at k2
  rw [g3] at k3
  rw [g4] at k4
  rw [k1, k2, k3, k4]
  unfold isBl
  cases (c == 32) <;> cases (c == 9) <;> cases (c == 10) <;> cases (c == 13) <;> simp
set_option maxRecDepth 100000 in
set_option maxHeartbeats 4000000 in
theorem rskip_any (t : List UInt8) (b p o : Nat) (w : World) (h : JRb w b t p o) (hp : p ≤ t.length) (hl : t.length ≤ 140737488355328) :
    Calls Tryz.prog 27 #[.pointer (some ⟨b, 0, none⟩)] w fun e w' => e = .returned (.tuple #[]) ∧ JSt w b t (skp t p) o w' := by
  have HD := Lib.hid (JSt.refl h)
  clear h
  go_enter Tryz.func27, Tryz.ntmps27
  go_wp2_with fail
  go_loopg [] (t.length - p) (fun n wr => ∃ q : Nat, q + n = t.length ∧ Hid (skp t q = skp t p) ∧ Hid (JSt w b t q o wr))
  case atStart => exact ⟨p, by omega, Lib.hid rfl, HD⟩
  case round =>
    obtain ⟨q, hq, HS, HD⟩ := hrel
    have c0 := HD.out.1.c0
    have c1 := HD.out.1.c1
    have f1 := HD.out.1.fr 1
    by_cases hlt : q < t.length
    · have n1 : (q : Int) < (t.length : Int) := by omega
      have n3 : (0 : Int) ≤ (q : Int) := by omega
      obtain ⟨c, hc⟩ : ∃ c, c = t[q] := ⟨_, rfl⟩
      have hgd : (ByteArray.mk t.toArray)[q]'(by simpa [ByteArray.size] using hlt) = c := hc.symm
      have hg? : t[q]? = some c := by rw [hc]; exact List.getElem?_eq_getElem hlt
      rcases bl_ways c with ⟨hb, hw⟩ | ⟨hb, w1, w2, w3, w4⟩
      · have HS2 : Hid (skp t (q + 1) = skp t p) := Lib.hid (by rw [← HS.out, skp_bl hg? hb])
        have HQ := Lib.hid hq
        clear hc hg? hb hq HS
        rcases hw with w1 | ⟨w1, w2⟩ | ⟨w1, w2, w3⟩ | ⟨w1, w2, w3, w4⟩
        all_goals
          go_wp2_with fail
          go_quiet (fail)
          go_wp2_with fail
          go_roundg (gk - 1)
          case measure => have := HQ.out; omega
          case rel => exact ⟨q + 1, by have := HQ.out; omega, HS2, Lib.hid ((HD.out.drewN _).setAt (q + 1) _ (by omega))⟩
      · have HS2 : Hid (skp t p = q) := Lib.hid (by rw [← HS.out, skp_no hg? hb])
        clear hc hg? hb hq HS
        go_wp2_with fail
        go_quiet (fail)
        go_wp2_with fail
        go_end0
        rw [HS2.out]
        exact ⟨rfl, HD.out.drewN _⟩
    · obtain rfl : q = t.length := by omega
      have n1 : decide ((t.length : Int) < (t.length : Int)) = false := decide_eq_false (by omega)
      have n2 : ¬ ((t.length : Int) < (t.length : Int)) := by omega
      have HS2 : Hid (skp t p = t.length) := Lib.hid (by rw [← HS.out, skp_end])
      clear hq HS
      go_wp2_with fail
      go_quiet (fail)
      go_wp2_with fail
      go_end0
      rw [HS2.out]
      exact ⟨rfl, HD.out.drewN _⟩
/-- Does a digit stand there? -/
def dgAt (t : List UInt8) (p : Nat) : Bool := match t[p]? with | some c => dgJ c | none => false
set_option maxHeartbeats 1000000 in
theorem rdigit_any (t : List UInt8) (b p o : Nat) (w : World) (h : JRb w b t p o) (hp : p ≤ t.length) :
    Calls Tryz.prog 72 #[.pointer (some ⟨b, 0, none⟩)] w fun e w' => e = .returned (.bool (dgAt t p)) ∧ ∃ n, w' = w.drewN n := by
  have c0 := h.c0
  have c1 := h.c1
  clear h
  by_cases hlt : p < t.length
  · have n1 : (p : Int) < (t.length : Int) := by omega
    have n3 : (0 : Int) ≤ (p : Int) := by omega
    obtain ⟨c, hc⟩ : ∃ c, c = t[p] := ⟨_, rfl⟩
    have hgd : (ByteArray.mk t.toArray)[p]'(by simpa [ByteArray.size] using hlt) = c := hc.symm
    have e : dgAt t p = dgJ c := by unfold dgAt; rw [List.getElem?_eq_getElem hlt, hc]
    rw [e]
    clear e hc
    have hcs : (dgJ c = false ∧ decide ((48 : Int) ≤ (c.toNat : Int)) = true ∧ decide ((c.toNat : Int) ≤ 57) = false) ∨ (dgJ c = false ∧ decide ((48 : Int) ≤ (c.toNat : Int)) = false ∧ True) ∨ (dgJ c = true ∧ decide ((48 : Int) ≤ (c.toNat : Int)) = true ∧ decide ((c.toNat : Int) ≤ 57) = true) := by
      unfold dgJ
      by_cases g1 : 48 ≤ c.toNat
      · by_cases g2 : c.toNat ≤ 57
        · exact .inr (.inr ⟨by simp [g1, g2], decide_eq_true (by omega), decide_eq_true (by omega)⟩)
        · exact .inl ⟨by simp [g1, g2], decide_eq_true (by omega), decide_eq_false (by omega)⟩
      · exact .inr (.inl ⟨by simp [g1], decide_eq_false (by omega), trivial⟩)
    rcases hcs with ⟨e, g1, g2⟩ | ⟨e, g1, -⟩ | ⟨e, g1, g2⟩
    all_goals
      rw [e]
      clear e
      go_enter Tryz.func72, Tryz.ntmps72
      go_wp2_with fail
      go_quiet (fail)
      go_wp2_with fail
      go_ret
      exact ⟨rfl, _, rfl⟩
  · have n1 : ¬ (p : Int) < (t.length : Int) := by omega
    have e : dgAt t p = false := by unfold dgAt; rw [List.getElem?_eq_none (by omega)]
    rw [e]
    clear e
    go_enter Tryz.func72, Tryz.ntmps72
    go_wp2_with fail
    go_quiet (fail)
    go_wp2_with fail
    go_ret
    exact ⟨rfl, _, rfl⟩
end Go.Proofs.YtidlhajibjnkeaaGreatDoor
