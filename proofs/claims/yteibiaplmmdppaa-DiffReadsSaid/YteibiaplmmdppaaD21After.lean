/- diff.After[string]: the changes of greater keys. -/
import Derived.Test.YteibiaplmmdppaaD21Ranged
namespace Go.Proofs.Yteibiaplmmdppaa
open Go.RowKit
attribute [local go_sem] Oper.semAt_some wide_fn wide_depth

theorem after_any (gf : Nat) (lb : Array Value) (key : List UInt8) (w : World) : Calls Try.prog 19 #[.func (.func gf) #[] lb, str key] w fun e w' =>
    e = .returned (.func (.func 39) #[] #[.pointer (some ⟨w.heap.size, 0, none⟩), .pointer (some ⟨w.heap.size + 1, 0, none⟩)]) ∧ w' = (w.alloc (.cells #[.func (.func gf) #[] lb] 33)).alloc (.cells #[str key] 9) := by
  go_enter Try.func19, Try.ntmps19
  go_wp2
  go_ret
  exact ⟨rfl, rfl⟩
/-- A greater key. -/
def gtB (k key : List UInt8) : Bool := !(Op.bytesLess k key) && !(k == key)
def gtV (key : List UInt8) (x : Value) : Bool := match aggL x with
  | .string k :: _ => gtB k.data.toList key
  | _ => false
theorem gtV_enc (key : List UInt8) (c : ChgT) : gtV key (encC c) = gtB c.1 key := rfl
set_option maxRecDepth 100000 in
set_option maxHeartbeats 4000000 in
theorem after_seqs {Ok : World → Prop} {Wr : TypeId → Prop} {gf Bs Bk : Nat} {lb : Array Value} {L : List ChgT} {key : List UInt8} {W : World} (eg : ∀ args w, (callFunc gf args).run Try.prog w = .ok (.enter gf args) w)
    (hs : ∀ W', Below W.heap.size W W' → SeqsW MrgTSS Try.prog gf lb (fun c : Value => #[c]) Ok Wr (L.map encC) W') (hc : W.cell? ⟨Bs, 0, none⟩ = some (.func (.func gf) #[] lb)) (hw : ¬ Wr 65) :
    SeqsW MrgTSS Try.prog 39 #[.pointer (some ⟨Bs, 0, none⟩), .pointer (some ⟨Bk, 0, none⟩)] (fun c : Value => #[c]) (fun X => Ok X ∧ X.cell? ⟨Bk, 0, none⟩ = some (str key)) Wr ((L.map encC).filter (gtV key)) W := by
  intro l J Jx hJ hJx hOk hY h0
  have hfn : ∀ w, (binOp .eql 33 (.func (.func gf) #[] lb) .nilFunc).run Try.prog w = .ok (.bool false) w := fun w => by kernel_rfl
  have hdd : ∀ k : Nat, (Fence.wide.depth.isSome = true → 1 ≤ k) := fun k h => by cases h
  have hcl : (W.alloc (.cells #[.func (.yield l) #[] #[]] 65)).cell? ⟨Bs, 0, none⟩ = some (.func (.func gf) #[] lb) := by
    rw [← hc]; exact (below_alloc W _).cell (p := ⟨Bs, 0, none⟩) (World.block_lt_of_cell? W _ hc)
  refine (callsIn_wide (n := 9)).1 ?_
  refine callsIn_of_wp_marks Try.func39 rfl trivial ?_ rfl
  simp only [Try.ntmps39, List.size_toArray, List.length_cons, List.length_nil, Nat.reduceAdd, Nat.reduceSub, Array.replicate_succ, Array.replicate_zero, List.push_toArray, List.append_toArray, List.nil_append, List.cons_append]
  have bY := Boxed.new W 65 (.func (.yield l) #[] #[])
  gi_wp2_with fail
  refine range_lawA (Tw := MrgTSS) (gf := gf) (lb := lb) rfl eg (Wr := Wr) (xs := L.map encC) (Ok := Ok) (encs := fun c : Value => #[c]) (fun W' h => hs W' ((((Below.refl _ W).alloc (Nat.le_refl _) _)).trans (h.mono (by simp)))) (by intro x; rfl)
    (fun pre W2 => J (pre.filter (gtV key)) W2 ∧ Boxed W2 W.heap.size 65 (.func (.yield l) #[] #[]))
    (fun c pre W2 => c = .ret ∧ ∃ out, (∃ t, (L.map encC).filter (gtV key) = out ++ t) ∧ Jx out W2)
    (OwnFromT.and ?ownj ((boxed_ownT _ _ _ (by unfold MrgTSS; decide)).from _)) (fun c => OwnFromT.and (ownFromT_pure _ _ (fun _ : List Value => c = .ret)) ?ownx) ⟨hJ.plain.alloc _ h0, bY⟩ (fun pre W2 h => (hOk _ _ h.1).1)
    (fun x b => { tmps := #[.func (.yield l) #[] #[], .pointer (some ⟨Bs, 0, none⟩), .pointer (some ⟨Bk, 0, none⟩), .pointer (some ⟨W.heap.size, 0, none⟩), .pointer (some ⟨b, 0, none⟩), .func (.func gf) #[] lb, .bool false, .func (.func gf) #[] lb, x, undef, undef, undef, undef, undef, undef, undef, undef, undef, undef], defers := [] })
    (fun x => .cells (aggL x).toArray 48) ?assign ?body ?done ?stop
  case ownj =>
    rintro s X Y row hj hg hr
    exact hJ _ _ _ _ hj hg (fun r e => ⟨by have := (hr r e).1; simp at this; omega, (hr r e).2⟩)
  case ownx =>
    rintro s X Y row ⟨out, ht, hj⟩ hg hr
    exact ⟨out, ht, hJx _ _ _ _ hj hg (fun r e => ⟨by have := (hr r e).1; simp at this; omega, (hr r e).2⟩)⟩
  case assign =>
    intro l2 x W2 K hx hK
    obtain ⟨⟨ck, cv, cg⟩, _, rfl⟩ := List.mem_map.1 hx
    have HK := Lib.hid (show K { tmps := #[.func (.yield l) #[] #[], .pointer (some ⟨Bs, 0, none⟩), .pointer (some ⟨Bk, 0, none⟩), .pointer (some ⟨W.heap.size, 0, none⟩), .pointer (some ⟨W2.heap.size, 0, none⟩), .func (.func gf) #[] lb, .bool false, .func (.func gf) #[] lb, .agg #[str ck, str cv, .bool cg], undef, undef, undef, undef, undef, undef, undef, undef, undef, undef], defers := [] } (W2.alloc (.cells #[str ck, str cv, .bool cg] 48)) from hK)
    clear hK hx
    dsimp only [encC]
    gi_wp2
    exact HK.out
  case body =>
    rintro l2 pre x b W2 _ hbl hbo ⟨hj, hb⟩ ⟨t, ht⟩
    obtain ⟨⟨ck, cv, cg⟩, _, rfl⟩ := List.mem_map.1 (show x ∈ L.map encC by rw [ht]; simp)
    have hbx : W2.heap[b]? = some (.cells #[str ck, str cv, .bool cg] 48 (0, 0)) := hbo
    have c0 : W2.cell? ⟨b, 0, none⟩ = some (str ck) := by simp [World.cell?, hbx]
    have c1 : W2.cell? ⟨b, 1, none⟩ = some (str cv) := by simp [World.cell?, hbx]
    have c2 : W2.cell? ⟨b, 2, none⟩ = some (.bool cg) := by simp [World.cell?, hbx]
    have cK := (hOk _ _ hj).2
    have cY := hb.cell
    have hle : W.heap.size ≤ W.heap.size + 1 := by omega
    have hxs : (L.map encC).filter (gtV key) = pre.filter (gtV key) ++ ((if gtB ck key = true then [encC (ck, cv, cg)] else []) ++ t.filter (gtV key)) := by
      rw [ht, List.filter_append]
      congr 1
      rw [List.filter_cons, gtV_enc]
      cases gtB ck key <;> simp
    have hpre : (pre ++ [encC (ck, cv, cg)]).filter (gtV key) = pre.filter (gtV key) ++ (if gtB ck key = true then [encC (ck, cv, cg)] else []) := by
      rw [List.filter_append, List.filter_cons, gtV_enc]
      cases gtB ck key <;> simp
    obtain ⟨gb, hgb⟩ : ∃ g, g = gtB ck key := ⟨_, rfl⟩
    rw [← hgb] at hxs hpre
    have HX := Lib.hid hxs
    have HP := Lib.hid hpre
    unfold gtB at hgb
    clear hxs hpre hbo hbx ht hs
    dsimp only [encC]
    cases h1 : Op.bytesLess ck key
    · cases h2 : (ck == key)
      · obtain rfl : gb = true := by rw [hgb, h1, h2]; rfl
        clear hgb
        obtain ⟨fn, tmps, assign, body, hy, hR⟩ := hY (pre.filter (gtV key)) (encC (ck, cv, cg)) W2 hj ⟨_, by rw [HX.out]; rfl⟩ 6
        dsimp only [encC] at hR hy
        gi_wp2_with (refine hR.mono ?_; clear hR; rintro e W3 ⟨hk, ⟨rfl, hj4⟩ | ⟨rfl, hx4⟩⟩)
        · exact ⟨hk.more (by simp), (show J ((pre ++ [encC (ck, cv, cg)]).filter (gtV key)) W3 by rw [HP.out]; exact hj4), hk.box hb (Nat.le_refl _) hw⟩
        · exact ⟨hk.more (by simp), rfl, _, ⟨_, by rw [HX.out, ← List.append_assoc]; rfl⟩, hx4⟩
      · obtain rfl : gb = false := by rw [hgb, h1, h2]; rfl
        clear hgb
        gi_wp2_with fail
        exact ⟨KT.refl _ _ _, (show J ((pre ++ [encC (ck, cv, cg)]).filter (gtV key)) W2 by rw [HP.out]; simpa using hj), hb⟩
    · obtain rfl : gb = false := by rw [hgb, h1]; rfl
      clear hgb
      gi_wp2_with fail
      exact ⟨KT.refl _ _ _, (show J ((pre ++ [encC (ck, cv, cg)]).filter (gtV key)) W2 by rw [HP.out]; simpa using hj), hb⟩
  case done =>
    rintro D W2 hD ⟨hj, _⟩ hK
    gi_wp2
    refine ⟨by simp, .inl ⟨_, _, rfl, run_takeDeferred hK, ?_⟩⟩
    exact ⟨_, results_none rfl _ _ _, ⟨_, rfl⟩, .inl (hJ.plain.putObj _ hj (by simp at hD; omega) hK rfl)⟩
  case stop =>
    rintro D c pre W2 hD hx ⟨rfl, out, ht, hj⟩ hK
    gi_wp2
    refine ⟨by simp, .inl ⟨_, _, rfl, run_takeDeferred hK, ?_⟩⟩
    exact ⟨_, results_none rfl _ _ _, ⟨_, rfl⟩, .inr ⟨out, ht, hJx.plain.putObj _ hj (by simp at hD; omega) hK rfl⟩⟩
end Go.Proofs.Yteibiaplmmdppaa
