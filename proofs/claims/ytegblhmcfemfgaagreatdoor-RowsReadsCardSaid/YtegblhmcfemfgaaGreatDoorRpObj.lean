import Derived.Test.YtegblhmcfemfgaaGreatDoorWTake
import Derived.Test.YtegblhmcfemfgaaGreatDoorRpMem
import Derived.Test.YtegblhmcfemfgaaGreatDoorJObj
namespace Go.Proofs.YtegblhmcfemfgaaGreatDoor
open Go.RowKit
theorem mes_txt {f : Nat → JR JV} {t : List UInt8} {m q c : Nat} {acc : List MemT} (_ : q ≤ t.length) (h : txtP t (skp t q) = .err c) : mesP f t (m + 1) q acc = .err c := by
 rw [mesP]
 unfold memP
 by_cases e : skp t q = t.length
 · rw [if_pos e]
   rw [e, txt_end] at h
   cases h
   rfl
 rw [if_neg e, h]
theorem mes_ok {f : Nat → JR JV} {t : List UInt8} {m q q2 : Nat} {s : List UInt8} {acc : List MemT} (h : txtP t (skp t q) = .ok s q2) : mesP f t (m + 1) q acc = if s ∈ acc.map (fun m => m.1) then .err 4 else
 match t[skp t q2]? with
 | none => .err 2
 | some c => if c ≠ 58 then .err 4 else match f (skp t q2 + 1) with
   | .err e => .err e
   | .ok v r => match behP t 125 r with
     | .err e => .err e
     | .ok true r' => .ok (acc ++ [(s, v)]) r'
     | .ok false r' => mesP f t m r' (acc ++ [(s, v)]) := by
 have hne : skp t q ≠ t.length := by
  intro e
  rw [e, txt_end] at h
  cases h
 rw [mesP]
 unfold memP
 rw [if_neg hne, h]
 dsimp only
 by_cases hd : s ∈ acc.map (fun m => m.1)
 · rw [if_pos hd, if_pos hd]
 rw [if_neg hd, if_neg hd]
 cases hx : t[skp t q2]? with
 | none => rfl
 | some c =>
  dsimp only
  by_cases hc : c ≠ 58
  · rw [if_pos hc, if_pos hc]
  rw [if_neg hc, if_neg hc]
  cases f (skp t q2 + 1) <;> rfl
theorem ins_rowM {W : World} {base g c : Nat} {rw0 : List Value} {R : List (List Value)} (hr : ∀ r ∈ R, r.length = 6) (h0 : rw0.length = 6) (h : W.ownsRow base 121 6 (.slice (some ⟨g, 0, none⟩) (1 + R.length) c) (1 + R.length) (rw0 ++ R.flatten)) (m : Nat) (hm : m = 1 + R.length) :
 RdF 6 W (.slice (some ⟨g, 0, none⟩) m c) (rw0 :: R) := by
 subst hm
 have e : (rw0 :: R).length = 1 + R.length := by simp; omega
 rw [← e] at h ⊢
 exact RdF.of_row (fun r hx => by
  rcases List.mem_cons.1 hx with rfl | hx
  · exact h0
  exact hr r hx) (by simpa using h)
def OpR (t : List UInt8) (w : World) (b : Nat) (f : Nat → JR JV) (R : JR (List MemT)) (n : Nat) (W : World) : Prop :=
 ∃ q acc d vm, q ≤ t.length ∧ t.length - q < n ∧ acc.length + n ≤ t.length + 1 ∧ mesP f t n q acc = R ∧ d.Perm acc ∧ SrtM d ∧ (acc.map (fun m => m.1)).Nodup ∧ ObR w b t q 0 d vm W
theorem rp_hfw {W3 wc wd : World} {v u : Value} (hB : Below W3.heap.size W3 wc) (gr : wc.grownBy wd u.ownBlock) (h : ∀ i, u.ownBlock = some i → v.ownBlock = some i) : Frm (fun i => Value.ownBlock v = some i ∨ W3.heap.size ≤ i) W3 wd :=
 (Frm.of_below (F := fun i => Value.ownBlock v = some i ∨ W3.heap.size ≤ i) hB).trans (Frm.of_grown gr (fun _ e => e)) (fun i _ e => .inl (h i e))
theorem rp_l4 {W3 wc wd : World} {k4 : Nat} {s : List UInt8} {k n : Int} {t : List UInt8} {a1 a2 : Option Addr} {n1 c1 n2 c2 : Nat} (hwd : wd = wc.alloc (.cells #[str s, .int .i64 k, .int .i64 n, str t, .slice a1 n1 c1, .slice a2 n2 c2] 121)) (hk4 : k4 = wc.heap.size) (hB : W3.heap.size ≤ wc.heap.size) :
  wd.ownsRow W3.heap.size 121 6 (.slice (some ⟨k4, 0, none⟩) 1 1) 1 (str s :: [.int .i64 k, .int .i64 n, str t, .slice a1 n1 c1, .slice a2 n2 c2]) := by
 rw [hwd, hk4]
 exact World.ownsRow_lit (e := 121) (size := 6) wc #[str s, .int .i64 k, .int .i64 n, str t, .slice a1 n1 c1, .slice a2 n2 c2] 1 hB (by decide) rfl
set_option maxRecDepth 100000 in
set_option maxHeartbeats 16000000 in
theorem docobject_any (t : List UInt8) (b p : Nat) (op : Int) (w : World) (f : Nat → JR JV) (CV : ∀ W q, JRb W b t q 0 → q ≤ t.length → Calls Tryz.prog 75 #[.pointer (some ⟨b, 0, none⟩), .int .i64 op] W (RV t W b (f q)))
 (hf : ∀ q v q1, f q = .ok v q1 → q ≤ q1) (h : JRb w b t p 0) (hp : p < t.length) (hl : t.length ≤ 1000000) :
 Calls Tryz.prog 107 #[.pointer (some ⟨b, 0, none⟩), .int .i64 op] w (RV t w b (objV (objP f t p))) := by
 obtain ⟨i1, hj, hy0, hy1, hy2⟩ := info_parts infoRpM
 have CV := Lib.hid CV
 have HF := Lib.hid hf
 obtain ⟨Wa, hWa, hba, hbx, hsz⟩ := zero_box w
 have hb := h.lt
 have ha := h.below hba
 obtain ⟨r, hr⟩ : ∃ r, r = objV (objP f t p) := ⟨_, rfl⟩
 rw [← hr]
 rw [objP_eq] at hr
 have HRR := Lib.hid hr
 have HA := Lib.hid (And.intro hba (And.intro hbx (And.intro hsz (And.intro ha hb))))
 clear hr hba hbx hsz ha hb h hf
 go_enter Tryz.func107, Tryz.ntmps107
 go_upto_region 1 with fail
 rw [← hWa]
 clear hWa
 go_upto_region 2 with fail
 refine wp_any_world (fun W => W.heap[Wa.heap.size]? = some (.cells #[.int .i64 7, .int .i64 0, str [], .slice none 0 0, .slice none 0 0] 95 (0, 0)) ∧ Below Wa.heap.size Wa W) ⟨heap_alloc_new _ _, below_alloc _ _⟩ ?_
 rintro W1 ⟨hv1, hb1⟩
 have HL : Hid (ObR w b t p 0 [] (.slice none 0 0) W1) := Lib.hid (by
  obtain ⟨hba, hbx, hsz, ha, hb⟩ := HA.out
  rw [hsz] at hv1
  exact ⟨⟨ha.below hb1, (Frm.of_below hba).trans (Frm.of_below (F := fun i => i = b) hb1) (fun _ _ h => h)⟩, box_up hbx hb1, hv1, ⟨[], World.ownsRow_nil _ _ _ _, by unfold RdM; trivial⟩, hb⟩)
 rw [HA.out.2.2.1]
 clear hv1 hb1 HA
 have CE := Lib.hid (rempty_any t b p 0 125 W1 HL.out.js.1 hp (by omega))
 go_wp2_with fail
 refine CE.out.mono ?_
 rintro e W2 ⟨z, q, rfl, hq, hs2, hem⟩
 have HL2 := Lib.hid (HL.out.rd hs2)
 have HEM := Lib.hid hem
 clear CE hs2 hem HL
 cases z with
 | true =>
  have HE : Hid (r = .ok (.mk 7 0 [] [] []) q) := Lib.hid (by
   rw [HRR.out]
   have h := HEM.out
   unfold EmR at h
   unfold mesR
   cases hx : entP t 125 p with
   | err c => rw [hx] at h; cases h.1
   | ok d q0 =>
    rw [hx] at h
    cases d with
    | true => rw [h.2]; simp [srtR, srtM, objV]
    | false => cases h.1)
  have hz := HL2.out.z
  have hv := HL2.out.v
  obtain ⟨v0, v1, v2, v3, v4⟩ := box5 hv
  have HX := Lib.hid (And.intro hz HL2.out.js)
  obtain ⟨b0, b1, b2, b3, b4⟩ := box5 hz
  have hfz := box_fr hz
  clear hz hv HEM HRR
  go_wp2_with fail
  refine bodyPost_any_world (fun W => W.heap[w.heap.size]? = some (.cells #[.int .i64 7, .int .i64 0, str [], .slice none 0 0, .slice none 0 0] 95 (0, 0)) ∧ Frm (fun i => i = w.heap.size) W2 W) (five_set HX.out.1 _ _ _ _ _) ?_
  clear b0 b1 b2 b3 b4 hfz
  rintro w9 ⟨h9, hf9⟩
  obtain ⟨k0, k1, k2, k3, k4⟩ := box5 h9
  refine bodyPost_ret (v := .agg #[.int .i64 7, .int .i64 0, str [], .slice none 0 0, .slice none 0 0]) (by simp [results, Tryz.results107, go_sem, k0, k1, k2, k3, k4]) rfl ?_
  obtain ⟨a, c, e, hv9⟩ := HL2.out.val hf9
  cases e
  exact ⟨_, _, q, 0, rfl, hv9, JSt.grow HX.out.2 hf9 (fun i e => by have := HL2.out.lt; omega), hq, by rw [HE.out]; exact ⟨rfl, rfl, rfl⟩⟩
 | false =>
  have HST : Hid (∃ R, r = objV (srtR R) ∧ OpR t w b f R (t.length + 1) W2) := Lib.hid (by
   have h := HEM.out
   unfold EmR at h
   have hr := HRR.out
   unfold mesR at hr
   cases hx : entP t 125 p with
   | err c =>
    rw [hx] at h hr
    refine ⟨.err 2, by rw [hr, h.2.2], t.length, [], [], _, Nat.le_refl _, by omega, by simp, ?_, List.Perm.refl _, List.Pairwise.nil, by simp, by rw [← h.2.1]; exact HL2.out⟩
    exact mes_txt (Nat.le_refl _) (by rw [skp_end]; exact txt_end t)
   | ok d q0 =>
    rw [hx] at h hr
    cases d with
    | true => cases h.1
    | false =>
     dsimp only at hr
     exact ⟨_, hr, q, [], [], _, hq, by omega, by simp, by rw [h.2], List.Perm.refl _, List.Pairwise.nil, by simp, HL2.out⟩)
  obtain ⟨R, hrR, hst⟩ := HST.out
  have HR := Lib.hid hrR
  have HLP := Lib.hid hst
  clear hrR hst HST HEM HL2 HRR hq
  go_wp2_with fail
  go_loopg [6, 7, 8] (t.length + 1) (fun n v6 v7 v8 wr => Hid (OpR t w b f R n wr))
  case atStart => exact HLP
  case round =>
   obtain ⟨q, acc, d, vm, hq, hqn, han, hmes, hperm, hsort, hnod, hob⟩ := hrel.out
   have HQ := Lib.hid (And.intro hq (And.intro hqn (And.intro han hmes)))
   have HD := Lib.hid (And.intro hperm (And.intro hsort hnod))
   have HO := Lib.hid hob
   have hdl : d.length ≤ 1000000 := by have := hperm.length_eq; omega
   have CS := Lib.hid (rskip_any t b q 0 wr hob.js.1 hq (by omega))
   have hq1 := skp_le t hq
   clear hqn han hmes hperm hsort hnod hob hrel HLP hq
   go_wp2_with fail
   refine CS.out.mono ?_
   rintro e w1 ⟨rfl, hs1⟩
   have HO := Lib.hid (HO.out.rd hs1)
   have CT := Lib.hid (rtext_any t b (skp t q) w1 HO.out.js.1 hq1 (by omega))
   clear hs1 CS hq1
   go_wp2_with fail
   refine CT.out.mono ?_
   rintro e w2 ⟨s, q2, x, rfl, hsl, hq2, hs2, htx⟩
   have HO := Lib.hid (HO.out.rd hs2)
   have HTX := Lib.hid htx
   clear hs2 htx CT
   have hvf : ∃ va vc, vm = .slice va d.length vc := by
    obtain ⟨rows, h1, _⟩ := HO.out.row
    exact own_slice h1
   obtain ⟨va, vc, rfl⟩ := hvf
   have b4 := box_cell HO.out.v 4
   go_wp2_with fail
   go_loopw [7] (fun v7 wr2 => ∃ k : Nat, k ≤ d.length ∧ v7 = .int .i64 (k : Int) ∧ Hid (∀ j (h : j < d.length), j < k → Op.bytesLess d[j].1 s = true) ∧ wr2 = w2) (fun v7 _ => d.length - (intOf v7).toNat)
   case atStart => exact ⟨0, Nat.zero_le _, rfl, Lib.hid (fun j h hj => by omega), rfl⟩
   case round =>
    obtain ⟨k, hk, rfl, HK, rfl⟩ := hrel
    have k0 : (0 : Int) ≤ (k : Int) := by omega
    have kd : (k : Int) ≤ (d.length : Int) := by omega
    have dI : (d.length : Int) ≤ 1000000 := by omega
    have key : (∃ hk : k < d.length, Op.bytesLess d[k].1 s = true) ∨ (∀ hk : k < d.length, Op.bytesLess d[k].1 s = false) := by
     by_cases hlt : k < d.length
     · cases hless : Op.bytesLess d[k].1 s with
       | true => exact .inl ⟨hlt, hless⟩
       | false => exact .inr (fun _ => hless)
     exact .inr (fun h => absurd h hlt)
    rcases key with ⟨hlt, hless⟩ | hstop
    · have n1 : (k : Int) < (d.length : Int) := by omega
      obtain ⟨g, c, hvm, hcell⟩ := HO.out.row.get hlt
      simp only [Value.slice.injEq, true_and] at hvm
      obtain ⟨rfl, rfl⟩ := hvm
      obtain ⟨y, hy⟩ : ∃ y, y = d[k].1 := ⟨_, rfl⟩
      rw [← hy] at hcell hless
      have HK2 : Hid (∀ j (h : j < d.length), j < k + 1 → Op.bytesLess d[j].1 s = true) := Lib.hid (fun j h hj => by
       by_cases e : j = k
       · subst e; rw [← hy]; exact hless
       exact HK.out j h (by omega))
      clear hy HK
      go_wp2_with fail
      go_roundw
      case rel => exact ⟨k + 1, by omega, by go_num, HK2, by first | rfl | trivial⟩
      case measure => simp [intOf]; omega
    have HSTP := Lib.hid hstop
    obtain ⟨DB, hDB⟩ : ∃ DB, DB = decide (x = 0 ∧ ∃ h : k < d.length, d[k].1 = s) := ⟨_, rfl⟩
    go_upto_region 7 with fail
    go_cut [31] from 17 to 33 (fun v wc => v = .bool false ∧ Hid (ObR w b t q2 x d (.slice va d.length vc) wc))
    case first =>
     clear hDB
     by_cases hlt : k < d.length
     · have n1 : (k : Int) < (d.length : Int) := by omega
       obtain ⟨g, c, hvm, hcell⟩ := HO.out.row.get hlt
       simp only [Value.slice.injEq, true_and] at hvm
       obtain ⟨rfl, rfl⟩ := hvm
       have hless := hstop hlt
       obtain ⟨y, hy⟩ : ∃ y, y = d[k].1 := ⟨_, rfl⟩
       rw [← hy] at hcell hless
       clear hy HK hstop
       go_wp2_with fail
       go_meet
       case rel => exact ⟨rfl, HO⟩
     have n1 : ¬ (k : Int) < (d.length : Int) := by omega
     clear hstop
     go_wp2_with fail
     go_meet
     case rel => exact ⟨rfl, HO⟩
    case rest =>
    clear b4 hstop
    obtain ⟨rfl, HO⟩ := hcut
    go_upto_region 9 with fail
    go_cut [55] from 13 to 118 (fun v wc => v = .bool DB ∧ Hid (ObR w b t q2 x d (.slice va d.length vc) wc))
    case first =>
     have c2 := HO.out.js.1.c2
     have b4 := box_cell HO.out.v 4
     by_cases hx : x = 0
     · have e0 : ((x : Int) == 0) = true := by rw [hx]; rfl
       by_cases hlt : k < d.length
       · have n1 : (k : Int) < (d.length : Int) := by omega
         obtain ⟨g, c, hvm, hcell⟩ := HO.out.row.get hlt
         simp only [Value.slice.injEq, true_and] at hvm
         obtain ⟨rfl, rfl⟩ := hvm
         obtain ⟨y, hy⟩ : ∃ y, y = d[k].1 := ⟨_, rfl⟩
         rw [← hy] at hcell
         by_cases hys : y = s
         · obtain rfl : DB = true := by rw [hDB]; exact decide_eq_true ⟨hx, hlt, by rw [← hy]; exact hys⟩
           have t1 : (y == s) = true := by rw [hys]; simp
           clear hDB hy hys hx HK
           go_wp2_with fail
           go_meet
           case rel => exact ⟨rfl, HO⟩
         obtain rfl : DB = false := by rw [hDB]; exact decide_eq_false (fun ⟨_, _, e⟩ => hys (by rw [hy]; exact e))
         have t1 : (y == s) = false := by simpa using hys
         clear hDB hy hys hx HK
         go_wp2_with fail
         go_meet
         case rel => exact ⟨rfl, HO⟩
       have n1 : ¬ (k : Int) < (d.length : Int) := by omega
       obtain rfl : DB = false := by rw [hDB]; exact decide_eq_false (fun ⟨_, h, _⟩ => hlt h)
       clear hDB hx
       go_wp2_with fail
       go_meet
       case rel => exact ⟨rfl, HO⟩
     have e0 : ((x : Int) == 0) = false := by rw [beq_eq_false_iff_ne]; omega
     obtain rfl : DB = false := by rw [hDB]; exact decide_eq_false (fun ⟨h, _⟩ => hx h)
     clear hDB hx
     go_wp2_with fail
     go_meet
     case rel => exact ⟨rfl, HO⟩
    case rest =>
    obtain ⟨rfl, HO⟩ := hcut
    have HDUP : Hid ((∃ h : k < d.length, d[k].1 = s) ↔ s ∈ acc.map (fun m => m.1)) := Lib.hid (dup_iff HD.out.1 HD.out.2.1 HK.out HSTP.out)
    cases DB with
    | true =>
     obtain ⟨hx, hdup⟩ := of_decide_eq_true hDB.symm
     subst hx
     have HE : Hid (r = .err 4) := Lib.hid (by
      obtain ⟨hq, hqn, han, hmes⟩ := HQ.out
      obtain ⟨m, rfl⟩ : ∃ m, gk = m + 1 := ⟨gk - 1, by omega⟩
      have h := HTX.out
      unfold TxR at h
      cases hx : txtP t (skp t q) with
      | err c => rw [hx] at h; exact absurd h.1.symm h.2
      | ok s0 q0 =>
       rw [hx] at h
       obtain ⟨rfl, rfl, _⟩ := h
       rw [mes_ok hx, if_pos (HDUP.out.1 hdup)] at hmes
       rw [HR.out, ← hmes]
       rfl)
     clear hdup hDB
     go_wp2_with fail
     refine (rfail_first 4 (HO.out).js.1).mono ?_
     rintro e wf ⟨rfl, hsf⟩
     have HO9 := Lib.hid ((HO.out).rd hsf)
     have hz := HO9.out.z
     have HX := Lib.hid (And.intro hz HO9.out.js)
     obtain ⟨b0, b1, b2, b3, b4⟩ := box5 hz
     have hfz := box_fr hz
     clear hz hsf
     go_wp2_with fail
     refine bodyPost_any_world (fun W => W.heap[w.heap.size]? = some (.cells #[.int .i64 0, .int .i64 0, str [], .slice none 0 0, .slice none 0 0] 95 (0, 0)) ∧ Frm (fun i => i = w.heap.size) wf W) (five_set HX.out.1 _ _ _ _ _) ?_
     clear b0 b1 b2 b3 b4 hfz
     rintro w9 ⟨h9, hf9⟩
     obtain ⟨k0, k1, k2, k3, k4⟩ := box5 h9
     refine bodyPost_ret (v := .agg #[.int .i64 0, .int .i64 0, str [], .slice none 0 0, .slice none 0 0]) (by simp [results, Tryz.results107, go_sem, k0, k1, k2, k3, k4]) rfl ?_
     exact rv_flat (JSt.grow HX.out.2 hf9 (fun i e => by have := HO9.out.lt; omega)) hq2 (by rw [HE.out]; exact ⟨rfl, by decide⟩)
    | false =>
     have HND : Hid (x = 0 → s ∉ acc.map (fun m => m.1)) := Lib.hid (fun hx hm => by
      rw [decide_eq_true ⟨hx, HDUP.out.2 hm⟩] at hDB
      cases hDB)
     clear hDB
     have CS := Lib.hid (rskip_any t b q2 x _ HO.out.js.1 hq2 (by omega))
     have hq3 := skp_le t hq2
     obtain ⟨q3, hq3e⟩ : ∃ q3, q3 = skp t q2 := ⟨_, rfl⟩
     rw [← hq3e] at CS hq3
     have HQ3 := Lib.hid hq3e
     clear hq3e
     go_wp2_with fail
     refine CS.out.mono ?_
     rintro e w4 ⟨rfl, hs4⟩
     have HO := Lib.hid (HO.out.rd hs4)
     clear hs4 CS
     have c2 := HO.out.js.1.c2
     by_cases hx : x = 0
     case neg =>
      have e0 : ((x : Int) != 0) = true := by rw [bne_iff_ne]; omega
      have HE : Hid (r = .err x) := Lib.hid (by
       obtain ⟨hq, hqn, han, hmes⟩ := HQ.out
       obtain ⟨m, rfl⟩ : ∃ m, gk = m + 1 := ⟨gk - 1, by omega⟩
       have h := HTX.out
       unfold TxR at h
       cases hxx : txtP t (skp t q) with
       | err c =>
        rw [hxx] at h
        rw [mes_txt hq hxx] at hmes
        rw [HR.out, ← hmes, h.1]
        rfl
       | ok s0 q0 =>
        rw [hxx] at h
        exact absurd h.2.2 hx)
      have HX0 := Lib.hid hx
      clear hx
      have hz := HO.out.z
      have hv := HO.out.v
      obtain ⟨v0, v1, v2, v3, v4⟩ := box5 hv
      have HX := Lib.hid (And.intro hz HO.out.js)
      obtain ⟨b0, b1, b2, b3, b4⟩ := box5 hz
      have hfz := box_fr hz
      clear hz hv
      go_wp2_with fail
      refine bodyPost_any_world (fun W => W.heap[w.heap.size]? = some (.cells #[.int .i64 7, .int .i64 0, str [], .slice none 0 0, .slice va d.length vc] 95 (0, 0)) ∧ Frm (fun i => i = w.heap.size) w4 W) (five_set HX.out.1 _ _ _ _ _) ?_
      clear b0 b1 b2 b3 b4 hfz
      rintro w9 ⟨h9, hf9⟩
      obtain ⟨k0, k1, k2, k3, k4⟩ := box5 h9
      refine bodyPost_ret (v := .agg #[.int .i64 7, .int .i64 0, str [], .slice none 0 0, .slice va d.length vc]) (by simp [results, Tryz.results107, go_sem, k0, k1, k2, k3, k4]) rfl ?_
      obtain ⟨a9, c9, e9, hv9⟩ := HO.out.val hf9
      simp only [Value.slice.injEq, true_and] at e9
      obtain ⟨rfl, rfl⟩ := e9
      exact ⟨_, _, q3, x, rfl, hv9, JSt.grow HX.out.2 hf9 (fun i e => by have := HO.out.lt; omega), hq3, by rw [HE.out]; exact ⟨rfl, HX0.out⟩⟩
     subst hx
     have e0 : (((0 : Nat) : Int) != 0) = false := rfl
     have HMES : Hid (∃ m, gk = m + 1 ∧ txtP t (skp t q) = .ok s q2 ∧ R = (match t[q3]? with
      | none => .err 2
      | some c => if c ≠ 58 then .err 4 else match f (q3 + 1) with
        | .err e => .err e
        | .ok v r => match behP t 125 r with
          | .err e => .err e
          | .ok true r' => .ok (acc ++ [(s, v)]) r'
          | .ok false r' => mesP f t m r' (acc ++ [(s, v)]))) := Lib.hid (by
      obtain ⟨hq, hqn, han, hmes⟩ := HQ.out
      obtain ⟨m, rfl⟩ : ∃ m, gk = m + 1 := ⟨gk - 1, by omega⟩
      have h := HTX.out
      unfold TxR at h
      cases hxx : txtP t (skp t q) with
      | err c => rw [hxx] at h; exact absurd h.1.symm h.2
      | ok s0 q0 =>
       rw [hxx] at h
       obtain ⟨rfl, rfl, _⟩ := h
       refine ⟨m, rfl, rfl, ?_⟩
       rw [mes_ok hxx, if_neg (HND.out rfl), ← HQ3.out] at hmes
       exact hmes.symm)
     have c0 := HO.out.js.1.c0
     have c1 := HO.out.js.1.c1
     by_cases h3 : q3 = t.length
     · have m1 : ((q3 : Int) == (t.length : Int)) = true := by rw [h3]; exact beq_self_eq_true _
       have HE : Hid (r = .err 2) := Lib.hid (by
        obtain ⟨m, _, _, hR⟩ := HMES.out
        rw [List.getElem?_eq_none (by omega)] at hR
        rw [HR.out, hR]
        rfl)
       clear h3
       go_wp2_with fail
       go_quiet (fail)
       go_wp2_with fail
       refine (rfail_first 2 (HO.out.up (Below.drewsN (Below.refl _ _) _)).js.1).mono ?_
       rintro e wf ⟨rfl, hsf⟩
       have HO9 := Lib.hid ((HO.out.up (Below.drewsN (Below.refl _ _) _)).rd hsf)
       have hz := HO9.out.z
       have HX := Lib.hid (And.intro hz HO9.out.js)
       obtain ⟨b0, b1, b2, b3, b4⟩ := box5 hz
       have hfz := box_fr hz
       clear hz hsf
       go_wp2_with fail
       refine bodyPost_any_world (fun W => W.heap[w.heap.size]? = some (.cells #[.int .i64 0, .int .i64 0, str [], .slice none 0 0, .slice none 0 0] 95 (0, 0)) ∧ Frm (fun i => i = w.heap.size) wf W) (five_set HX.out.1 _ _ _ _ _) ?_
       clear b0 b1 b2 b3 b4 hfz
       rintro w9 ⟨h9, hf9⟩
       obtain ⟨k0, k1, k2, k3, k4⟩ := box5 h9
       refine bodyPost_ret (v := .agg #[.int .i64 0, .int .i64 0, str [], .slice none 0 0, .slice none 0 0]) (by simp [results, Tryz.results107, go_sem, k0, k1, k2, k3, k4]) rfl ?_
       exact rv_flat (JSt.grow HX.out.2 hf9 (fun i e => by have := HO9.out.lt; omega)) hq3 (by rw [HE.out]; exact ⟨rfl, by decide⟩)
     have hlt3 : q3 < t.length := by omega
     have m1 : ((q3 : Int) == (t.length : Int)) = false := by rw [beq_eq_false_iff_ne]; omega
     have m2 : (q3 : Int) < (t.length : Int) := by omega
     have m3 : (0 : Int) ≤ (q3 : Int) := by omega
     have m4 : (q3 : Int) ≤ 1000000 := by omega
     obtain ⟨c, hc⟩ : ∃ c, c = t[q3] := ⟨_, rfl⟩
     have hgc : (ByteArray.mk t.toArray)[q3]'(by simpa [ByteArray.size] using hlt3) = c := hc.symm
     have HC := Lib.hid hc
     clear hc
     have n58 := tstn c 58 (z := 58) rfl
     by_cases hc58 : c = 58
     case neg =>
      rw [nne_of hc58] at n58
      have HE : Hid (r = .err 4) := Lib.hid (by
       obtain ⟨m, _, _, hR⟩ := HMES.out
       rw [List.getElem?_eq_getElem hlt3, ← HC.out] at hR
       dsimp only at hR
       rw [if_pos hc58] at hR
       rw [HR.out, hR]
       rfl)
      clear hc58
      go_wp2_with fail
      go_quiet (fail)
      go_wp2_with fail
      go_quiet (fail)
      go_wp2_with fail
      refine (rfail_first 4 (HO.out.up (Below.drewsN (Below.refl _ _) _)).js.1).mono ?_
      rintro e wf ⟨rfl, hsf⟩
      have HO9 := Lib.hid ((HO.out.up (Below.drewsN (Below.refl _ _) _)).rd hsf)
      have hz := HO9.out.z
      have HX := Lib.hid (And.intro hz HO9.out.js)
      obtain ⟨b0, b1, b2, b3, b4⟩ := box5 hz
      have hfz := box_fr hz
      clear hz hsf
      go_wp2_with fail
      refine bodyPost_any_world (fun W => W.heap[w.heap.size]? = some (.cells #[.int .i64 0, .int .i64 0, str [], .slice none 0 0, .slice none 0 0] 95 (0, 0)) ∧ Frm (fun i => i = w.heap.size) wf W) (five_set HX.out.1 _ _ _ _ _) ?_
      clear b0 b1 b2 b3 b4 hfz
      rintro w9 ⟨h9, hf9⟩
      obtain ⟨k0, k1, k2, k3, k4⟩ := box5 h9
      refine bodyPost_ret (v := .agg #[.int .i64 0, .int .i64 0, str [], .slice none 0 0, .slice none 0 0]) (by simp [results, Tryz.results107, go_sem, k0, k1, k2, k3, k4]) rfl ?_
      exact rv_flat (JSt.grow HX.out.2 hf9 (fun i e => by have := HO9.out.lt; omega)) hq3 (by rw [HE.out]; exact ⟨rfl, by decide⟩)
     rw [neq_of hc58] at n58
     have HM2 : Hid (∃ m, gk = m + 1 ∧ txtP t (skp t q) = .ok s q2 ∧ R = (match f (q3 + 1) with
      | .err e => .err e
      | .ok v r => match behP t 125 r with
        | .err e => .err e
        | .ok true r' => .ok (acc ++ [(s, v)]) r'
        | .ok false r' => mesP f t m r' (acc ++ [(s, v)]))) := Lib.hid (by
      obtain ⟨m, h1, h2, hR⟩ := HMES.out
      rw [List.getElem?_eq_getElem hlt3, ← HC.out] at hR
      dsimp only at hR
      rw [if_neg (by rw [hc58]; simp)] at hR
      exact ⟨m, h1, h2, hR⟩)
     have f1 := HO.out.js.1.fr 1
     clear hc58 HMES
     go_wp2_with fail
     go_quiet (fail)
     go_wp2_with fail
     go_quiet (fail)
     go_upto_region 19 with fail
     refine wp_any_world (fun W => ObR w b t (q3 + 1) 0 d (.slice va d.length vc) W) ((HO.out.up (Below.drewsN (Below.refl _ _) _)).setAt (q3 + 1) _ (by omega)) ?_
     clear c0 c1 c2 f1 hgc HO
     intro w5 ho5
     have HO := Lib.hid ho5
     have CV1 := Lib.hid (CV.out w5 (q3 + 1) ho5.js.1 (by omega))
     clear ho5
     go_wp2_with fail
     refine CV1.out.mono ?_
     rintro e w6 ⟨v, cs, q5, x5, rfl, hv, hs6, hq5, hres⟩
     obtain ⟨al, ll, cl, am, lm, cm, rfl, _, _⟩ := hv.open
     have HB0 : Hid (w.heap.size + 2 ≤ w5.heap.size ∧ ∀ j, Value.ownBlock (.slice va d.length vc) = some j → j < w5.heap.size) := Lib.hid ⟨HO.out.sz, fun j hj => (HO.out.vb j hj).2⟩
     have HO := Lib.hid (HO.out.rd hs6)
     have HRS := Lib.hid hres
     have H56 : Hid (w5.heap.size ≤ w6.heap.size) := Lib.hid hs6.2.size
     clear hres hs6 CV1
     go_upto_region 20 with fail
     refine wp_any_world (fun W => W.heap[w6.heap.size]? = some (.cells #[.int .i64 v.kind, .int .i64 v.n, str v.s, .slice al ll cl, .slice am lm cm] 95 (0, 0)) ∧ Below w6.heap.size w6 W) ⟨heap_alloc_new _ _, below_alloc _ _⟩ ?_
     rintro W3 ⟨hx3, hb3⟩
     have HX3 := Lib.hid hx3
     have HO3 := Lib.hid (HO.out.up hb3)
     have HV3 := Lib.hid (hv.up hb3)
     have H63 : Hid (w6.heap.size < W3.heap.size) := Lib.hid (Array.getElem?_eq_some_iff.1 hx3).1
     clear hx3 hb3 hv HO
     go_cut [] from 13 to 118 (fun wc => ∃ vm2, Hid (ObR w b t q5 x5 (d.take k ++ (s, v) :: d.drop k) vm2 wc))
     case first =>
      obtain ⟨rows, ho3, hr3⟩ := HO3.out.row
      have hrl := (RdM.rows hr3).2
      have hrn := (RdM.rows hr3).1
      have HR3 := Lib.hid (And.intro ho3 hr3)
      have HRL := Lib.hid hrl
      have kL : k ≤ d.length := hk
      have hdr : (rows.drop k).length = d.length - k := by rw [List.length_drop, hrn]
      have HDR := Lib.hid hdr
      cases va with
      | some ad =>
       obtain ⟨g, cap, hsl, _, _⟩ | hsl := (show (∃ g cap, Value.slice (some ad) d.length vc = .slice (some ⟨g, 0, none⟩) d.length cap ∧ True ∧ True) ∨ False by
        rcases ho3.2 with ⟨h0, _⟩ | ⟨g, cap, cur, h0, _⟩
        · cases h0
        exact .inl ⟨g, cap, h0, trivial, trivial⟩)
       simp only [Value.slice.injEq, Option.some.injEq, true_and] at hsl
       obtain ⟨rfl, rfl⟩ := hsl
       obtain ⟨hc1, hc2, hc3⟩ := row_cap ho3
       have kc : (k : Int) ≤ (vc : Int) := by omega
       have nc : (d.length : Int) ≤ (vc : Int) := by omega
       clear ho3 hr3 hrl hdr hrn
       obtain ⟨wc, hwc⟩ : ∃ x, x = W3.drew := ⟨_, rfl⟩
       have HB := Lib.hid (show Below W3.heap.size W3 wc by rw [hwc]; exact Below.drewsN (Below.refl _ _) 1)
       refine wp_region_held_drew (S := (fun W => W.heap[w6.heap.size]? = some (.cells #[.int .i64 v.kind, .int .i64 v.n, str v.s, .slice al ll cl, .slice am lm cm] 95 (0, 0)))) (by kernel_rfl) (by rw [← hwc]; exact box_up HX3.out HB.out) (fun hHeld => ?_)
       rw [← hwc] at hHeld ⊢
       clear hwc
       refine wtk 0 rfl ?_; go_simp
       refine wtk 2 rfl ?_; go_simp
       refine wtk 4 rfl ?_; go_simp
       refine wtl 5 rfl (by intro w hSw; have hs0 := box_cell hSw 0; have hs1 := box_cell hSw 1; have hs2 := box_cell hSw 2; have hs3 := box_cell hSw 3; have hs4 := box_cell hSw 4; go_simp; try with_reducible rfl) ?_; go_simp
       refine wtk 6 rfl ?_; go_simp
       refine wtk 8 rfl ?_; go_simp
       refine wtk 10 rfl ?_; go_simp
       refine wpAnyH_ready (rs := [1, 7, 9]) (by kernel_rfl) (by simp) (AllReadyH.cons rfl (fun K hK => ?_) (AllReadyH.cons rfl (fun K hK => ?_) (AllReadyH.cons rfl (fun K hK => ?_) AllReadyH.nil)))
       · have cq := box_cell (box_up HO3.out.v HB.out) 4
         go_simp
         clear cq
         refine hK.out _ _ (box_up HX3.out HB.out) (fun hHeld => ?_)
         clear hK K
         refine wtk 3 rfl ?_; go_simp
         refine wpAnyH_ready (rs := [7, 9]) (by kernel_rfl) (by simp) (AllReadyH.cons rfl (fun K hK => ?_) (AllReadyH.cons rfl (fun K hK => ?_) AllReadyH.nil))
         · go_simp
           obtain ⟨k4, hk4⟩ : ∃ k, k = wc.heap.size := ⟨_, rfl⟩
           obtain ⟨wd, hwd⟩ : ∃ W, W = wc.alloc (.cells #[str s, .int .i64 v.kind, .int .i64 v.n, str v.s, .slice al ll cl, .slice am lm cm] 121) := ⟨_, rfl⟩
           have hbs : Below wc.heap.size wc wd := by rw [hwd]; exact below_alloc _ _
           have HL4 := Lib.hid (rp_l4 hwd hk4 HB.out.size)
           have HB := Lib.hid (HB.out.trans (hbs.mono HB.out.size))
           rw [← hwd, ← hk4]
           clear hwd hk4 hbs
           rename World => wc
           refine hK.out _ _ (box_up HX3.out HB.out) (fun hHeld => ?_)
           clear hK K
           refine wrd 9 rfl fun K hK => ?_
           have cq := box_cell (box_up HO3.out.v HB.out) 4
           go_simp
           clear cq
           refine hK.out _ _ (box_up HX3.out HB.out) (fun hHeld => ?_)
           clear hK K
           refine wtk 11 rfl ?_; go_simp
           refine wrd 12 rfl fun K hK => ?_
           refine step_appendG (by rfl) _ _ 93 (by rfl) W3.heap.size 121 i1 _ 6 96 Tryz.underlying93 hj hy0 hy1 hy2 rfl (by decide) k4 1 1 _ (by rfl) HL4.out _ (rows.drop k) (fun r hr => HRL.out r (List.mem_of_mem_drop hr)) (RdM.one ((HR3.out.2.up HB.out).drop k)) (by rfl) (rm_behind (owns_below HR3.out.1 HB.out (Nat.le_refl _)) (HR3.out.2.up HB.out) kL) (fun c h => by first | exact ite_noneR h | cases h) ?_ ?_ HB.out.size ?_
           · rw [HDR.out]; simp only [maxLen]; omega
           · rw [HDR.out]; omega
           intro g8 c8 wd r8 gr8
           have HB := Lib.hid (HB.out.grown gr8 HB.out.size (fun k e => by cases e; exact (HL4.out.lt k4 rfl).1))
           have HR8 := Lib.hid (ins_rowM (R := (rows.drop k)) (rw0 := str s :: [.int .i64 v.kind, .int .i64 v.n, str v.s, .slice al ll cl, .slice am lm cm]) (fun r hr => HRL.out r (List.mem_of_mem_drop hr)) rfl r8)
           clear r8 gr8
           rename World => wc
           rw [HDR.out]
           go_simp
           refine hK.out _ _ (box_up HX3.out HB.out) (fun hHeld => ?_)
           clear hK K
           refine wrd 13 rfl fun K hK => ?_
           refine step_appendJ (by rfl) _ _ 93 (by rfl) (w.heap.size + 2) 121 i1 _ 6 96 Tryz.underlying93 hj hy0 hy1 hy2 rfl (by decide) (.slice (some ⟨g, 0, none⟩) k vc) k _ (by rfl) (rm_ahead (owns_below HR3.out.1 HB.out (Nat.le_refl _)) (HR3.out.2.up HB.out) kL) _ ((str s :: [.int .i64 v.kind, .int .i64 v.n, str v.s, .slice al ll cl, .slice am lm cm]) :: (rows.drop k)) (fun r hr => by rcases List.mem_cons.1 hr with rfl | hr; rfl; exact HRL.out r (List.mem_of_mem_drop hr)) (fun u hu => by rw [List.flatten_cons, List.mem_append] at hu; rcases hu with hu | hu; (rcases List.mem_cons.1 hu with rfl | hu; rfl; exact RdJ.one HV3.out u hu); exact RdM.one ((HR3.out.2.up HB.out).drop k) u hu) (by rfl) (HR8.out _ (by first | (rw [HDR.out]; done) | (rw [HDR.out]; omega) | omega | (simp; done) | (simp; omega))) (by simp) ?_ ?_ (Nat.le_trans HO3.out.sz HB.out.size) ?_
           · rw [List.length_cons, HDR.out]; simp only [maxLen]; omega
           · rw [List.length_cons, HDR.out]; omega
           intro g9 c9 wd r9 gr9 lo9
           rw [show k + ((str s :: [.int .i64 v.kind, .int .i64 v.n, str v.s, .slice al ll cl, .slice am lm cm]) :: rows.drop k).length = d.length + 1 by have := HDR.out; simp only [List.length_cons]; omega] at r9 ⊢
           have HFW := Lib.hid (rp_hfw (v := .slice (some ⟨g, 0, none⟩) d.length vc) HB.out gr9 (fun i e => by simpa [Value.ownBlock] using e))
           have HI := Lib.hid (ObR.ins HO3.out HR3.out.1 HR3.out.2 kL HB0.out.1 HB0.out.2 HV3.out HFW.out (by first | exact r9 | simpa using r9) (lo9.imp (fun e => by first | exact e | (simpa [Value.ownBlock] using e)) (fun e => by rw [e]; exact HB.out.size)))
           have HSW := Lib.hid (box_frm HX3.out HFW.out (by have h1 := HB0.out.2; have h2 := H56.out; have h3 := H63.out; rintro (e | e); (have := h1 _ e; omega); omega))
           clear r9 gr9 lo9
           rename World => wc
           go_simp
           refine hK.out _ _ (HSW.out) (fun hHeld => ?_)
           clear hK K
           refine wtk 14 rfl ?_; go_simp
           refine wrd 15 rfl fun K hK => ?_
           have cq := HI.out.2.1
           have fq := HI.out.2.2
           go_simp
           clear cq fq
           refine hK.out _ _ (box_far _ HSW.out (by have := HO3.out.lt; have := HB0.out.1; have := H56.out; omega)) (fun hHeld => ?_)
           clear hK K
           refine wpAnyH_done (by kernel_rfl) ?_ _
           have HN := Lib.hid HI.out.1
           clear HB HI HSW HFW
           go_wp2_with fail
           all_goals
            go_meet
            exact ⟨_, HN⟩
         have cq := box_cell (box_up HO3.out.v HB.out) 4
         go_simp
         clear cq
         refine hK.out _ _ (box_up HX3.out HB.out) (fun hHeld => ?_)
         clear hK K
         refine wtk 11 rfl ?_; go_simp
         refine wrd 7 rfl fun K hK => ?_
         go_simp
         obtain ⟨k4, hk4⟩ : ∃ k, k = wc.heap.size := ⟨_, rfl⟩
         obtain ⟨wd, hwd⟩ : ∃ W, W = wc.alloc (.cells #[str s, .int .i64 v.kind, .int .i64 v.n, str v.s, .slice al ll cl, .slice am lm cm] 121) := ⟨_, rfl⟩
         have hbs : Below wc.heap.size wc wd := by rw [hwd]; exact below_alloc _ _
         have HL4 := Lib.hid (rp_l4 hwd hk4 HB.out.size)
         have HB := Lib.hid (HB.out.trans (hbs.mono HB.out.size))
         rw [← hwd, ← hk4]
         clear hwd hk4 hbs
         rename World => wc
         refine hK.out _ _ (box_up HX3.out HB.out) (fun hHeld => ?_)
         clear hK K
         refine wrd 12 rfl fun K hK => ?_
         refine step_appendG (by rfl) _ _ 93 (by rfl) W3.heap.size 121 i1 _ 6 96 Tryz.underlying93 hj hy0 hy1 hy2 rfl (by decide) k4 1 1 _ (by rfl) HL4.out _ (rows.drop k) (fun r hr => HRL.out r (List.mem_of_mem_drop hr)) (RdM.one ((HR3.out.2.up HB.out).drop k)) (by rfl) (rm_behind (owns_below HR3.out.1 HB.out (Nat.le_refl _)) (HR3.out.2.up HB.out) kL) (fun c h => by first | exact ite_noneR h | cases h) ?_ ?_ HB.out.size ?_
         · rw [HDR.out]; simp only [maxLen]; omega
         · rw [HDR.out]; omega
         intro g8 c8 wd r8 gr8
         have HB := Lib.hid (HB.out.grown gr8 HB.out.size (fun k e => by cases e; exact (HL4.out.lt k4 rfl).1))
         have HR8 := Lib.hid (ins_rowM (R := (rows.drop k)) (rw0 := str s :: [.int .i64 v.kind, .int .i64 v.n, str v.s, .slice al ll cl, .slice am lm cm]) (fun r hr => HRL.out r (List.mem_of_mem_drop hr)) rfl r8)
         clear r8 gr8
         rename World => wc
         rw [HDR.out]
         go_simp
         refine hK.out _ _ (box_up HX3.out HB.out) (fun hHeld => ?_)
         clear hK K
         refine wrd 13 rfl fun K hK => ?_
         refine step_appendJ (by rfl) _ _ 93 (by rfl) (w.heap.size + 2) 121 i1 _ 6 96 Tryz.underlying93 hj hy0 hy1 hy2 rfl (by decide) (.slice (some ⟨g, 0, none⟩) k vc) k _ (by rfl) (rm_ahead (owns_below HR3.out.1 HB.out (Nat.le_refl _)) (HR3.out.2.up HB.out) kL) _ ((str s :: [.int .i64 v.kind, .int .i64 v.n, str v.s, .slice al ll cl, .slice am lm cm]) :: (rows.drop k)) (fun r hr => by rcases List.mem_cons.1 hr with rfl | hr; rfl; exact HRL.out r (List.mem_of_mem_drop hr)) (fun u hu => by rw [List.flatten_cons, List.mem_append] at hu; rcases hu with hu | hu; (rcases List.mem_cons.1 hu with rfl | hu; rfl; exact RdJ.one HV3.out u hu); exact RdM.one ((HR3.out.2.up HB.out).drop k) u hu) (by rfl) (HR8.out _ (by first | (rw [HDR.out]; done) | (rw [HDR.out]; omega) | omega | (simp; done) | (simp; omega))) (by simp) ?_ ?_ (Nat.le_trans HO3.out.sz HB.out.size) ?_
         · rw [List.length_cons, HDR.out]; simp only [maxLen]; omega
         · rw [List.length_cons, HDR.out]; omega
         intro g9 c9 wd r9 gr9 lo9
         rw [show k + ((str s :: [.int .i64 v.kind, .int .i64 v.n, str v.s, .slice al ll cl, .slice am lm cm]) :: rows.drop k).length = d.length + 1 by have := HDR.out; simp only [List.length_cons]; omega] at r9 ⊢
         have HFW := Lib.hid (rp_hfw (v := .slice (some ⟨g, 0, none⟩) d.length vc) HB.out gr9 (fun i e => by simpa [Value.ownBlock] using e))
         have HI := Lib.hid (ObR.ins HO3.out HR3.out.1 HR3.out.2 kL HB0.out.1 HB0.out.2 HV3.out HFW.out (by first | exact r9 | simpa using r9) (lo9.imp (fun e => by first | exact e | (simpa [Value.ownBlock] using e)) (fun e => by rw [e]; exact HB.out.size)))
         have HSW := Lib.hid (box_frm HX3.out HFW.out (by have h1 := HB0.out.2; have h2 := H56.out; have h3 := H63.out; rintro (e | e); (have := h1 _ e; omega); omega))
         clear r9 gr9 lo9
         rename World => wc
         go_simp
         refine hK.out _ _ (HSW.out) (fun hHeld => ?_)
         clear hK K
         refine wtk 14 rfl ?_; go_simp
         refine wrd 15 rfl fun K hK => ?_
         have cq := HI.out.2.1
         have fq := HI.out.2.2
         go_simp
         clear cq fq
         refine hK.out _ _ (box_far _ HSW.out (by have := HO3.out.lt; have := HB0.out.1; have := H56.out; omega)) (fun hHeld => ?_)
         clear hK K
         refine wpAnyH_done (by kernel_rfl) ?_ _
         have HN := Lib.hid HI.out.1
         clear HB HI HSW HFW
         go_wp2_with fail
         all_goals
          go_meet
          exact ⟨_, HN⟩
       · go_simp
         obtain ⟨k4, hk4⟩ : ∃ k, k = wc.heap.size := ⟨_, rfl⟩
         obtain ⟨wd, hwd⟩ : ∃ W, W = wc.alloc (.cells #[str s, .int .i64 v.kind, .int .i64 v.n, str v.s, .slice al ll cl, .slice am lm cm] 121) := ⟨_, rfl⟩
         have hbs : Below wc.heap.size wc wd := by rw [hwd]; exact below_alloc _ _
         have HL4 := Lib.hid (rp_l4 hwd hk4 HB.out.size)
         have HB := Lib.hid (HB.out.trans (hbs.mono HB.out.size))
         rw [← hwd, ← hk4]
         clear hwd hk4 hbs
         rename World => wc
         refine hK.out _ _ (box_up HX3.out HB.out) (fun hHeld => ?_)
         clear hK K
         refine wpAnyH_ready (rs := [1, 9]) (by kernel_rfl) (by simp) (AllReadyH.cons rfl (fun K hK => ?_) (AllReadyH.cons rfl (fun K hK => ?_) AllReadyH.nil))
         · have cq := box_cell (box_up HO3.out.v HB.out) 4
           go_simp
           clear cq
           refine hK.out _ _ (box_up HX3.out HB.out) (fun hHeld => ?_)
           clear hK K
           refine wtk 3 rfl ?_; go_simp
           refine wrd 9 rfl fun K hK => ?_
           have cq := box_cell (box_up HO3.out.v HB.out) 4
           go_simp
           clear cq
           refine hK.out _ _ (box_up HX3.out HB.out) (fun hHeld => ?_)
           clear hK K
           refine wtk 11 rfl ?_; go_simp
           refine wrd 12 rfl fun K hK => ?_
           refine step_appendG (by rfl) _ _ 93 (by rfl) W3.heap.size 121 i1 _ 6 96 Tryz.underlying93 hj hy0 hy1 hy2 rfl (by decide) k4 1 1 _ (by rfl) HL4.out _ (rows.drop k) (fun r hr => HRL.out r (List.mem_of_mem_drop hr)) (RdM.one ((HR3.out.2.up HB.out).drop k)) (by rfl) (rm_behind (owns_below HR3.out.1 HB.out (Nat.le_refl _)) (HR3.out.2.up HB.out) kL) (fun c h => by first | exact ite_noneR h | cases h) ?_ ?_ HB.out.size ?_
           · rw [HDR.out]; simp only [maxLen]; omega
           · rw [HDR.out]; omega
           intro g8 c8 wd r8 gr8
           have HB := Lib.hid (HB.out.grown gr8 HB.out.size (fun k e => by cases e; exact (HL4.out.lt k4 rfl).1))
           have HR8 := Lib.hid (ins_rowM (R := (rows.drop k)) (rw0 := str s :: [.int .i64 v.kind, .int .i64 v.n, str v.s, .slice al ll cl, .slice am lm cm]) (fun r hr => HRL.out r (List.mem_of_mem_drop hr)) rfl r8)
           clear r8 gr8
           rename World => wc
           rw [HDR.out]
           go_simp
           refine hK.out _ _ (box_up HX3.out HB.out) (fun hHeld => ?_)
           clear hK K
           refine wrd 13 rfl fun K hK => ?_
           refine step_appendJ (by rfl) _ _ 93 (by rfl) (w.heap.size + 2) 121 i1 _ 6 96 Tryz.underlying93 hj hy0 hy1 hy2 rfl (by decide) (.slice (some ⟨g, 0, none⟩) k vc) k _ (by rfl) (rm_ahead (owns_below HR3.out.1 HB.out (Nat.le_refl _)) (HR3.out.2.up HB.out) kL) _ ((str s :: [.int .i64 v.kind, .int .i64 v.n, str v.s, .slice al ll cl, .slice am lm cm]) :: (rows.drop k)) (fun r hr => by rcases List.mem_cons.1 hr with rfl | hr; rfl; exact HRL.out r (List.mem_of_mem_drop hr)) (fun u hu => by rw [List.flatten_cons, List.mem_append] at hu; rcases hu with hu | hu; (rcases List.mem_cons.1 hu with rfl | hu; rfl; exact RdJ.one HV3.out u hu); exact RdM.one ((HR3.out.2.up HB.out).drop k) u hu) (by rfl) (HR8.out _ (by first | (rw [HDR.out]; done) | (rw [HDR.out]; omega) | omega | (simp; done) | (simp; omega))) (by simp) ?_ ?_ (Nat.le_trans HO3.out.sz HB.out.size) ?_
           · rw [List.length_cons, HDR.out]; simp only [maxLen]; omega
           · rw [List.length_cons, HDR.out]; omega
           intro g9 c9 wd r9 gr9 lo9
           rw [show k + ((str s :: [.int .i64 v.kind, .int .i64 v.n, str v.s, .slice al ll cl, .slice am lm cm]) :: rows.drop k).length = d.length + 1 by have := HDR.out; simp only [List.length_cons]; omega] at r9 ⊢
           have HFW := Lib.hid (rp_hfw (v := .slice (some ⟨g, 0, none⟩) d.length vc) HB.out gr9 (fun i e => by simpa [Value.ownBlock] using e))
           have HI := Lib.hid (ObR.ins HO3.out HR3.out.1 HR3.out.2 kL HB0.out.1 HB0.out.2 HV3.out HFW.out (by first | exact r9 | simpa using r9) (lo9.imp (fun e => by first | exact e | (simpa [Value.ownBlock] using e)) (fun e => by rw [e]; exact HB.out.size)))
           have HSW := Lib.hid (box_frm HX3.out HFW.out (by have h1 := HB0.out.2; have h2 := H56.out; have h3 := H63.out; rintro (e | e); (have := h1 _ e; omega); omega))
           clear r9 gr9 lo9
           rename World => wc
           go_simp
           refine hK.out _ _ (HSW.out) (fun hHeld => ?_)
           clear hK K
           refine wtk 14 rfl ?_; go_simp
           refine wrd 15 rfl fun K hK => ?_
           have cq := HI.out.2.1
           have fq := HI.out.2.2
           go_simp
           clear cq fq
           refine hK.out _ _ (box_far _ HSW.out (by have := HO3.out.lt; have := HB0.out.1; have := H56.out; omega)) (fun hHeld => ?_)
           clear hK K
           refine wpAnyH_done (by kernel_rfl) ?_ _
           have HN := Lib.hid HI.out.1
           clear HB HI HSW HFW
           go_wp2_with fail
           all_goals
            go_meet
            exact ⟨_, HN⟩
         have cq := box_cell (box_up HO3.out.v HB.out) 4
         go_simp
         clear cq
         refine hK.out _ _ (box_up HX3.out HB.out) (fun hHeld => ?_)
         clear hK K
         refine wtk 11 rfl ?_; go_simp
         refine wpAnyH_ready (rs := [1, 12]) (by kernel_rfl) (by simp) (AllReadyH.cons rfl (fun K hK => ?_) (AllReadyH.cons rfl (fun K hK => ?_) AllReadyH.nil))
         · have cq := box_cell (box_up HO3.out.v HB.out) 4
           go_simp
           clear cq
           refine hK.out _ _ (box_up HX3.out HB.out) (fun hHeld => ?_)
           clear hK K
           refine wtk 3 rfl ?_; go_simp
           refine wrd 12 rfl fun K hK => ?_
           refine step_appendG (by rfl) _ _ 93 (by rfl) W3.heap.size 121 i1 _ 6 96 Tryz.underlying93 hj hy0 hy1 hy2 rfl (by decide) k4 1 1 _ (by rfl) HL4.out _ (rows.drop k) (fun r hr => HRL.out r (List.mem_of_mem_drop hr)) (RdM.one ((HR3.out.2.up HB.out).drop k)) (by rfl) (rm_behind (owns_below HR3.out.1 HB.out (Nat.le_refl _)) (HR3.out.2.up HB.out) kL) (fun c h => by first | exact ite_noneR h | cases h) ?_ ?_ HB.out.size ?_
           · rw [HDR.out]; simp only [maxLen]; omega
           · rw [HDR.out]; omega
           intro g8 c8 wd r8 gr8
           have HB := Lib.hid (HB.out.grown gr8 HB.out.size (fun k e => by cases e; exact (HL4.out.lt k4 rfl).1))
           have HR8 := Lib.hid (ins_rowM (R := (rows.drop k)) (rw0 := str s :: [.int .i64 v.kind, .int .i64 v.n, str v.s, .slice al ll cl, .slice am lm cm]) (fun r hr => HRL.out r (List.mem_of_mem_drop hr)) rfl r8)
           clear r8 gr8
           rename World => wc
           rw [HDR.out]
           go_simp
           refine hK.out _ _ (box_up HX3.out HB.out) (fun hHeld => ?_)
           clear hK K
           refine wrd 13 rfl fun K hK => ?_
           refine step_appendJ (by rfl) _ _ 93 (by rfl) (w.heap.size + 2) 121 i1 _ 6 96 Tryz.underlying93 hj hy0 hy1 hy2 rfl (by decide) (.slice (some ⟨g, 0, none⟩) k vc) k _ (by rfl) (rm_ahead (owns_below HR3.out.1 HB.out (Nat.le_refl _)) (HR3.out.2.up HB.out) kL) _ ((str s :: [.int .i64 v.kind, .int .i64 v.n, str v.s, .slice al ll cl, .slice am lm cm]) :: (rows.drop k)) (fun r hr => by rcases List.mem_cons.1 hr with rfl | hr; rfl; exact HRL.out r (List.mem_of_mem_drop hr)) (fun u hu => by rw [List.flatten_cons, List.mem_append] at hu; rcases hu with hu | hu; (rcases List.mem_cons.1 hu with rfl | hu; rfl; exact RdJ.one HV3.out u hu); exact RdM.one ((HR3.out.2.up HB.out).drop k) u hu) (by rfl) (HR8.out _ (by first | (rw [HDR.out]; done) | (rw [HDR.out]; omega) | omega | (simp; done) | (simp; omega))) (by simp) ?_ ?_ (Nat.le_trans HO3.out.sz HB.out.size) ?_
           · rw [List.length_cons, HDR.out]; simp only [maxLen]; omega
           · rw [List.length_cons, HDR.out]; omega
           intro g9 c9 wd r9 gr9 lo9
           rw [show k + ((str s :: [.int .i64 v.kind, .int .i64 v.n, str v.s, .slice al ll cl, .slice am lm cm]) :: rows.drop k).length = d.length + 1 by have := HDR.out; simp only [List.length_cons]; omega] at r9 ⊢
           have HFW := Lib.hid (rp_hfw (v := .slice (some ⟨g, 0, none⟩) d.length vc) HB.out gr9 (fun i e => by simpa [Value.ownBlock] using e))
           have HI := Lib.hid (ObR.ins HO3.out HR3.out.1 HR3.out.2 kL HB0.out.1 HB0.out.2 HV3.out HFW.out (by first | exact r9 | simpa using r9) (lo9.imp (fun e => by first | exact e | (simpa [Value.ownBlock] using e)) (fun e => by rw [e]; exact HB.out.size)))
           have HSW := Lib.hid (box_frm HX3.out HFW.out (by have h1 := HB0.out.2; have h2 := H56.out; have h3 := H63.out; rintro (e | e); (have := h1 _ e; omega); omega))
           clear r9 gr9 lo9
           rename World => wc
           go_simp
           refine hK.out _ _ (HSW.out) (fun hHeld => ?_)
           clear hK K
           refine wtk 14 rfl ?_; go_simp
           refine wrd 15 rfl fun K hK => ?_
           have cq := HI.out.2.1
           have fq := HI.out.2.2
           go_simp
           clear cq fq
           refine hK.out _ _ (box_far _ HSW.out (by have := HO3.out.lt; have := HB0.out.1; have := H56.out; omega)) (fun hHeld => ?_)
           clear hK K
           refine wpAnyH_done (by kernel_rfl) ?_ _
           have HN := Lib.hid HI.out.1
           clear HB HI HSW HFW
           go_wp2_with fail
           all_goals
            go_meet
            exact ⟨_, HN⟩
         refine step_appendG (by rfl) _ _ 93 (by rfl) W3.heap.size 121 i1 _ 6 96 Tryz.underlying93 hj hy0 hy1 hy2 rfl (by decide) k4 1 1 _ (by rfl) HL4.out _ (rows.drop k) (fun r hr => HRL.out r (List.mem_of_mem_drop hr)) (RdM.one ((HR3.out.2.up HB.out).drop k)) (by rfl) (rm_behind (owns_below HR3.out.1 HB.out (Nat.le_refl _)) (HR3.out.2.up HB.out) kL) (fun c h => by first | exact ite_noneR h | cases h) ?_ ?_ HB.out.size ?_
         · rw [HDR.out]; simp only [maxLen]; omega
         · rw [HDR.out]; omega
         intro g8 c8 wd r8 gr8
         have HB := Lib.hid (HB.out.grown gr8 HB.out.size (fun k e => by cases e; exact (HL4.out.lt k4 rfl).1))
         have HR8 := Lib.hid (ins_rowM (R := (rows.drop k)) (rw0 := str s :: [.int .i64 v.kind, .int .i64 v.n, str v.s, .slice al ll cl, .slice am lm cm]) (fun r hr => HRL.out r (List.mem_of_mem_drop hr)) rfl r8)
         clear r8 gr8
         rename World => wc
         rw [HDR.out]
         go_simp
         refine hK.out _ _ (box_up HX3.out HB.out) (fun hHeld => ?_)
         clear hK K
         refine wrd 1 rfl fun K hK => ?_
         have cq := box_cell (box_up HO3.out.v HB.out) 4
         go_simp
         clear cq
         refine hK.out _ _ (box_up HX3.out HB.out) (fun hHeld => ?_)
         clear hK K
         refine wtk 3 rfl ?_; go_simp
         refine wrd 13 rfl fun K hK => ?_
         refine step_appendJ (by rfl) _ _ 93 (by rfl) (w.heap.size + 2) 121 i1 _ 6 96 Tryz.underlying93 hj hy0 hy1 hy2 rfl (by decide) (.slice (some ⟨g, 0, none⟩) k vc) k _ (by rfl) (rm_ahead (owns_below HR3.out.1 HB.out (Nat.le_refl _)) (HR3.out.2.up HB.out) kL) _ ((str s :: [.int .i64 v.kind, .int .i64 v.n, str v.s, .slice al ll cl, .slice am lm cm]) :: (rows.drop k)) (fun r hr => by rcases List.mem_cons.1 hr with rfl | hr; rfl; exact HRL.out r (List.mem_of_mem_drop hr)) (fun u hu => by rw [List.flatten_cons, List.mem_append] at hu; rcases hu with hu | hu; (rcases List.mem_cons.1 hu with rfl | hu; rfl; exact RdJ.one HV3.out u hu); exact RdM.one ((HR3.out.2.up HB.out).drop k) u hu) (by rfl) (HR8.out _ (by first | (rw [HDR.out]; done) | (rw [HDR.out]; omega) | omega | (simp; done) | (simp; omega))) (by simp) ?_ ?_ (Nat.le_trans HO3.out.sz HB.out.size) ?_
         · rw [List.length_cons, HDR.out]; simp only [maxLen]; omega
         · rw [List.length_cons, HDR.out]; omega
         intro g9 c9 wd r9 gr9 lo9
         rw [show k + ((str s :: [.int .i64 v.kind, .int .i64 v.n, str v.s, .slice al ll cl, .slice am lm cm]) :: rows.drop k).length = d.length + 1 by have := HDR.out; simp only [List.length_cons]; omega] at r9 ⊢
         have HFW := Lib.hid (rp_hfw (v := .slice (some ⟨g, 0, none⟩) d.length vc) HB.out gr9 (fun i e => by simpa [Value.ownBlock] using e))
         have HI := Lib.hid (ObR.ins HO3.out HR3.out.1 HR3.out.2 kL HB0.out.1 HB0.out.2 HV3.out HFW.out (by first | exact r9 | simpa using r9) (lo9.imp (fun e => by first | exact e | (simpa [Value.ownBlock] using e)) (fun e => by rw [e]; exact HB.out.size)))
         have HSW := Lib.hid (box_frm HX3.out HFW.out (by have h1 := HB0.out.2; have h2 := H56.out; have h3 := H63.out; rintro (e | e); (have := h1 _ e; omega); omega))
         clear r9 gr9 lo9
         rename World => wc
         go_simp
         refine hK.out _ _ (HSW.out) (fun hHeld => ?_)
         clear hK K
         refine wtk 14 rfl ?_; go_simp
         refine wrd 15 rfl fun K hK => ?_
         have cq := HI.out.2.1
         have fq := HI.out.2.2
         go_simp
         clear cq fq
         refine hK.out _ _ (box_far _ HSW.out (by have := HO3.out.lt; have := HB0.out.1; have := H56.out; omega)) (fun hHeld => ?_)
         clear hK K
         refine wpAnyH_done (by kernel_rfl) ?_ _
         have HN := Lib.hid HI.out.1
         clear HB HI HSW HFW
         go_wp2_with fail
         all_goals
          go_meet
          exact ⟨_, HN⟩
       · have cq := box_cell (box_up HO3.out.v HB.out) 4
         go_simp
         clear cq
         refine hK.out _ _ (box_up HX3.out HB.out) (fun hHeld => ?_)
         clear hK K
         refine wtk 11 rfl ?_; go_simp
         refine wpAnyH_ready (rs := [1, 7]) (by kernel_rfl) (by simp) (AllReadyH.cons rfl (fun K hK => ?_) (AllReadyH.cons rfl (fun K hK => ?_) AllReadyH.nil))
         · have cq := box_cell (box_up HO3.out.v HB.out) 4
           go_simp
           clear cq
           refine hK.out _ _ (box_up HX3.out HB.out) (fun hHeld => ?_)
           clear hK K
           refine wtk 3 rfl ?_; go_simp
           refine wrd 7 rfl fun K hK => ?_
           go_simp
           obtain ⟨k4, hk4⟩ : ∃ k, k = wc.heap.size := ⟨_, rfl⟩
           obtain ⟨wd, hwd⟩ : ∃ W, W = wc.alloc (.cells #[str s, .int .i64 v.kind, .int .i64 v.n, str v.s, .slice al ll cl, .slice am lm cm] 121) := ⟨_, rfl⟩
           have hbs : Below wc.heap.size wc wd := by rw [hwd]; exact below_alloc _ _
           have HL4 := Lib.hid (rp_l4 hwd hk4 HB.out.size)
           have HB := Lib.hid (HB.out.trans (hbs.mono HB.out.size))
           rw [← hwd, ← hk4]
           clear hwd hk4 hbs
           rename World => wc
           refine hK.out _ _ (box_up HX3.out HB.out) (fun hHeld => ?_)
           clear hK K
           refine wrd 12 rfl fun K hK => ?_
           refine step_appendG (by rfl) _ _ 93 (by rfl) W3.heap.size 121 i1 _ 6 96 Tryz.underlying93 hj hy0 hy1 hy2 rfl (by decide) k4 1 1 _ (by rfl) HL4.out _ (rows.drop k) (fun r hr => HRL.out r (List.mem_of_mem_drop hr)) (RdM.one ((HR3.out.2.up HB.out).drop k)) (by rfl) (rm_behind (owns_below HR3.out.1 HB.out (Nat.le_refl _)) (HR3.out.2.up HB.out) kL) (fun c h => by first | exact ite_noneR h | cases h) ?_ ?_ HB.out.size ?_
           · rw [HDR.out]; simp only [maxLen]; omega
           · rw [HDR.out]; omega
           intro g8 c8 wd r8 gr8
           have HB := Lib.hid (HB.out.grown gr8 HB.out.size (fun k e => by cases e; exact (HL4.out.lt k4 rfl).1))
           have HR8 := Lib.hid (ins_rowM (R := (rows.drop k)) (rw0 := str s :: [.int .i64 v.kind, .int .i64 v.n, str v.s, .slice al ll cl, .slice am lm cm]) (fun r hr => HRL.out r (List.mem_of_mem_drop hr)) rfl r8)
           clear r8 gr8
           rename World => wc
           rw [HDR.out]
           go_simp
           refine hK.out _ _ (box_up HX3.out HB.out) (fun hHeld => ?_)
           clear hK K
           refine wrd 13 rfl fun K hK => ?_
           refine step_appendJ (by rfl) _ _ 93 (by rfl) (w.heap.size + 2) 121 i1 _ 6 96 Tryz.underlying93 hj hy0 hy1 hy2 rfl (by decide) (.slice (some ⟨g, 0, none⟩) k vc) k _ (by rfl) (rm_ahead (owns_below HR3.out.1 HB.out (Nat.le_refl _)) (HR3.out.2.up HB.out) kL) _ ((str s :: [.int .i64 v.kind, .int .i64 v.n, str v.s, .slice al ll cl, .slice am lm cm]) :: (rows.drop k)) (fun r hr => by rcases List.mem_cons.1 hr with rfl | hr; rfl; exact HRL.out r (List.mem_of_mem_drop hr)) (fun u hu => by rw [List.flatten_cons, List.mem_append] at hu; rcases hu with hu | hu; (rcases List.mem_cons.1 hu with rfl | hu; rfl; exact RdJ.one HV3.out u hu); exact RdM.one ((HR3.out.2.up HB.out).drop k) u hu) (by rfl) (HR8.out _ (by first | (rw [HDR.out]; done) | (rw [HDR.out]; omega) | omega | (simp; done) | (simp; omega))) (by simp) ?_ ?_ (Nat.le_trans HO3.out.sz HB.out.size) ?_
           · rw [List.length_cons, HDR.out]; simp only [maxLen]; omega
           · rw [List.length_cons, HDR.out]; omega
           intro g9 c9 wd r9 gr9 lo9
           rw [show k + ((str s :: [.int .i64 v.kind, .int .i64 v.n, str v.s, .slice al ll cl, .slice am lm cm]) :: rows.drop k).length = d.length + 1 by have := HDR.out; simp only [List.length_cons]; omega] at r9 ⊢
           have HFW := Lib.hid (rp_hfw (v := .slice (some ⟨g, 0, none⟩) d.length vc) HB.out gr9 (fun i e => by simpa [Value.ownBlock] using e))
           have HI := Lib.hid (ObR.ins HO3.out HR3.out.1 HR3.out.2 kL HB0.out.1 HB0.out.2 HV3.out HFW.out (by first | exact r9 | simpa using r9) (lo9.imp (fun e => by first | exact e | (simpa [Value.ownBlock] using e)) (fun e => by rw [e]; exact HB.out.size)))
           have HSW := Lib.hid (box_frm HX3.out HFW.out (by have h1 := HB0.out.2; have h2 := H56.out; have h3 := H63.out; rintro (e | e); (have := h1 _ e; omega); omega))
           clear r9 gr9 lo9
           rename World => wc
           go_simp
           refine hK.out _ _ (HSW.out) (fun hHeld => ?_)
           clear hK K
           refine wtk 14 rfl ?_; go_simp
           refine wrd 15 rfl fun K hK => ?_
           have cq := HI.out.2.1
           have fq := HI.out.2.2
           go_simp
           clear cq fq
           refine hK.out _ _ (box_far _ HSW.out (by have := HO3.out.lt; have := HB0.out.1; have := H56.out; omega)) (fun hHeld => ?_)
           clear hK K
           refine wpAnyH_done (by kernel_rfl) ?_ _
           have HN := Lib.hid HI.out.1
           clear HB HI HSW HFW
           go_wp2_with fail
           all_goals
            go_meet
            exact ⟨_, HN⟩
         go_simp
         obtain ⟨k4, hk4⟩ : ∃ k, k = wc.heap.size := ⟨_, rfl⟩
         obtain ⟨wd, hwd⟩ : ∃ W, W = wc.alloc (.cells #[str s, .int .i64 v.kind, .int .i64 v.n, str v.s, .slice al ll cl, .slice am lm cm] 121) := ⟨_, rfl⟩
         have hbs : Below wc.heap.size wc wd := by rw [hwd]; exact below_alloc _ _
         have HL4 := Lib.hid (rp_l4 hwd hk4 HB.out.size)
         have HB := Lib.hid (HB.out.trans (hbs.mono HB.out.size))
         rw [← hwd, ← hk4]
         clear hwd hk4 hbs
         rename World => wc
         refine hK.out _ _ (box_up HX3.out HB.out) (fun hHeld => ?_)
         clear hK K
         refine wpAnyH_ready (rs := [1, 12]) (by kernel_rfl) (by simp) (AllReadyH.cons rfl (fun K hK => ?_) (AllReadyH.cons rfl (fun K hK => ?_) AllReadyH.nil))
         · have cq := box_cell (box_up HO3.out.v HB.out) 4
           go_simp
           clear cq
           refine hK.out _ _ (box_up HX3.out HB.out) (fun hHeld => ?_)
           clear hK K
           refine wtk 3 rfl ?_; go_simp
           refine wrd 12 rfl fun K hK => ?_
           refine step_appendG (by rfl) _ _ 93 (by rfl) W3.heap.size 121 i1 _ 6 96 Tryz.underlying93 hj hy0 hy1 hy2 rfl (by decide) k4 1 1 _ (by rfl) HL4.out _ (rows.drop k) (fun r hr => HRL.out r (List.mem_of_mem_drop hr)) (RdM.one ((HR3.out.2.up HB.out).drop k)) (by rfl) (rm_behind (owns_below HR3.out.1 HB.out (Nat.le_refl _)) (HR3.out.2.up HB.out) kL) (fun c h => by first | exact ite_noneR h | cases h) ?_ ?_ HB.out.size ?_
           · rw [HDR.out]; simp only [maxLen]; omega
           · rw [HDR.out]; omega
           intro g8 c8 wd r8 gr8
           have HB := Lib.hid (HB.out.grown gr8 HB.out.size (fun k e => by cases e; exact (HL4.out.lt k4 rfl).1))
           have HR8 := Lib.hid (ins_rowM (R := (rows.drop k)) (rw0 := str s :: [.int .i64 v.kind, .int .i64 v.n, str v.s, .slice al ll cl, .slice am lm cm]) (fun r hr => HRL.out r (List.mem_of_mem_drop hr)) rfl r8)
           clear r8 gr8
           rename World => wc
           rw [HDR.out]
           go_simp
           refine hK.out _ _ (box_up HX3.out HB.out) (fun hHeld => ?_)
           clear hK K
           refine wrd 13 rfl fun K hK => ?_
           refine step_appendJ (by rfl) _ _ 93 (by rfl) (w.heap.size + 2) 121 i1 _ 6 96 Tryz.underlying93 hj hy0 hy1 hy2 rfl (by decide) (.slice (some ⟨g, 0, none⟩) k vc) k _ (by rfl) (rm_ahead (owns_below HR3.out.1 HB.out (Nat.le_refl _)) (HR3.out.2.up HB.out) kL) _ ((str s :: [.int .i64 v.kind, .int .i64 v.n, str v.s, .slice al ll cl, .slice am lm cm]) :: (rows.drop k)) (fun r hr => by rcases List.mem_cons.1 hr with rfl | hr; rfl; exact HRL.out r (List.mem_of_mem_drop hr)) (fun u hu => by rw [List.flatten_cons, List.mem_append] at hu; rcases hu with hu | hu; (rcases List.mem_cons.1 hu with rfl | hu; rfl; exact RdJ.one HV3.out u hu); exact RdM.one ((HR3.out.2.up HB.out).drop k) u hu) (by rfl) (HR8.out _ (by first | (rw [HDR.out]; done) | (rw [HDR.out]; omega) | omega | (simp; done) | (simp; omega))) (by simp) ?_ ?_ (Nat.le_trans HO3.out.sz HB.out.size) ?_
           · rw [List.length_cons, HDR.out]; simp only [maxLen]; omega
           · rw [List.length_cons, HDR.out]; omega
           intro g9 c9 wd r9 gr9 lo9
           rw [show k + ((str s :: [.int .i64 v.kind, .int .i64 v.n, str v.s, .slice al ll cl, .slice am lm cm]) :: rows.drop k).length = d.length + 1 by have := HDR.out; simp only [List.length_cons]; omega] at r9 ⊢
           have HFW := Lib.hid (rp_hfw (v := .slice (some ⟨g, 0, none⟩) d.length vc) HB.out gr9 (fun i e => by simpa [Value.ownBlock] using e))
           have HI := Lib.hid (ObR.ins HO3.out HR3.out.1 HR3.out.2 kL HB0.out.1 HB0.out.2 HV3.out HFW.out (by first | exact r9 | simpa using r9) (lo9.imp (fun e => by first | exact e | (simpa [Value.ownBlock] using e)) (fun e => by rw [e]; exact HB.out.size)))
           have HSW := Lib.hid (box_frm HX3.out HFW.out (by have h1 := HB0.out.2; have h2 := H56.out; have h3 := H63.out; rintro (e | e); (have := h1 _ e; omega); omega))
           clear r9 gr9 lo9
           rename World => wc
           go_simp
           refine hK.out _ _ (HSW.out) (fun hHeld => ?_)
           clear hK K
           refine wtk 14 rfl ?_; go_simp
           refine wrd 15 rfl fun K hK => ?_
           have cq := HI.out.2.1
           have fq := HI.out.2.2
           go_simp
           clear cq fq
           refine hK.out _ _ (box_far _ HSW.out (by have := HO3.out.lt; have := HB0.out.1; have := H56.out; omega)) (fun hHeld => ?_)
           clear hK K
           refine wpAnyH_done (by kernel_rfl) ?_ _
           have HN := Lib.hid HI.out.1
           clear HB HI HSW HFW
           go_wp2_with fail
           all_goals
            go_meet
            exact ⟨_, HN⟩
         refine step_appendG (by rfl) _ _ 93 (by rfl) W3.heap.size 121 i1 _ 6 96 Tryz.underlying93 hj hy0 hy1 hy2 rfl (by decide) k4 1 1 _ (by rfl) HL4.out _ (rows.drop k) (fun r hr => HRL.out r (List.mem_of_mem_drop hr)) (RdM.one ((HR3.out.2.up HB.out).drop k)) (by rfl) (rm_behind (owns_below HR3.out.1 HB.out (Nat.le_refl _)) (HR3.out.2.up HB.out) kL) (fun c h => by first | exact ite_noneR h | cases h) ?_ ?_ HB.out.size ?_
         · rw [HDR.out]; simp only [maxLen]; omega
         · rw [HDR.out]; omega
         intro g8 c8 wd r8 gr8
         have HB := Lib.hid (HB.out.grown gr8 HB.out.size (fun k e => by cases e; exact (HL4.out.lt k4 rfl).1))
         have HR8 := Lib.hid (ins_rowM (R := (rows.drop k)) (rw0 := str s :: [.int .i64 v.kind, .int .i64 v.n, str v.s, .slice al ll cl, .slice am lm cm]) (fun r hr => HRL.out r (List.mem_of_mem_drop hr)) rfl r8)
         clear r8 gr8
         rename World => wc
         rw [HDR.out]
         go_simp
         refine hK.out _ _ (box_up HX3.out HB.out) (fun hHeld => ?_)
         clear hK K
         refine wrd 1 rfl fun K hK => ?_
         have cq := box_cell (box_up HO3.out.v HB.out) 4
         go_simp
         clear cq
         refine hK.out _ _ (box_up HX3.out HB.out) (fun hHeld => ?_)
         clear hK K
         refine wtk 3 rfl ?_; go_simp
         refine wrd 13 rfl fun K hK => ?_
         refine step_appendJ (by rfl) _ _ 93 (by rfl) (w.heap.size + 2) 121 i1 _ 6 96 Tryz.underlying93 hj hy0 hy1 hy2 rfl (by decide) (.slice (some ⟨g, 0, none⟩) k vc) k _ (by rfl) (rm_ahead (owns_below HR3.out.1 HB.out (Nat.le_refl _)) (HR3.out.2.up HB.out) kL) _ ((str s :: [.int .i64 v.kind, .int .i64 v.n, str v.s, .slice al ll cl, .slice am lm cm]) :: (rows.drop k)) (fun r hr => by rcases List.mem_cons.1 hr with rfl | hr; rfl; exact HRL.out r (List.mem_of_mem_drop hr)) (fun u hu => by rw [List.flatten_cons, List.mem_append] at hu; rcases hu with hu | hu; (rcases List.mem_cons.1 hu with rfl | hu; rfl; exact RdJ.one HV3.out u hu); exact RdM.one ((HR3.out.2.up HB.out).drop k) u hu) (by rfl) (HR8.out _ (by first | (rw [HDR.out]; done) | (rw [HDR.out]; omega) | omega | (simp; done) | (simp; omega))) (by simp) ?_ ?_ (Nat.le_trans HO3.out.sz HB.out.size) ?_
         · rw [List.length_cons, HDR.out]; simp only [maxLen]; omega
         · rw [List.length_cons, HDR.out]; omega
         intro g9 c9 wd r9 gr9 lo9
         rw [show k + ((str s :: [.int .i64 v.kind, .int .i64 v.n, str v.s, .slice al ll cl, .slice am lm cm]) :: rows.drop k).length = d.length + 1 by have := HDR.out; simp only [List.length_cons]; omega] at r9 ⊢
         have HFW := Lib.hid (rp_hfw (v := .slice (some ⟨g, 0, none⟩) d.length vc) HB.out gr9 (fun i e => by simpa [Value.ownBlock] using e))
         have HI := Lib.hid (ObR.ins HO3.out HR3.out.1 HR3.out.2 kL HB0.out.1 HB0.out.2 HV3.out HFW.out (by first | exact r9 | simpa using r9) (lo9.imp (fun e => by first | exact e | (simpa [Value.ownBlock] using e)) (fun e => by rw [e]; exact HB.out.size)))
         have HSW := Lib.hid (box_frm HX3.out HFW.out (by have h1 := HB0.out.2; have h2 := H56.out; have h3 := H63.out; rintro (e | e); (have := h1 _ e; omega); omega))
         clear r9 gr9 lo9
         rename World => wc
         go_simp
         refine hK.out _ _ (HSW.out) (fun hHeld => ?_)
         clear hK K
         refine wtk 14 rfl ?_; go_simp
         refine wrd 15 rfl fun K hK => ?_
         have cq := HI.out.2.1
         have fq := HI.out.2.2
         go_simp
         clear cq fq
         refine hK.out _ _ (box_far _ HSW.out (by have := HO3.out.lt; have := HB0.out.1; have := H56.out; omega)) (fun hHeld => ?_)
         clear hK K
         refine wpAnyH_done (by kernel_rfl) ?_ _
         have HN := Lib.hid HI.out.1
         clear HB HI HSW HFW
         go_wp2_with fail
         all_goals
          go_meet
          exact ⟨_, HN⟩
       exact hsl.elim
      | none =>
       have hd0 : d = [] ∧ vc = 0 ∧ rows = [] := by
        rcases ho3.2 with ⟨h0, h1⟩ | ⟨g, cap, cur, h0, _⟩
        · simp only [Value.slice.injEq, true_and] at h0
          have := List.eq_nil_of_length_eq_zero h1
          refine ⟨this, h0.2, ?_⟩
          rw [this] at hrn
          exact List.eq_nil_of_length_eq_zero hrn
        cases h0
       obtain ⟨rfl, rfl, rfl⟩ := hd0
       have hk0 : k = 0 := by simpa using kL
       subst hk0
       clear ho3 hr3 hrl hdr hrn
       obtain ⟨wc, hwc⟩ : ∃ x, x = W3.drew := ⟨_, rfl⟩
       have HB := Lib.hid (show Below W3.heap.size W3 wc by rw [hwc]; exact Below.drewsN (Below.refl _ _) 1)
       refine wp_region_held_drew (S := (fun W => W.heap[w6.heap.size]? = some (.cells #[.int .i64 v.kind, .int .i64 v.n, str v.s, .slice al ll cl, .slice am lm cm] 95 (0, 0)))) (by kernel_rfl) (by rw [← hwc]; exact box_up HX3.out HB.out) (fun hHeld => ?_)
       rw [← hwc] at hHeld ⊢
       clear hwc
       refine wtk 0 rfl ?_; go_simp
       refine wtk 2 rfl ?_; go_simp
       refine wtk 4 rfl ?_; go_simp
       refine wtl 5 rfl (by intro w hSw; have hs0 := box_cell hSw 0; have hs1 := box_cell hSw 1; have hs2 := box_cell hSw 2; have hs3 := box_cell hSw 3; have hs4 := box_cell hSw 4; go_simp; try with_reducible rfl) ?_; go_simp
       refine wtk 6 rfl ?_; go_simp
       refine wtk 8 rfl ?_; go_simp
       refine wtk 10 rfl ?_; go_simp
       refine wpAnyH_ready (rs := [1, 7, 9]) (by kernel_rfl) (by simp) (AllReadyH.cons rfl (fun K hK => ?_) (AllReadyH.cons rfl (fun K hK => ?_) (AllReadyH.cons rfl (fun K hK => ?_) AllReadyH.nil)))
       · have cq := box_cell (box_up HO3.out.v HB.out) 4
         go_simp
         clear cq
         refine hK.out _ _ (box_up HX3.out HB.out) (fun hHeld => ?_)
         clear hK K
         refine wtk 3 rfl ?_; go_simp
         refine wpAnyH_ready (rs := [7, 9]) (by kernel_rfl) (by simp) (AllReadyH.cons rfl (fun K hK => ?_) (AllReadyH.cons rfl (fun K hK => ?_) AllReadyH.nil))
         · go_simp
           obtain ⟨k4, hk4⟩ : ∃ k, k = wc.heap.size := ⟨_, rfl⟩
           obtain ⟨wd, hwd⟩ : ∃ W, W = wc.alloc (.cells #[str s, .int .i64 v.kind, .int .i64 v.n, str v.s, .slice al ll cl, .slice am lm cm] 121) := ⟨_, rfl⟩
           have hbs : Below wc.heap.size wc wd := by rw [hwd]; exact below_alloc _ _
           have HL4 := Lib.hid (rp_l4 hwd hk4 HB.out.size)
           have HB := Lib.hid (HB.out.trans (hbs.mono HB.out.size))
           rw [← hwd, ← hk4]
           clear hwd hk4 hbs
           rename World => wc
           refine hK.out _ _ (box_up HX3.out HB.out) (fun hHeld => ?_)
           clear hK K
           refine wrd 9 rfl fun K hK => ?_
           have cq := box_cell (box_up HO3.out.v HB.out) 4
           go_simp
           clear cq
           refine hK.out _ _ (box_up HX3.out HB.out) (fun hHeld => ?_)
           clear hK K
           refine wtk 11 rfl ?_; go_simp
           refine wrd 12 rfl fun K hK => ?_
           refine step_appendG (by rfl) _ _ 93 (by rfl) W3.heap.size 121 i1 _ 6 96 Tryz.underlying93 hj hy0 hy1 hy2 rfl (by decide) k4 1 1 _ (by rfl) HL4.out _ ([] : List (List Value)) (by simp) (by simp) (by rfl) ((show RdF 6 wc (.slice none 0 0) [] from ⟨none, 0, rfl, by simp, by simp, by simp, fun h => absurd rfl h⟩)) (fun c h => by cases h; rfl) ?_ ?_ HB.out.size ?_
           · simp [maxLen]
           · simp
           intro g8 c8 wd r8 gr8
           have HB := Lib.hid (HB.out.grown gr8 HB.out.size (fun k e => by cases e; exact (HL4.out.lt k4 rfl).1))
           have HR8 := Lib.hid (ins_rowM (R := ([] : List (List Value))) (rw0 := str s :: [.int .i64 v.kind, .int .i64 v.n, str v.s, .slice al ll cl, .slice am lm cm]) (by simp) rfl r8)
           clear r8 gr8
           rename World => wc
           go_simp
           refine hK.out _ _ (box_up HX3.out HB.out) (fun hHeld => ?_)
           clear hK K
           refine wrd 13 rfl fun K hK => ?_
           refine step_appendJ (by rfl) _ _ 93 (by rfl) (w.heap.size + 2) 121 i1 _ 6 96 Tryz.underlying93 hj hy0 hy1 hy2 rfl (by decide) (.slice none 0 0) 0 [] (by rfl) (World.ownsRow_nil _ _ _ _) _ ((str s :: [.int .i64 v.kind, .int .i64 v.n, str v.s, .slice al ll cl, .slice am lm cm]) :: ([] : List (List Value))) (by simp) (fun u hu => by rw [List.flatten_cons, List.mem_append] at hu; rcases hu with hu | hu; (rcases List.mem_cons.1 hu with rfl | hu; rfl; exact RdJ.one HV3.out u hu); simp at hu) (by rfl) (HR8.out _ (by first | (rw [HDR.out]; done) | (rw [HDR.out]; omega) | omega | (simp; done) | (simp; omega))) (by simp) ?_ ?_ (Nat.le_trans HO3.out.sz HB.out.size) ?_
           · simp [maxLen]
           · simp
           intro g9 c9 wd r9 gr9 lo9
           simp only [List.length_cons, List.length_nil, Nat.zero_add] at r9 ⊢
           have HFW := Lib.hid (rp_hfw (v := .slice none 0 0) HB.out gr9 (fun i e => by simp [Value.ownBlock] at e))
           have HI := Lib.hid (ObR.ins HO3.out HR3.out.1 HR3.out.2 kL HB0.out.1 HB0.out.2 HV3.out HFW.out (by first | exact r9 | simpa using r9) (lo9.imp (fun e => by first | exact e | (simpa [Value.ownBlock] using e)) (fun e => by rw [e]; exact HB.out.size)))
           have HSW := Lib.hid (box_frm HX3.out HFW.out (by have h1 := HB0.out.2; have h2 := H56.out; have h3 := H63.out; rintro (e | e); (have := h1 _ e; omega); omega))
           clear r9 gr9 lo9
           rename World => wc
           go_simp
           refine hK.out _ _ (HSW.out) (fun hHeld => ?_)
           clear hK K
           refine wtk 14 rfl ?_; go_simp
           refine wrd 15 rfl fun K hK => ?_
           have cq := HI.out.2.1
           have fq := HI.out.2.2
           go_simp
           clear cq fq
           refine hK.out _ _ (box_far _ HSW.out (by have := HO3.out.lt; have := HB0.out.1; have := H56.out; omega)) (fun hHeld => ?_)
           clear hK K
           refine wpAnyH_done (by kernel_rfl) ?_ _
           have HN := Lib.hid HI.out.1
           clear HB HI HSW HFW
           go_wp2_with fail
           all_goals
            go_meet
            exact ⟨_, HN⟩
         have cq := box_cell (box_up HO3.out.v HB.out) 4
         go_simp
         clear cq
         refine hK.out _ _ (box_up HX3.out HB.out) (fun hHeld => ?_)
         clear hK K
         refine wtk 11 rfl ?_; go_simp
         refine wrd 7 rfl fun K hK => ?_
         go_simp
         obtain ⟨k4, hk4⟩ : ∃ k, k = wc.heap.size := ⟨_, rfl⟩
         obtain ⟨wd, hwd⟩ : ∃ W, W = wc.alloc (.cells #[str s, .int .i64 v.kind, .int .i64 v.n, str v.s, .slice al ll cl, .slice am lm cm] 121) := ⟨_, rfl⟩
         have hbs : Below wc.heap.size wc wd := by rw [hwd]; exact below_alloc _ _
         have HL4 := Lib.hid (rp_l4 hwd hk4 HB.out.size)
         have HB := Lib.hid (HB.out.trans (hbs.mono HB.out.size))
         rw [← hwd, ← hk4]
         clear hwd hk4 hbs
         rename World => wc
         refine hK.out _ _ (box_up HX3.out HB.out) (fun hHeld => ?_)
         clear hK K
         refine wrd 12 rfl fun K hK => ?_
         refine step_appendG (by rfl) _ _ 93 (by rfl) W3.heap.size 121 i1 _ 6 96 Tryz.underlying93 hj hy0 hy1 hy2 rfl (by decide) k4 1 1 _ (by rfl) HL4.out _ ([] : List (List Value)) (by simp) (by simp) (by rfl) ((show RdF 6 wc (.slice none 0 0) [] from ⟨none, 0, rfl, by simp, by simp, by simp, fun h => absurd rfl h⟩)) (fun c h => by cases h; rfl) ?_ ?_ HB.out.size ?_
         · simp [maxLen]
         · simp
         intro g8 c8 wd r8 gr8
         have HB := Lib.hid (HB.out.grown gr8 HB.out.size (fun k e => by cases e; exact (HL4.out.lt k4 rfl).1))
         have HR8 := Lib.hid (ins_rowM (R := ([] : List (List Value))) (rw0 := str s :: [.int .i64 v.kind, .int .i64 v.n, str v.s, .slice al ll cl, .slice am lm cm]) (by simp) rfl r8)
         clear r8 gr8
         rename World => wc
         go_simp
         refine hK.out _ _ (box_up HX3.out HB.out) (fun hHeld => ?_)
         clear hK K
         refine wrd 13 rfl fun K hK => ?_
         refine step_appendJ (by rfl) _ _ 93 (by rfl) (w.heap.size + 2) 121 i1 _ 6 96 Tryz.underlying93 hj hy0 hy1 hy2 rfl (by decide) (.slice none 0 0) 0 [] (by rfl) (World.ownsRow_nil _ _ _ _) _ ((str s :: [.int .i64 v.kind, .int .i64 v.n, str v.s, .slice al ll cl, .slice am lm cm]) :: ([] : List (List Value))) (by simp) (fun u hu => by rw [List.flatten_cons, List.mem_append] at hu; rcases hu with hu | hu; (rcases List.mem_cons.1 hu with rfl | hu; rfl; exact RdJ.one HV3.out u hu); simp at hu) (by rfl) (HR8.out _ (by first | (rw [HDR.out]; done) | (rw [HDR.out]; omega) | omega | (simp; done) | (simp; omega))) (by simp) ?_ ?_ (Nat.le_trans HO3.out.sz HB.out.size) ?_
         · simp [maxLen]
         · simp
         intro g9 c9 wd r9 gr9 lo9
         simp only [List.length_cons, List.length_nil, Nat.zero_add] at r9 ⊢
         have HFW := Lib.hid (rp_hfw (v := .slice none 0 0) HB.out gr9 (fun i e => by simp [Value.ownBlock] at e))
         have HI := Lib.hid (ObR.ins HO3.out HR3.out.1 HR3.out.2 kL HB0.out.1 HB0.out.2 HV3.out HFW.out (by first | exact r9 | simpa using r9) (lo9.imp (fun e => by first | exact e | (simpa [Value.ownBlock] using e)) (fun e => by rw [e]; exact HB.out.size)))
         have HSW := Lib.hid (box_frm HX3.out HFW.out (by have h1 := HB0.out.2; have h2 := H56.out; have h3 := H63.out; rintro (e | e); (have := h1 _ e; omega); omega))
         clear r9 gr9 lo9
         rename World => wc
         go_simp
         refine hK.out _ _ (HSW.out) (fun hHeld => ?_)
         clear hK K
         refine wtk 14 rfl ?_; go_simp
         refine wrd 15 rfl fun K hK => ?_
         have cq := HI.out.2.1
         have fq := HI.out.2.2
         go_simp
         clear cq fq
         refine hK.out _ _ (box_far _ HSW.out (by have := HO3.out.lt; have := HB0.out.1; have := H56.out; omega)) (fun hHeld => ?_)
         clear hK K
         refine wpAnyH_done (by kernel_rfl) ?_ _
         have HN := Lib.hid HI.out.1
         clear HB HI HSW HFW
         go_wp2_with fail
         all_goals
          go_meet
          exact ⟨_, HN⟩
       · go_simp
         obtain ⟨k4, hk4⟩ : ∃ k, k = wc.heap.size := ⟨_, rfl⟩
         obtain ⟨wd, hwd⟩ : ∃ W, W = wc.alloc (.cells #[str s, .int .i64 v.kind, .int .i64 v.n, str v.s, .slice al ll cl, .slice am lm cm] 121) := ⟨_, rfl⟩
         have hbs : Below wc.heap.size wc wd := by rw [hwd]; exact below_alloc _ _
         have HL4 := Lib.hid (rp_l4 hwd hk4 HB.out.size)
         have HB := Lib.hid (HB.out.trans (hbs.mono HB.out.size))
         rw [← hwd, ← hk4]
         clear hwd hk4 hbs
         rename World => wc
         refine hK.out _ _ (box_up HX3.out HB.out) (fun hHeld => ?_)
         clear hK K
         refine wpAnyH_ready (rs := [1, 9]) (by kernel_rfl) (by simp) (AllReadyH.cons rfl (fun K hK => ?_) (AllReadyH.cons rfl (fun K hK => ?_) AllReadyH.nil))
         · have cq := box_cell (box_up HO3.out.v HB.out) 4
           go_simp
           clear cq
           refine hK.out _ _ (box_up HX3.out HB.out) (fun hHeld => ?_)
           clear hK K
           refine wtk 3 rfl ?_; go_simp
           refine wrd 9 rfl fun K hK => ?_
           have cq := box_cell (box_up HO3.out.v HB.out) 4
           go_simp
           clear cq
           refine hK.out _ _ (box_up HX3.out HB.out) (fun hHeld => ?_)
           clear hK K
           refine wtk 11 rfl ?_; go_simp
           refine wrd 12 rfl fun K hK => ?_
           refine step_appendG (by rfl) _ _ 93 (by rfl) W3.heap.size 121 i1 _ 6 96 Tryz.underlying93 hj hy0 hy1 hy2 rfl (by decide) k4 1 1 _ (by rfl) HL4.out _ ([] : List (List Value)) (by simp) (by simp) (by rfl) ((show RdF 6 wc (.slice none 0 0) [] from ⟨none, 0, rfl, by simp, by simp, by simp, fun h => absurd rfl h⟩)) (fun c h => by cases h; rfl) ?_ ?_ HB.out.size ?_
           · simp [maxLen]
           · simp
           intro g8 c8 wd r8 gr8
           have HB := Lib.hid (HB.out.grown gr8 HB.out.size (fun k e => by cases e; exact (HL4.out.lt k4 rfl).1))
           have HR8 := Lib.hid (ins_rowM (R := ([] : List (List Value))) (rw0 := str s :: [.int .i64 v.kind, .int .i64 v.n, str v.s, .slice al ll cl, .slice am lm cm]) (by simp) rfl r8)
           clear r8 gr8
           rename World => wc
           go_simp
           refine hK.out _ _ (box_up HX3.out HB.out) (fun hHeld => ?_)
           clear hK K
           refine wrd 13 rfl fun K hK => ?_
           refine step_appendJ (by rfl) _ _ 93 (by rfl) (w.heap.size + 2) 121 i1 _ 6 96 Tryz.underlying93 hj hy0 hy1 hy2 rfl (by decide) (.slice none 0 0) 0 [] (by rfl) (World.ownsRow_nil _ _ _ _) _ ((str s :: [.int .i64 v.kind, .int .i64 v.n, str v.s, .slice al ll cl, .slice am lm cm]) :: ([] : List (List Value))) (by simp) (fun u hu => by rw [List.flatten_cons, List.mem_append] at hu; rcases hu with hu | hu; (rcases List.mem_cons.1 hu with rfl | hu; rfl; exact RdJ.one HV3.out u hu); simp at hu) (by rfl) (HR8.out _ (by first | (rw [HDR.out]; done) | (rw [HDR.out]; omega) | omega | (simp; done) | (simp; omega))) (by simp) ?_ ?_ (Nat.le_trans HO3.out.sz HB.out.size) ?_
           · simp [maxLen]
           · simp
           intro g9 c9 wd r9 gr9 lo9
           simp only [List.length_cons, List.length_nil, Nat.zero_add] at r9 ⊢
           have HFW := Lib.hid (rp_hfw (v := .slice none 0 0) HB.out gr9 (fun i e => by simp [Value.ownBlock] at e))
           have HI := Lib.hid (ObR.ins HO3.out HR3.out.1 HR3.out.2 kL HB0.out.1 HB0.out.2 HV3.out HFW.out (by first | exact r9 | simpa using r9) (lo9.imp (fun e => by first | exact e | (simpa [Value.ownBlock] using e)) (fun e => by rw [e]; exact HB.out.size)))
           have HSW := Lib.hid (box_frm HX3.out HFW.out (by have h1 := HB0.out.2; have h2 := H56.out; have h3 := H63.out; rintro (e | e); (have := h1 _ e; omega); omega))
           clear r9 gr9 lo9
           rename World => wc
           go_simp
           refine hK.out _ _ (HSW.out) (fun hHeld => ?_)
           clear hK K
           refine wtk 14 rfl ?_; go_simp
           refine wrd 15 rfl fun K hK => ?_
           have cq := HI.out.2.1
           have fq := HI.out.2.2
           go_simp
           clear cq fq
           refine hK.out _ _ (box_far _ HSW.out (by have := HO3.out.lt; have := HB0.out.1; have := H56.out; omega)) (fun hHeld => ?_)
           clear hK K
           refine wpAnyH_done (by kernel_rfl) ?_ _
           have HN := Lib.hid HI.out.1
           clear HB HI HSW HFW
           go_wp2_with fail
           all_goals
            go_meet
            exact ⟨_, HN⟩
         have cq := box_cell (box_up HO3.out.v HB.out) 4
         go_simp
         clear cq
         refine hK.out _ _ (box_up HX3.out HB.out) (fun hHeld => ?_)
         clear hK K
         refine wtk 11 rfl ?_; go_simp
         refine wpAnyH_ready (rs := [1, 12]) (by kernel_rfl) (by simp) (AllReadyH.cons rfl (fun K hK => ?_) (AllReadyH.cons rfl (fun K hK => ?_) AllReadyH.nil))
         · have cq := box_cell (box_up HO3.out.v HB.out) 4
           go_simp
           clear cq
           refine hK.out _ _ (box_up HX3.out HB.out) (fun hHeld => ?_)
           clear hK K
           refine wtk 3 rfl ?_; go_simp
           refine wrd 12 rfl fun K hK => ?_
           refine step_appendG (by rfl) _ _ 93 (by rfl) W3.heap.size 121 i1 _ 6 96 Tryz.underlying93 hj hy0 hy1 hy2 rfl (by decide) k4 1 1 _ (by rfl) HL4.out _ ([] : List (List Value)) (by simp) (by simp) (by rfl) ((show RdF 6 wc (.slice none 0 0) [] from ⟨none, 0, rfl, by simp, by simp, by simp, fun h => absurd rfl h⟩)) (fun c h => by cases h; rfl) ?_ ?_ HB.out.size ?_
           · simp [maxLen]
           · simp
           intro g8 c8 wd r8 gr8
           have HB := Lib.hid (HB.out.grown gr8 HB.out.size (fun k e => by cases e; exact (HL4.out.lt k4 rfl).1))
           have HR8 := Lib.hid (ins_rowM (R := ([] : List (List Value))) (rw0 := str s :: [.int .i64 v.kind, .int .i64 v.n, str v.s, .slice al ll cl, .slice am lm cm]) (by simp) rfl r8)
           clear r8 gr8
           rename World => wc
           go_simp
           refine hK.out _ _ (box_up HX3.out HB.out) (fun hHeld => ?_)
           clear hK K
           refine wrd 13 rfl fun K hK => ?_
           refine step_appendJ (by rfl) _ _ 93 (by rfl) (w.heap.size + 2) 121 i1 _ 6 96 Tryz.underlying93 hj hy0 hy1 hy2 rfl (by decide) (.slice none 0 0) 0 [] (by rfl) (World.ownsRow_nil _ _ _ _) _ ((str s :: [.int .i64 v.kind, .int .i64 v.n, str v.s, .slice al ll cl, .slice am lm cm]) :: ([] : List (List Value))) (by simp) (fun u hu => by rw [List.flatten_cons, List.mem_append] at hu; rcases hu with hu | hu; (rcases List.mem_cons.1 hu with rfl | hu; rfl; exact RdJ.one HV3.out u hu); simp at hu) (by rfl) (HR8.out _ (by first | (rw [HDR.out]; done) | (rw [HDR.out]; omega) | omega | (simp; done) | (simp; omega))) (by simp) ?_ ?_ (Nat.le_trans HO3.out.sz HB.out.size) ?_
           · simp [maxLen]
           · simp
           intro g9 c9 wd r9 gr9 lo9
           simp only [List.length_cons, List.length_nil, Nat.zero_add] at r9 ⊢
           have HFW := Lib.hid (rp_hfw (v := .slice none 0 0) HB.out gr9 (fun i e => by simp [Value.ownBlock] at e))
           have HI := Lib.hid (ObR.ins HO3.out HR3.out.1 HR3.out.2 kL HB0.out.1 HB0.out.2 HV3.out HFW.out (by first | exact r9 | simpa using r9) (lo9.imp (fun e => by first | exact e | (simpa [Value.ownBlock] using e)) (fun e => by rw [e]; exact HB.out.size)))
           have HSW := Lib.hid (box_frm HX3.out HFW.out (by have h1 := HB0.out.2; have h2 := H56.out; have h3 := H63.out; rintro (e | e); (have := h1 _ e; omega); omega))
           clear r9 gr9 lo9
           rename World => wc
           go_simp
           refine hK.out _ _ (HSW.out) (fun hHeld => ?_)
           clear hK K
           refine wtk 14 rfl ?_; go_simp
           refine wrd 15 rfl fun K hK => ?_
           have cq := HI.out.2.1
           have fq := HI.out.2.2
           go_simp
           clear cq fq
           refine hK.out _ _ (box_far _ HSW.out (by have := HO3.out.lt; have := HB0.out.1; have := H56.out; omega)) (fun hHeld => ?_)
           clear hK K
           refine wpAnyH_done (by kernel_rfl) ?_ _
           have HN := Lib.hid HI.out.1
           clear HB HI HSW HFW
           go_wp2_with fail
           all_goals
            go_meet
            exact ⟨_, HN⟩
         refine step_appendG (by rfl) _ _ 93 (by rfl) W3.heap.size 121 i1 _ 6 96 Tryz.underlying93 hj hy0 hy1 hy2 rfl (by decide) k4 1 1 _ (by rfl) HL4.out _ ([] : List (List Value)) (by simp) (by simp) (by rfl) ((show RdF 6 wc (.slice none 0 0) [] from ⟨none, 0, rfl, by simp, by simp, by simp, fun h => absurd rfl h⟩)) (fun c h => by cases h; rfl) ?_ ?_ HB.out.size ?_
         · simp [maxLen]
         · simp
         intro g8 c8 wd r8 gr8
         have HB := Lib.hid (HB.out.grown gr8 HB.out.size (fun k e => by cases e; exact (HL4.out.lt k4 rfl).1))
         have HR8 := Lib.hid (ins_rowM (R := ([] : List (List Value))) (rw0 := str s :: [.int .i64 v.kind, .int .i64 v.n, str v.s, .slice al ll cl, .slice am lm cm]) (by simp) rfl r8)
         clear r8 gr8
         rename World => wc
         go_simp
         refine hK.out _ _ (box_up HX3.out HB.out) (fun hHeld => ?_)
         clear hK K
         refine wrd 1 rfl fun K hK => ?_
         have cq := box_cell (box_up HO3.out.v HB.out) 4
         go_simp
         clear cq
         refine hK.out _ _ (box_up HX3.out HB.out) (fun hHeld => ?_)
         clear hK K
         refine wtk 3 rfl ?_; go_simp
         refine wrd 13 rfl fun K hK => ?_
         refine step_appendJ (by rfl) _ _ 93 (by rfl) (w.heap.size + 2) 121 i1 _ 6 96 Tryz.underlying93 hj hy0 hy1 hy2 rfl (by decide) (.slice none 0 0) 0 [] (by rfl) (World.ownsRow_nil _ _ _ _) _ ((str s :: [.int .i64 v.kind, .int .i64 v.n, str v.s, .slice al ll cl, .slice am lm cm]) :: ([] : List (List Value))) (by simp) (fun u hu => by rw [List.flatten_cons, List.mem_append] at hu; rcases hu with hu | hu; (rcases List.mem_cons.1 hu with rfl | hu; rfl; exact RdJ.one HV3.out u hu); simp at hu) (by rfl) (HR8.out _ (by first | (rw [HDR.out]; done) | (rw [HDR.out]; omega) | omega | (simp; done) | (simp; omega))) (by simp) ?_ ?_ (Nat.le_trans HO3.out.sz HB.out.size) ?_
         · simp [maxLen]
         · simp
         intro g9 c9 wd r9 gr9 lo9
         simp only [List.length_cons, List.length_nil, Nat.zero_add] at r9 ⊢
         have HFW := Lib.hid (rp_hfw (v := .slice none 0 0) HB.out gr9 (fun i e => by simp [Value.ownBlock] at e))
         have HI := Lib.hid (ObR.ins HO3.out HR3.out.1 HR3.out.2 kL HB0.out.1 HB0.out.2 HV3.out HFW.out (by first | exact r9 | simpa using r9) (lo9.imp (fun e => by first | exact e | (simpa [Value.ownBlock] using e)) (fun e => by rw [e]; exact HB.out.size)))
         have HSW := Lib.hid (box_frm HX3.out HFW.out (by have h1 := HB0.out.2; have h2 := H56.out; have h3 := H63.out; rintro (e | e); (have := h1 _ e; omega); omega))
         clear r9 gr9 lo9
         rename World => wc
         go_simp
         refine hK.out _ _ (HSW.out) (fun hHeld => ?_)
         clear hK K
         refine wtk 14 rfl ?_; go_simp
         refine wrd 15 rfl fun K hK => ?_
         have cq := HI.out.2.1
         have fq := HI.out.2.2
         go_simp
         clear cq fq
         refine hK.out _ _ (box_far _ HSW.out (by have := HO3.out.lt; have := HB0.out.1; have := H56.out; omega)) (fun hHeld => ?_)
         clear hK K
         refine wpAnyH_done (by kernel_rfl) ?_ _
         have HN := Lib.hid HI.out.1
         clear HB HI HSW HFW
         go_wp2_with fail
         all_goals
          go_meet
          exact ⟨_, HN⟩
       have cq := box_cell (box_up HO3.out.v HB.out) 4
       go_simp
       clear cq
       refine hK.out _ _ (box_up HX3.out HB.out) (fun hHeld => ?_)
       clear hK K
       refine wtk 11 rfl ?_; go_simp
       refine wpAnyH_ready (rs := [1, 7]) (by kernel_rfl) (by simp) (AllReadyH.cons rfl (fun K hK => ?_) (AllReadyH.cons rfl (fun K hK => ?_) AllReadyH.nil))
       · have cq := box_cell (box_up HO3.out.v HB.out) 4
         go_simp
         clear cq
         refine hK.out _ _ (box_up HX3.out HB.out) (fun hHeld => ?_)
         clear hK K
         refine wtk 3 rfl ?_; go_simp
         refine wrd 7 rfl fun K hK => ?_
         go_simp
         obtain ⟨k4, hk4⟩ : ∃ k, k = wc.heap.size := ⟨_, rfl⟩
         obtain ⟨wd, hwd⟩ : ∃ W, W = wc.alloc (.cells #[str s, .int .i64 v.kind, .int .i64 v.n, str v.s, .slice al ll cl, .slice am lm cm] 121) := ⟨_, rfl⟩
         have hbs : Below wc.heap.size wc wd := by rw [hwd]; exact below_alloc _ _
         have HL4 := Lib.hid (rp_l4 hwd hk4 HB.out.size)
         have HB := Lib.hid (HB.out.trans (hbs.mono HB.out.size))
         rw [← hwd, ← hk4]
         clear hwd hk4 hbs
         rename World => wc
         refine hK.out _ _ (box_up HX3.out HB.out) (fun hHeld => ?_)
         clear hK K
         refine wrd 12 rfl fun K hK => ?_
         refine step_appendG (by rfl) _ _ 93 (by rfl) W3.heap.size 121 i1 _ 6 96 Tryz.underlying93 hj hy0 hy1 hy2 rfl (by decide) k4 1 1 _ (by rfl) HL4.out _ ([] : List (List Value)) (by simp) (by simp) (by rfl) ((show RdF 6 wc (.slice none 0 0) [] from ⟨none, 0, rfl, by simp, by simp, by simp, fun h => absurd rfl h⟩)) (fun c h => by cases h; rfl) ?_ ?_ HB.out.size ?_
         · simp [maxLen]
         · simp
         intro g8 c8 wd r8 gr8
         have HB := Lib.hid (HB.out.grown gr8 HB.out.size (fun k e => by cases e; exact (HL4.out.lt k4 rfl).1))
         have HR8 := Lib.hid (ins_rowM (R := ([] : List (List Value))) (rw0 := str s :: [.int .i64 v.kind, .int .i64 v.n, str v.s, .slice al ll cl, .slice am lm cm]) (by simp) rfl r8)
         clear r8 gr8
         rename World => wc
         go_simp
         refine hK.out _ _ (box_up HX3.out HB.out) (fun hHeld => ?_)
         clear hK K
         refine wrd 13 rfl fun K hK => ?_
         refine step_appendJ (by rfl) _ _ 93 (by rfl) (w.heap.size + 2) 121 i1 _ 6 96 Tryz.underlying93 hj hy0 hy1 hy2 rfl (by decide) (.slice none 0 0) 0 [] (by rfl) (World.ownsRow_nil _ _ _ _) _ ((str s :: [.int .i64 v.kind, .int .i64 v.n, str v.s, .slice al ll cl, .slice am lm cm]) :: ([] : List (List Value))) (by simp) (fun u hu => by rw [List.flatten_cons, List.mem_append] at hu; rcases hu with hu | hu; (rcases List.mem_cons.1 hu with rfl | hu; rfl; exact RdJ.one HV3.out u hu); simp at hu) (by rfl) (HR8.out _ (by first | (rw [HDR.out]; done) | (rw [HDR.out]; omega) | omega | (simp; done) | (simp; omega))) (by simp) ?_ ?_ (Nat.le_trans HO3.out.sz HB.out.size) ?_
         · simp [maxLen]
         · simp
         intro g9 c9 wd r9 gr9 lo9
         simp only [List.length_cons, List.length_nil, Nat.zero_add] at r9 ⊢
         have HFW := Lib.hid (rp_hfw (v := .slice none 0 0) HB.out gr9 (fun i e => by simp [Value.ownBlock] at e))
         have HI := Lib.hid (ObR.ins HO3.out HR3.out.1 HR3.out.2 kL HB0.out.1 HB0.out.2 HV3.out HFW.out (by first | exact r9 | simpa using r9) (lo9.imp (fun e => by first | exact e | (simpa [Value.ownBlock] using e)) (fun e => by rw [e]; exact HB.out.size)))
         have HSW := Lib.hid (box_frm HX3.out HFW.out (by have h1 := HB0.out.2; have h2 := H56.out; have h3 := H63.out; rintro (e | e); (have := h1 _ e; omega); omega))
         clear r9 gr9 lo9
         rename World => wc
         go_simp
         refine hK.out _ _ (HSW.out) (fun hHeld => ?_)
         clear hK K
         refine wtk 14 rfl ?_; go_simp
         refine wrd 15 rfl fun K hK => ?_
         have cq := HI.out.2.1
         have fq := HI.out.2.2
         go_simp
         clear cq fq
         refine hK.out _ _ (box_far _ HSW.out (by have := HO3.out.lt; have := HB0.out.1; have := H56.out; omega)) (fun hHeld => ?_)
         clear hK K
         refine wpAnyH_done (by kernel_rfl) ?_ _
         have HN := Lib.hid HI.out.1
         clear HB HI HSW HFW
         go_wp2_with fail
         all_goals
          go_meet
          exact ⟨_, HN⟩
       go_simp
       obtain ⟨k4, hk4⟩ : ∃ k, k = wc.heap.size := ⟨_, rfl⟩
       obtain ⟨wd, hwd⟩ : ∃ W, W = wc.alloc (.cells #[str s, .int .i64 v.kind, .int .i64 v.n, str v.s, .slice al ll cl, .slice am lm cm] 121) := ⟨_, rfl⟩
       have hbs : Below wc.heap.size wc wd := by rw [hwd]; exact below_alloc _ _
       have HL4 := Lib.hid (rp_l4 hwd hk4 HB.out.size)
       have HB := Lib.hid (HB.out.trans (hbs.mono HB.out.size))
       rw [← hwd, ← hk4]
       clear hwd hk4 hbs
       rename World => wc
       refine hK.out _ _ (box_up HX3.out HB.out) (fun hHeld => ?_)
       clear hK K
       refine wpAnyH_ready (rs := [1, 12]) (by kernel_rfl) (by simp) (AllReadyH.cons rfl (fun K hK => ?_) (AllReadyH.cons rfl (fun K hK => ?_) AllReadyH.nil))
       · have cq := box_cell (box_up HO3.out.v HB.out) 4
         go_simp
         clear cq
         refine hK.out _ _ (box_up HX3.out HB.out) (fun hHeld => ?_)
         clear hK K
         refine wtk 3 rfl ?_; go_simp
         refine wrd 12 rfl fun K hK => ?_
         refine step_appendG (by rfl) _ _ 93 (by rfl) W3.heap.size 121 i1 _ 6 96 Tryz.underlying93 hj hy0 hy1 hy2 rfl (by decide) k4 1 1 _ (by rfl) HL4.out _ ([] : List (List Value)) (by simp) (by simp) (by rfl) ((show RdF 6 wc (.slice none 0 0) [] from ⟨none, 0, rfl, by simp, by simp, by simp, fun h => absurd rfl h⟩)) (fun c h => by cases h; rfl) ?_ ?_ HB.out.size ?_
         · simp [maxLen]
         · simp
         intro g8 c8 wd r8 gr8
         have HB := Lib.hid (HB.out.grown gr8 HB.out.size (fun k e => by cases e; exact (HL4.out.lt k4 rfl).1))
         have HR8 := Lib.hid (ins_rowM (R := ([] : List (List Value))) (rw0 := str s :: [.int .i64 v.kind, .int .i64 v.n, str v.s, .slice al ll cl, .slice am lm cm]) (by simp) rfl r8)
         clear r8 gr8
         rename World => wc
         go_simp
         refine hK.out _ _ (box_up HX3.out HB.out) (fun hHeld => ?_)
         clear hK K
         refine wrd 13 rfl fun K hK => ?_
         refine step_appendJ (by rfl) _ _ 93 (by rfl) (w.heap.size + 2) 121 i1 _ 6 96 Tryz.underlying93 hj hy0 hy1 hy2 rfl (by decide) (.slice none 0 0) 0 [] (by rfl) (World.ownsRow_nil _ _ _ _) _ ((str s :: [.int .i64 v.kind, .int .i64 v.n, str v.s, .slice al ll cl, .slice am lm cm]) :: ([] : List (List Value))) (by simp) (fun u hu => by rw [List.flatten_cons, List.mem_append] at hu; rcases hu with hu | hu; (rcases List.mem_cons.1 hu with rfl | hu; rfl; exact RdJ.one HV3.out u hu); simp at hu) (by rfl) (HR8.out _ (by first | (rw [HDR.out]; done) | (rw [HDR.out]; omega) | omega | (simp; done) | (simp; omega))) (by simp) ?_ ?_ (Nat.le_trans HO3.out.sz HB.out.size) ?_
         · simp [maxLen]
         · simp
         intro g9 c9 wd r9 gr9 lo9
         simp only [List.length_cons, List.length_nil, Nat.zero_add] at r9 ⊢
         have HFW := Lib.hid (rp_hfw (v := .slice none 0 0) HB.out gr9 (fun i e => by simp [Value.ownBlock] at e))
         have HI := Lib.hid (ObR.ins HO3.out HR3.out.1 HR3.out.2 kL HB0.out.1 HB0.out.2 HV3.out HFW.out (by first | exact r9 | simpa using r9) (lo9.imp (fun e => by first | exact e | (simpa [Value.ownBlock] using e)) (fun e => by rw [e]; exact HB.out.size)))
         have HSW := Lib.hid (box_frm HX3.out HFW.out (by have h1 := HB0.out.2; have h2 := H56.out; have h3 := H63.out; rintro (e | e); (have := h1 _ e; omega); omega))
         clear r9 gr9 lo9
         rename World => wc
         go_simp
         refine hK.out _ _ (HSW.out) (fun hHeld => ?_)
         clear hK K
         refine wtk 14 rfl ?_; go_simp
         refine wrd 15 rfl fun K hK => ?_
         have cq := HI.out.2.1
         have fq := HI.out.2.2
         go_simp
         clear cq fq
         refine hK.out _ _ (box_far _ HSW.out (by have := HO3.out.lt; have := HB0.out.1; have := H56.out; omega)) (fun hHeld => ?_)
         clear hK K
         refine wpAnyH_done (by kernel_rfl) ?_ _
         have HN := Lib.hid HI.out.1
         clear HB HI HSW HFW
         go_wp2_with fail
         all_goals
          go_meet
          exact ⟨_, HN⟩
       refine step_appendG (by rfl) _ _ 93 (by rfl) W3.heap.size 121 i1 _ 6 96 Tryz.underlying93 hj hy0 hy1 hy2 rfl (by decide) k4 1 1 _ (by rfl) HL4.out _ ([] : List (List Value)) (by simp) (by simp) (by rfl) ((show RdF 6 wc (.slice none 0 0) [] from ⟨none, 0, rfl, by simp, by simp, by simp, fun h => absurd rfl h⟩)) (fun c h => by cases h; rfl) ?_ ?_ HB.out.size ?_
       · simp [maxLen]
       · simp
       intro g8 c8 wd r8 gr8
       have HB := Lib.hid (HB.out.grown gr8 HB.out.size (fun k e => by cases e; exact (HL4.out.lt k4 rfl).1))
       have HR8 := Lib.hid (ins_rowM (R := ([] : List (List Value))) (rw0 := str s :: [.int .i64 v.kind, .int .i64 v.n, str v.s, .slice al ll cl, .slice am lm cm]) (by simp) rfl r8)
       clear r8 gr8
       rename World => wc
       go_simp
       refine hK.out _ _ (box_up HX3.out HB.out) (fun hHeld => ?_)
       clear hK K
       refine wrd 1 rfl fun K hK => ?_
       have cq := box_cell (box_up HO3.out.v HB.out) 4
       go_simp
       clear cq
       refine hK.out _ _ (box_up HX3.out HB.out) (fun hHeld => ?_)
       clear hK K
       refine wtk 3 rfl ?_; go_simp
       refine wrd 13 rfl fun K hK => ?_
       refine step_appendJ (by rfl) _ _ 93 (by rfl) (w.heap.size + 2) 121 i1 _ 6 96 Tryz.underlying93 hj hy0 hy1 hy2 rfl (by decide) (.slice none 0 0) 0 [] (by rfl) (World.ownsRow_nil _ _ _ _) _ ((str s :: [.int .i64 v.kind, .int .i64 v.n, str v.s, .slice al ll cl, .slice am lm cm]) :: ([] : List (List Value))) (by simp) (fun u hu => by rw [List.flatten_cons, List.mem_append] at hu; rcases hu with hu | hu; (rcases List.mem_cons.1 hu with rfl | hu; rfl; exact RdJ.one HV3.out u hu); simp at hu) (by rfl) (HR8.out _ (by first | (rw [HDR.out]; done) | (rw [HDR.out]; omega) | omega | (simp; done) | (simp; omega))) (by simp) ?_ ?_ (Nat.le_trans HO3.out.sz HB.out.size) ?_
       · simp [maxLen]
       · simp
       intro g9 c9 wd r9 gr9 lo9
       simp only [List.length_cons, List.length_nil, Nat.zero_add] at r9 ⊢
       have HFW := Lib.hid (rp_hfw (v := .slice none 0 0) HB.out gr9 (fun i e => by simp [Value.ownBlock] at e))
       have HI := Lib.hid (ObR.ins HO3.out HR3.out.1 HR3.out.2 kL HB0.out.1 HB0.out.2 HV3.out HFW.out (by first | exact r9 | simpa using r9) (lo9.imp (fun e => by first | exact e | (simpa [Value.ownBlock] using e)) (fun e => by rw [e]; exact HB.out.size)))
       have HSW := Lib.hid (box_frm HX3.out HFW.out (by have h1 := HB0.out.2; have h2 := H56.out; have h3 := H63.out; rintro (e | e); (have := h1 _ e; omega); omega))
       clear r9 gr9 lo9
       rename World => wc
       go_simp
       refine hK.out _ _ (HSW.out) (fun hHeld => ?_)
       clear hK K
       refine wtk 14 rfl ?_; go_simp
       refine wrd 15 rfl fun K hK => ?_
       have cq := HI.out.2.1
       have fq := HI.out.2.2
       go_simp
       clear cq fq
       refine hK.out _ _ (box_far _ HSW.out (by have := HO3.out.lt; have := HB0.out.1; have := H56.out; omega)) (fun hHeld => ?_)
       clear hK K
       refine wpAnyH_done (by kernel_rfl) ?_ _
       have HN := Lib.hid HI.out.1
       clear HB HI HSW HFW
       go_wp2_with fail
       all_goals
        go_meet
        exact ⟨_, HN⟩
     case rest =>
     obtain ⟨vm2, HO⟩ := hcut
     clear HO3 HV3 HX3 H63 HB0 H56
     have CB := Lib.hid (rnext_any t b q5 x5 125 _ HO.out.js.1 hq5 (by omega) (by decide))
     go_wp2_with fail
     refine CB.out.mono ?_
     rintro e w7 ⟨z, q6, y, rfl, hq6, hs7, hnx⟩
     have HO7 := Lib.hid (HO.out.rd hs7)
     have HNX := Lib.hid (And.intro hq6 hnx)
     clear hq6 hs7 hnx HO CB
     cases z with
     | true =>
      have HST : Hid (∃ m, m < gk ∧ OpR t w b f R m w7) := Lib.hid (by
       obtain ⟨hq, hqn, han, _⟩ := HQ.out
       obtain ⟨m, rfl, htx, hR⟩ := HM2.out
       have hx0 : x5 = 0 := Classical.byContradiction fun g => by have := (HNX.out.2.1 g).1; cases this
       have hn := HNX.out.2.2 hx0
       have hr := HRS.out
       cases hfq : f (q3 + 1) with
       | err c =>
        rw [hfq] at hr
        unfold Res at hr
        exact absurd (hr.1.symm.trans hx0) hr.2
       | ok v0 q0 =>
        rw [hfq] at hr hR
        unfold Res at hr
        obtain ⟨rfl, rfl, _⟩ := hr
        have hqq := HF.out (q3 + 1) v q5 hfq
        have hg1 := skp_ge t q
        have hg2 : skp t q < q2 := txtP_ge htx
        have hg3 := skp_ge t q2
        rw [← HQ3.out] at hg3
        dsimp only at hR
        cases hbh : behP t 125 q5 with
        | err c => rw [hbh] at hn; cases hn.1
        | ok d0 r0 =>
         have hlt := behP_lt hbh
         rw [hbh] at hn hR
         cases d0 with
         | true => cases hn.1
         | false =>
          obtain ⟨_, rfl, rfl⟩ := hn
          refine ⟨m, by omega, q6, acc ++ [(s, v)], _, vm2, HNX.out.1, by have := HNX.out.1; omega, by simp; omega, hR.symm, ins_perm HD.out.1, ins_sorted HD.out.2.1 HK.out HSTP.out, ?_, HO7.out⟩
          rw [List.map_append, List.nodup_append]
          refine ⟨HD.out.2.2, by simp, ?_⟩
          intro a ha b2 hb2
          simp only [List.map_cons, List.map_nil, List.mem_singleton] at hb2
          subst hb2
          rintro rfl
          exact HND.out (by first | rfl | trivial) ha)
      obtain ⟨m, hm, hlp⟩ := HST.out
      have HM := Lib.hid hm
      have HLP2 := Lib.hid hlp
      clear hm hlp HST HO7 HNX HQ
      go_wp2_with fail
      go_roundg m
      case measure => exact HM.out
      case rel => exact HLP2
     | false =>
      have HE : Hid (Res r (.mk 7 0 [] [] (d.take k ++ (s, v) :: d.drop k)) q6 y) := Lib.hid (by
       obtain ⟨m, rfl, htx, hR⟩ := HM2.out
       rw [HR.out]
       have hr := HRS.out
       cases hfq : f (q3 + 1) with
       | err c =>
        rw [hfq] at hr hR
        unfold Res at hr
        rw [hR]
        have hy := (HNX.out.2.1 (by rw [hr.1]; exact hr.2)).2
        exact ⟨by rw [hy, hr.1], hr.2⟩
       | ok v0 q0 =>
        rw [hfq] at hr hR
        unfold Res at hr
        obtain ⟨rfl, rfl, rfl⟩ := hr
        have hn := HNX.out.2.2 rfl
        dsimp only at hR
        cases hbh : behP t 125 q5 with
        | err c =>
         rw [hbh] at hn hR
         rw [hR]
         exact ⟨hn.2.1, hn.2.2⟩
        | ok d0 r0 =>
         rw [hbh] at hn hR
         cases d0 with
         | true =>
          obtain ⟨_, rfl, rfl⟩ := hn
          rw [hR]
          have e : d.take k ++ (s, v) :: d.drop k = srtM (acc ++ [(s, v)]) := srt_eq (ins_perm HD.out.1) (ins_sorted HD.out.2.1 HK.out HSTP.out) (by
           rw [List.map_append, List.nodup_append]
           refine ⟨HD.out.2.2, by simp, ?_⟩
           intro a ha b2 hb2
           simp only [List.map_cons, List.map_nil, List.mem_singleton] at hb2
           subst hb2
           rintro rfl
           exact HND.out (by first | rfl | trivial) ha)
          rw [e]
          exact ⟨rfl, rfl, rfl⟩
         | false => cases hn.1)
      have hvf : ∃ va2 vc2, vm2 = .slice va2 (d.take k ++ (s, v) :: d.drop k).length vc2 := by
       obtain ⟨rows, h1, _⟩ := HO7.out.row
       exact own_slice h1
      obtain ⟨va2, vc2, rfl⟩ := hvf
      obtain ⟨nl, hnl⟩ : ∃ nl, nl = (d.take k ++ (s, v) :: d.drop k).length := ⟨_, rfl⟩
      have HNL := Lib.hid hnl
      rw [← hnl] at HO7
      clear hnl
      have hz := HO7.out.z
      have hv := HO7.out.v
      obtain ⟨v0, v1, v2, v3, v4⟩ := box5 hv
      have HX := Lib.hid (And.intro hz HO7.out.js)
      obtain ⟨b0, b1, b2, b3, b4⟩ := box5 hz
      have hfz := box_fr hz
      clear hz hv
      go_wp2_with fail
      refine bodyPost_any_world (fun W => W.heap[w.heap.size]? = some (.cells #[.int .i64 7, .int .i64 0, str [], .slice none 0 0, .slice va2 nl vc2] 95 (0, 0)) ∧ Frm (fun i => i = w.heap.size) w7 W) (five_set HX.out.1 _ _ _ _ _) ?_
      clear b0 b1 b2 b3 b4 hfz
      rintro w9 ⟨h9, hf9⟩
      obtain ⟨k0, k1, k2, k3, k4⟩ := box5 h9
      refine bodyPost_ret (v := .agg #[.int .i64 7, .int .i64 0, str [], .slice none 0 0, .slice va2 nl vc2]) (by simp [results, Tryz.results107, go_sem, k0, k1, k2, k3, k4]) rfl ?_
      obtain ⟨a9, c9, e9, hv9⟩ := HO7.out.val hf9
      simp only [Value.slice.injEq] at e9
      obtain ⟨rfl, e10, rfl⟩ := e9
      rw [← e10] at hv9
      exact ⟨_, _, q6, y, rfl, hv9, JSt.grow HX.out.2 hf9 (fun i e => by have := HO7.out.lt; omega), HNX.out.1, HE.out⟩
end Go.Proofs.YtegblhmcfemfgaaGreatDoor
