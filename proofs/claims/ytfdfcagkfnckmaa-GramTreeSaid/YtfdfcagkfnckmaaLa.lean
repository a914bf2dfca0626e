/- The law GramTree, walked. -/
import Derived.Test.YtfdfcagkfnckmaaVf
import Derived.Test.YtfdfcagkfnckmaaVg
import Derived.Test.YtfdfcagkfnckmaaWn
import Derived.Deep.CutRange
namespace Go.Proofs.Ytfdfcagkfnckmaa
open Go Go.RowKit
theorem bodies_lo {len : Nat} {ms : Nat → Meas} (hs : ∀ m, m < len → 1 ≤ (ms m).1) : ∀ (l : List Rl) (n x : Int), 0 ≤ n → bodies len ms l n = some x → ∀ j, j < l.length → n ≤ (l.getD j Rl.zero).body
  | [], _, _, _, _, j, hj => by simp at hj
  | r :: l, n, x, hn, h, j, hj => by
    unfold bodies at h
    split at h
    · rename_i hc
      have h1 := hs n.toNat (by omega)
      cases j with
      | zero => simp; omega
      | succ j =>
        have := bodies_lo hs l _ x (by omega) h j (by simpa using hj)
        simp
        have e : l.getD j Rl.zero = l[j]?.getD Rl.zero := by simp
        rw [e] at this
        omega
    · cases h
theorem owner_in {g : Gr} {ms : Nat → Meas} (hr : Right g) (hm : Measured g.nodes ms 0) (k n q : Nat) (hk : k < g.rules.length) (hb : bodies g.nodes.length ms (g.rules.drop k) n = some (g.nodes.length : Int)) (h1 : n ≤ q) (h2 : (q : Int) < n + (ms n).1) :
    ownerOf g q = k := by
  rw [List.drop_eq_getElem_cons hk] at hb
  have hgd : g.rules[k] = g.rules.getD k Rl.zero := by simp [List.getD, List.getElem?_eq_getElem hk]
  rw [hgd] at hb
  unfold bodies at hb
  split at hb
  · rename_i hc
    obtain ⟨c1, c2, c3⟩ := hc
    rw [Int.toNat_natCast] at hb
    have hn := hm n (by omega) (by omega)
    rw [ownerOf_yes ⟨hr, by omega, by omega⟩]
    refine lastLe_hit k hk (by omega) (fun j hj hjl => ?_)
    have := bodies_lo (fun m hl => (hm m (by omega) hl).1) _ _ _ (by omega) hb (j - (k + 1)) (by simp; omega)
    have e : (g.rules.drop (k + 1)).getD (j - (k + 1)) Rl.zero = g.rules.getD j Rl.zero := by
      simp only [List.getD_eq_getElem?_getD, List.getElem?_drop]
      congr 2
      omega
    rw [e] at this
    omega
  · cases hb
set_option maxRecDepth 100000 in
set_option maxHeartbeats 16000000 in
theorem tree_law (g : Gr) (w : World) (hg : Gr.At w g) (hin : Gr.In g) : Calls Try.prog 6 #[g.val] w fun e w' => e = .returned (.bool true) ∧ Below w.heap.size w w' := by
  have hrl := hg.rl
  have hnl := hg.nl
  have HG := Lib.hid hg
  have HIN := Lib.hid hin
  have SZ := Lib.hid (fun (w' : World) (b : Below w.heap.size w w') => size_any g w' (hg.below b))
  have RI := Lib.hid (fun (w' : World) (b : Below w.heap.size w w') => right_all g w' (hg.below b) hin)
  clear hg hin
  go_enter Try.func6, Try.ntmps6
  go_wp2_with (first | (go_at_call 9; refine (awake_any _).mono ?_; rintro e w1 ⟨rfl, hb⟩; have H1 := Lib.hid (bb (B1 w _) hb); have K1 := Lib.hid ((Blk.new w _ _).below' hb); have a0 := K1.out.cell 0; have a1 := K1.out.cell 1; simp only [List.getElem?_toArray, List.getElem?_cons_zero, List.getElem?_cons_succ] at a0 a1; clear hb) | (go_at_call 8; refine (SZ.out _ H1.out).mono ?_; rintro e w2 ⟨⟨z, rfl⟩, hb⟩; have H2 := Lib.hid (bb H1.out hb); have K2 := Lib.hid (K1.out.below' hb); have b0 := K2.out.cell 0; have b1 := K2.out.cell 1; simp only [List.getElem?_toArray, List.getElem?_cons_zero, List.getElem?_cons_succ] at b0 b1; clear hb) | (go_at_call 15; refine (RI.out _ H2.out).mono ?_; rintro e w3 ⟨rfl, hb⟩; have H3 := Lib.hid (bb H2.out hb); have KB := Lib.hid (K2.out.below' hb); clear hb a0 a1 b0 b1))
  · go_ret
    exact ⟨rfl, H2.out⟩
  · have hno : ¬ Right g := rightB_false.1 (by have h : (!rightB g) = true := (by assumption); simpa using h)
    have AT := Lib.hid (HG.out.below H3.out)
    have M0 := Lib.hid (fun (n : Int) => measOf_no (g := g) (n := n) (fun h => hno h.1))
    have O0 := Lib.hid (fun (n : Int) => ownerOf_no (g := g) (n := n) (fun h => hno h.1))
    clear hno HG
    go_loopw [3] (fun i wr => ∃ k : Nat, k ≤ g.nodes.length ∧ i = .int .i64 k ∧ Below w3.heap.size w3 wr) (fun i _ => g.nodes.length - (intOf i).toNat)
    case atStart => exact ⟨0, by omega, rfl, Below.refl _ _⟩
    case round =>
      obtain ⟨k, hk, rfl, hbl⟩ := hrel
      have BL := Lib.hid hbl
      clear hbl
      have c1 : wr.cell? ⟨w.heap.size, 1, none⟩ = some (.slice g.NA g.nodes.length g.nc) := (KB.out.below' BL.out).cell 1
      by_cases hlt : k < g.nodes.length
      · have hlt2 : (k : Int) < g.nodes.length := by omega
        clear c1
        have S := Lib.hid (fun (n : Int) (e : Ext wr) => size_of g n e.val ((AT.out.below BL.out).below e.grown) HIN.out)
        have H := Lib.hid (fun (n : Int) (e : Ext wr) => height_of g n e.val ((AT.out.below BL.out).below e.grown) HIN.out)
        have O := Lib.hid (fun (n : Int) (e : Ext wr) => owner_of g n e.val ((AT.out.below BL.out).below e.grown) HIN.out)
        have c0 : wr.cell? ⟨w.heap.size, 0, none⟩ = some (.slice g.RA g.rules.length g.rc) := (KB.out.below' BL.out).cell 0
        have c1 : wr.cell? ⟨w.heap.size, 1, none⟩ = some (.slice g.NA g.nodes.length g.nc) := (KB.out.below' BL.out).cell 1
        have d0 := fun e => Ext.cell c0 e
        have d1 := fun e => Ext.cell c1 e
        have S0 := Lib.hid (fun (e : Ext wr) => by have := S.out k e; rw [M0.out] at this; exact this)
        have H0 := Lib.hid (fun (e : Ext wr) => by have := H.out k e; rw [M0.out] at this; exact this)
        have Q0 := Lib.hid (fun (e : Ext wr) => by have := O.out k e; rw [O0.out] at this; exact this)
        clear S H O
        go_upto_region 9 with fail
        clear c0 c1
        refine wp_region_ext_list ?_
        repeat (first | go_big_quiet_step (first | (go_at_call 25; exact Calls.ext_of (S0.out _)) | (go_at_call 26; exact Calls.ext_of (H0.out _)) | (go_at_call 27; exact Calls.ext_of (Q0.out _))) | quiet_step (first | (go_at_call 25; exact Calls.ext_of (S0.out _)) | (go_at_call 26; exact Calls.ext_of (H0.out _)) | (go_at_call 27; exact Calls.ext_of (Q0.out _))))
        refine wpQuiet_nil ?_
        intro w9 hw'
        obtain ⟨⟨_, hb9⟩, rfl⟩ := hw'
        have B9 := Lib.hid (bb BL.out hb9)
        clear hb9 d0 d1 S0 H0 Q0
        go_wp2_with fail
        go_roundw
        case rel => exact ⟨k + 1, by omega, by go_num, B9.out⟩
        case measure => simp [intOf]; omega
      · obtain rfl : k = g.nodes.length := by omega
        have hlt2 : ¬ (g.nodes.length : Int) < g.nodes.length := by omega
        go_wp2_with fail
        go_ret
        exact ⟨rfl, bb H3.out BL.out⟩
  · have hr : Right g := rightB_true.1 (by have h : (!rightB g) = false := (by assumption); simpa using h)
    obtain ⟨ms, hm, _⟩ := hr.pre
    have AT := Lib.hid (HG.out.below H3.out)
    have BO := Lib.hid (hr.bodies hm)
    have HR := Lib.hid hr
    have HM := Lib.hid hm
    have SG := Lib.hid (fun (n : Nat) (hn : n < g.nodes.length) (w' : World) (b : Below w3.heap.size w3 w') => by have := size_of g n w' (AT.out.below b) HIN.out; rw [measOf_yes hr hm hn] at this; exact this)
    have HT := Lib.hid (fun (n : Nat) (hn : n < g.nodes.length) (w' : World) (b : Below w3.heap.size w3 w') => by have := height_of g n w' (AT.out.below b) HIN.out; rw [measOf_yes hr hm hn] at this; exact this)
    have OG := Lib.hid (fun (n : Int) (w' : World) (b : Below w3.heap.size w3 w') => owner_of g n w' (AT.out.below b) HIN.out)
    have RG := Lib.hid (fun (s : ByteArray) (w' : World) (b : Below w3.heap.size w3 w') => rule_any g s w' (AT.out.below b))
    clear hr hm HG
    go_loopw [5, 4, 6, 7] (fun i nx _ _ wr => ∃ (k n : Nat), k ≤ g.rules.length ∧ i = .int .i64 k ∧ nx = .int .i64 n ∧ n ≤ g.nodes.length ∧ bodies g.nodes.length ms (g.rules.drop k) n = some (g.nodes.length : Int) ∧ Below w3.heap.size w3 wr) (fun i _ _ _ _ => g.rules.length - (intOf i).toNat)
    case atStart => exact ⟨0, 0, by omega, rfl, rfl, by omega, by simpa using BO.out, Below.refl _ _⟩
    case round =>
      obtain ⟨k, n, hk, rfl, rfl, hn, hcl, hbl⟩ := hrel
      obtain ⟨wo, rfl⟩ : ∃ u, u = wr := ⟨_, rfl⟩
      have BL := Lib.hid hbl
      have HCL := Lib.hid hcl
      have c0 : wo.cell? ⟨w.heap.size, 0, none⟩ = some (.slice g.RA g.rules.length g.rc) := (KB.out.below' hbl).cell 0
      clear hbl
      by_cases hlt : k < g.rules.length
      · have hlt2 : (k : Int) < g.rules.length := by omega
        obtain ⟨b1, o1, eA, _, ca, cb⟩ := (AT.out.below BL.out).rules.two hlt
        have hnm := HR.out.named k hlt
        rw [List.drop_eq_getElem_cons hlt] at hcl
        have hgd : g.rules[k] = g.rules.getD k Rl.zero := by simp [List.getD, List.getElem?_eq_getElem hlt]
        rw [hgd] at hcl
        generalize g.rules.getD k Rl.zero = x at ca cb hnm hcl
        unfold bodies at hcl
        split at hcl
        case isFalse => cases hcl
        rename_i hok
        obtain ⟨h1, h2, h3⟩ := hok
        have hnl2 : n < g.nodes.length := by omega
        have hms := HM.out n (by omega) hnl2
        rw [Int.toNat_natCast] at h3 hcl
        have OW := Lib.hid (fun (q : Nat) (a : n ≤ q) (b : (q : Int) < n + (ms n).1) (w' : World) (c : Below w3.heap.size w3 w') => by have := OG.out q w' c; rw [owner_in HR.out HM.out k n q hlt HCL.out a b] at this; exact this)
        have SN := Lib.hid (SG.out n hnl2)
        have HN := Lib.hid (HT.out n hnl2)
        have RN := Lib.hid (fun (w' : World) (c : Below w3.heap.size w3 w') => by have := RG.out x.name w' c; rw [hnm.2] at this; exact this)
        obtain ⟨s1, _, s3, _⟩ := hms
        generalize ms n = mn at s1 s3 h3 hcl OW SN HN
        obtain ⟨sz, ht⟩ := mn
        dsimp only at s1 s3 h3 hcl OW SN HN
        obtain ⟨n', hn'⟩ : ∃ n' : Nat, (n' : Int) = n + sz := ⟨(n + sz).toNat, by omega⟩
        rw [← hn'] at hcl
        have HC2 := Lib.hid hcl
        have HN' := Lib.hid hn'
        rw [h1] at cb
        rw [eA] at c0
        have c0' := fun e => Ext.cell c0 e
        have c1 : wo.cell? ⟨w.heap.size, 1, none⟩ = some (.slice g.NA g.nodes.length g.nc) := (KB.out.below' BL.out).cell 1
        have c1' := fun e => Ext.cell c1 e
        have ca' := fun e => Ext.cell ca e
        have cb' := fun e => Ext.cell cb e
        have HX := Lib.hid eA
        have hg0 : RowKit.Hid (∀ (e : Ext wo), Calls Try.prog 26 #[.agg #[.slice (some ⟨b1, o1, none⟩) g.rules.length g.rc, .slice g.NA g.nodes.length g.nc], .int .i64 n] e.val fun x w' => x = .returned (.int .i64 ht) ∧ Below e.val.heap.size e.val w') := Lib.hid (fun e => by have := HN.out e.val (bb BL.out e.grown); rw [← eA]; exact this)
        have hg1 : RowKit.Hid (∀ (e : Ext wo), Calls Try.prog 17 #[.agg #[.slice (some ⟨b1, o1, none⟩) g.rules.length g.rc, .slice g.NA g.nodes.length g.nc], .string x.name] e.val fun x w' => x = .returned (.int .i64 k) ∧ Below e.val.heap.size e.val w') := Lib.hid (fun e => by have := RN.out e.val (bb BL.out e.grown); rw [← eA]; exact this)
        clear hcl hgd hnm h1 hn' ca cb
        go_upto_region 16 with fail
        clear c0 c1 eA
        refine wp_region_ext (by kernel_rfl) (by kernel_rfl) ?_
        repeat (first | go_big_quiet_step (first | (go_at_call 26; exact Calls.ext_of (hg0.out _)) | (go_at_call 17; exact Calls.ext_of (hg1.out _))) | quiet_step (first | (go_at_call 26; exact Calls.ext_of (hg0.out _)) | (go_at_call 17; exact Calls.ext_of (hg1.out _))))
        refine wpQuiet_nil ?_
        intro w9 hw'
        obtain ⟨⟨_, hb9⟩, rfl⟩ := hw'
        have B9 := Lib.hid (bb BL.out hb9)
        clear hb9 c0' c1' ca' cb' hg0 hg1
        have c2 : w9.cell? ⟨w.heap.size, 0, none⟩ = some (.slice g.RA g.rules.length g.rc) := (KB.out.below' B9.out).cell 0
        have c3 : w9.cell? ⟨w.heap.size, 1, none⟩ = some (.slice g.NA g.nodes.length g.nc) := (KB.out.below' B9.out).cell 1
        go_wp2_with (go_at_call 25; refine (SN.out _ B9.out).mono ?_; rintro e w10 ⟨rfl, hb⟩; have B10 := Lib.hid (bb B9.out hb); clear hb)
        clear c2 c3
        have hs0 : (0 : Int) ≤ sz := by omega
        have hs2 : sz ≤ 140737488351232 := by omega
        go_loopw [7] (fun q wr => ∃ j : Nat, n ≤ j ∧ (j : Int) ≤ n + sz ∧ q = .int .i64 j ∧ Below w3.heap.size w3 wr) (fun q _ => (n + sz - intOf q).toNat)
        case atStart => exact ⟨n, by omega, by omega, rfl, B10.out⟩
        case round =>
          obtain ⟨j, hj1, hj2, rfl, hbl⟩ := hrel
          have BI := Lib.hid hbl
          clear hbl
          by_cases hjt : (j : Int) < n + sz
          · have c4 : wr.cell? ⟨w.heap.size, 0, none⟩ = some (.slice g.RA g.rules.length g.rc) := (KB.out.below' BI.out).cell 0
            have c5 : wr.cell? ⟨w.heap.size, 1, none⟩ = some (.slice g.NA g.nodes.length g.nc) := (KB.out.below' BI.out).cell 1
            have OJ := Lib.hid (OW.out j hj1 hjt)
            go_wp2_with (go_at_call 27; refine (OJ.out _ BI.out).mono ?_; rintro e w11 ⟨rfl, hb⟩; have B11 := Lib.hid (bb BI.out hb); clear hb)
            go_roundw
            case rel => exact ⟨j + 1, by omega, by omega, by go_num, B11.out⟩
            case measure => simp [intOf]; omega
          · have hjt2 : (n : Int) + sz ≤ j := by omega
            go_wp2_with fail
            go_roundw
            case rel => exact ⟨_, _, _, ⟨k + 1, by omega, rfl, n', rfl, by have := HN'.out; omega, HC2.out, BI.out⟩, rfl, by have := HN'.out; simp only [Value.int.injEq, true_and]; omega, by go_num⟩
            case measure => simp [intOf]; omega
      · obtain rfl : k = g.rules.length := by omega
        have hlt2 : ¬ (g.rules.length : Int) < g.rules.length := by omega
        rw [List.drop_length, bodies] at hcl
        have hnn : n = g.nodes.length := by have := Option.some.inj hcl; omega
        subst hnn
        clear hcl HCL
        clear hlt hk hn BO SG HT RG OG
        have HX := Lib.hid (bb H3.out BL.out)
        have AT2 := Lib.hid (AT.out.below BL.out)
        have KB2 := Lib.hid (KB.out.below' BL.out)
        have SG := Lib.hid (fun (n : Nat) (hn : n < g.nodes.length) (w' : World) (b : Below wo.heap.size wo w') => by have := size_of g n w' (AT2.out.below b) HIN.out; rw [measOf_yes HR.out HM.out hn] at this; exact this)
        have HT := Lib.hid (fun (n : Nat) (hn : n < g.nodes.length) (w' : World) (b : Below wo.heap.size wo w') => by have := height_of g n w' (AT2.out.below b) HIN.out; rw [measOf_yes HR.out HM.out hn] at this; exact this)
        go_wp2_with fail
        clear c0 hlt2
        go_loopw [8, 9, 10, 11] (fun i _ _ _ wr => ∃ k : Nat, k ≤ g.nodes.length ∧ i = .int .i64 k ∧ Below wo.heap.size wo wr) (fun i _ _ _ _ => g.nodes.length - (intOf i).toNat)
        case atStart => exact ⟨0, by omega, rfl, Below.refl _ _⟩
        case round =>
          obtain ⟨k, hk, rfl, hbl⟩ := hrel
          obtain ⟨wj, rfl⟩ : ∃ u, u = wr := ⟨_, rfl⟩
          have BJ := Lib.hid hbl
          clear hbl
          have c1 : wj.cell? ⟨w.heap.size, 1, none⟩ = some (.slice g.NA g.nodes.length g.nc) := (KB2.out.below' BJ.out).cell 1
          by_cases hlt : k < g.nodes.length
          · have hlt2 : (k : Int) < g.nodes.length := by omega
            obtain ⟨h1, h2, h3, hcl⟩ := HM.out k (by omega) hlt
            have hle := measured_le HM.out k (by omega) hlt
            have SK := Lib.hid (SG.out k hlt)
            have HK := Lib.hid (HT.out k hlt)
            have OKK := HR.out.all k hlt
            have hat := Lib.hid (AT2.out.node hlt)
            have hinx := Lib.hid (HIN.out (g.nodes.getD k Nd.zero) (getD_mem hlt))
            have NI := Lib.hid (fun (w' : World) (b : Below wo.heap.size wo w') => (AT2.out.below b).nodes.nine hlt)
            rw [show kidsOf g.nodes k = (g.nodes.getD k Nd.zero).kids from rfl] at hcl
            generalize g.nodes.getD k Nd.zero = x at hcl OKK hat hinx NI
            have ND := Lib.hid (fun (w' : World) (b : Below wo.heap.size wo w') => by have := node_any x g.rules.length w' (hat.out.below b) hinx.out; rw [OKK] at this; exact this)
            generalize ms k = mk at h1 h2 h3 hcl hle SK HK
            obtain ⟨sz, ht⟩ := mk
            dsimp only at h1 h2 h3 hcl hle SK HK
            have hkl := hat.out.2.2
            have HC := Lib.hid hcl
            clear hcl OKK
            go_wp2_with fail
            clear c1
            go_loopw [11, 9, 10] (fun q nx hg wr => ∃ (j n h : Nat), j ≤ x.kids.length ∧ q = .int .i64 j ∧ nx = .int .i64 n ∧ hg = .int .i64 h ∧ n ≤ g.nodes.length ∧ h ≤ n ∧ climb g.nodes.length ms (x.kids.drop j) n h = some ((k : Int) + sz, ht - 1) ∧ Below wo.heap.size wo wr) (fun q _ _ _ => x.kids.length - (intOf q).toNat)
            case atStart => exact ⟨0, k + 1, 0, by omega, rfl, by go_num, rfl, by omega, by omega, by simpa using HC.out, BJ.out⟩
            case round =>
              obtain ⟨j, n, h, hj, rfl, rfl, rfl, hn, hh, hcl, hbl⟩ := hrel
              obtain ⟨wi, rfl⟩ : ∃ u, u = wr := ⟨_, rfl⟩
              have BI := Lib.hid hbl
              clear hbl
              have c0 : wi.cell? ⟨w.heap.size, 0, none⟩ = some (.slice g.RA g.rules.length g.rc) := (KB2.out.below' BI.out).cell 0
              have c1 : wi.cell? ⟨w.heap.size, 1, none⟩ = some (.slice g.NA g.nodes.length g.nc) := (KB2.out.below' BI.out).cell 1
              obtain ⟨b1, o1, eA, _, n1, n2, n3, n4, n5, n6, n7, n8, n9⟩ := NI.out wi BI.out
              by_cases hjt : j < x.kids.length
              · have hjt2 : (j : Int) < x.kids.length := by omega
                obtain ⟨bk, ok, ek, _, ck⟩ := lies_cell (hat.out.below BI.out).1 hjt
                rw [List.drop_eq_getElem_cons hjt] at hcl
                have hgd : x.kids[j] = x.kids.getD j 0 := by simp [List.getD, List.getElem?_eq_getElem hjt]
                rw [hgd] at hcl
                rw [ek] at n9
                rw [eA] at c1
                generalize x.kids.getD j 0 = kd at hcl ck
                unfold climb at hcl
                split at hcl
                case isFalse => cases hcl
                rename_i hok
                obtain ⟨rfl, hk2⟩ := hok
                have hnl3 : n < g.nodes.length := by omega
                obtain ⟨s1, s2, s3, _⟩ := HM.out n (by omega) hnl3
                have s4 := measured_le HM.out n (by omega) hnl3
                have SN := Lib.hid (fun (w' : World) (b : Below wo.heap.size wo w') => by have := SG.out n hnl3 w' b; rw [show g.val = .agg #[.slice g.RA g.rules.length g.rc, .slice g.NA g.nodes.length g.nc] from rfl, eA] at this; exact this)
                have HN := Lib.hid (fun (w' : World) (b : Below wo.heap.size wo w') => by have := HT.out n hnl3 w' b; rw [show g.val = .agg #[.slice g.RA g.rules.length g.rc, .slice g.NA g.nodes.length g.nc] from rfl, eA] at this; exact this)
                rw [Int.toNat_natCast] at hcl
                generalize ms n = mn at s1 s2 s3 s4 hcl SN HN
                obtain ⟨sn, hn'⟩ := mn
                dsimp only at s1 s2 s3 s4 hcl SN HN
                obtain ⟨n', e1⟩ : ∃ n' : Nat, (n' : Int) = n + sn := ⟨((n : Int) + sn).toNat, by omega⟩
                obtain ⟨h', e2⟩ : ∃ h' : Nat, (h' : Int) = max (h : Int) hn' := ⟨(max (h : Int) hn').toNat, by omega⟩
                rw [← e1, ← e2] at hcl
                have HCL := Lib.hid hcl
                have E1 := Lib.hid e1
                have E2 := Lib.hid e2
                clear hcl hgd e1 e2 ek n1 n2 n3 n4 n5 n6 n7 n8
                have hKA := (KB2.out.below' BI.out)
                rw [eA] at hKA
                have KBI := Lib.hid hKA
                clear hKA eA
                go_wp2_with (first | (go_at_call 26; refine (HN.out _ BI.out).mono ?_; rintro e w11 ⟨rfl, hb⟩; have B11 := Lib.hid (bb BI.out hb); have f0 := (KBI.out.below' hb).cell 0; have f1 := (KBI.out.below' hb).cell 1; simp only [List.getElem?_toArray, List.getElem?_cons_zero, List.getElem?_cons_succ] at f0 f1; clear hb) | (go_at_call 25; refine (SN.out _ B11.out).mono ?_; rintro e w12 ⟨rfl, hb⟩; have B12 := Lib.hid (bb B11.out hb); clear hb f0 f1))
                all_goals go_roundw
                all_goals first
                  | exact ⟨j + 1, n', h', by omega, by go_num, by have := E1.out; simp only [Value.int.injEq, true_and]; omega, by have := E2.out; simp only [Value.int.injEq, true_and]; omega, by have := E1.out; omega, by have := E1.out; have := E2.out; omega, HCL.out, B12.out⟩
                  | (simp [intOf]; omega)
              · obtain rfl : j = x.kids.length := by omega
                have hjt2 : ¬ (x.kids.length : Int) < x.kids.length := by omega
                rw [List.drop_length, climb] at hcl
                have hcl2 := Option.some.inj hcl
                have e1 : (n : Int) = k + sz := (Prod.mk.inj hcl2).1
                have e2 : (h : Int) = ht - 1 := (Prod.mk.inj hcl2).2
                have hw1 : IntKind.i64.wrap ((n : Int) - k) = sz := (IntWalk.i64_in _ (by omega)).trans (by omega)
                have hw2 : IntKind.i64.wrap ((h : Int) + 1) = ht := (IntWalk.i64_in _ (by omega)).trans (by omega)
                have hw3 : (n : Int) - k = sz := by omega
                have hw4 : (h : Int) + 1 = ht := by omega
                rw [eA] at c1
                have SKE := Lib.hid (fun (e : Ext wi) => by have := SK.out e.val (bb BI.out e.grown); rw [show g.val = .agg #[.slice g.RA g.rules.length g.rc, .slice g.NA g.nodes.length g.nc] from rfl, eA] at this; exact this)
                have HKE := Lib.hid (fun (e : Ext wi) => by have := HK.out e.val (bb BI.out e.grown); rw [show g.val = .agg #[.slice g.RA g.rules.length g.rc, .slice g.NA g.nodes.length g.nc] from rfl, eA] at this; exact this)
                have NDE := Lib.hid (fun (e : Ext wi) => ND.out e.val (bb BI.out e.grown))
                have c0' := fun e => Ext.cell c0 e
                have c1' := fun e => Ext.cell c1 e
                have n1' := fun e => Ext.cell n1 e
                have n2' := fun e => Ext.cell n2 e
                have n3' := fun e => Ext.cell n3 e
                have n4' := fun e => Ext.cell n4 e
                have n5' := fun e => Ext.cell n5 e
                have n6' := fun e => Ext.cell n6 e
                have n7' := fun e => Ext.cell n7 e
                have n8' := fun e => Ext.cell n8 e
                have n9' := fun e => Ext.cell n9 e
                clear hcl hcl2 e1 e2 eA
                go_upto_region 36 with fail
                clear c0 c1 n1 n2 n3 n4 n5 n6 n7 n8 n9
                refine wp_region_ext (by kernel_rfl) (by kernel_rfl) ?_
                repeat (first | go_big_quiet_step (first | (go_at_call 25; exact Calls.ext_of (SKE.out _)) | (go_at_call 26; exact Calls.ext_of (HKE.out _)) | (go_at_call 13; exact Calls.ext_of (NDE.out _))) | quiet_step (first | (go_at_call 25; exact Calls.ext_of (SKE.out _)) | (go_at_call 26; exact Calls.ext_of (HKE.out _)) | (go_at_call 13; exact Calls.ext_of (NDE.out _))))
                refine wpQuiet_nil ?_
                intro w9 hw'
                obtain ⟨⟨_, hb9⟩, rfl⟩ := hw'
                have B9 := Lib.hid (bb BI.out hb9)
                clear hb9 c0' c1' n1' n2' n3' n4' n5' n6' n7' n8' n9' hw1 hw2 hw3 hw4 SKE HKE NDE
                go_wp2_with fail
                go_roundw
                case rel => first | exact ⟨k + 1, by omega, by go_num, B9.out⟩ | exact ⟨_, _, ⟨k + 1, by omega, rfl, B9.out⟩, rfl, by go_num⟩
                case measure => simp [intOf]; omega
          · obtain rfl : k = g.nodes.length := by omega
            have hlt2 : ¬ (g.nodes.length : Int) < g.nodes.length := by omega
            go_wp2_with fail
            go_ret
            exact ⟨ret_bool (by simp), bb HX.out BJ.out⟩
end Go.Proofs.Ytfdfcagkfnckmaa
