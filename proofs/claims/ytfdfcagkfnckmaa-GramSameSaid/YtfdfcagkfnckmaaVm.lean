/- A copy is right, and measured, as what it is a copy of; the numbers of both. -/
import Derived.Test.YtfdfcagkfnckmaaVl
import Derived.Test.YtfdfcagkfnckmaaVi
import Derived.Test.YtfdfcagkfnckmaaWg
namespace Go.Proofs.Ytfdfcagkfnckmaa
open Go Go.RowKit
theorem nodeOk_at (x : Nd) (A : Option Addr) (c : Nat) (r : Int) : nodeOk (x.at_ A c) r = nodeOk x r := by
  rw [Bool.eq_iff_iff, nodeOk_iff, nodeOk_iff]
  exact Iff.rfl
theorem GTwin.ok {g h : Gr} (t : GTwin g h) (j : Nat) (hj : j < g.nodes.length) (r : Int) : nodeOk (h.nodes.getD j Nd.zero) r = nodeOk (g.nodes.getD j Nd.zero) r := by
  obtain ⟨A, c, e⟩ := t.node j hj
  rw [e, nodeOk_at]
theorem GTwin.kids {g h : Gr} (t : GTwin g h) (j : Nat) (hj : j < g.nodes.length) : kidsOf h.nodes j = kidsOf g.nodes j := by
  obtain ⟨A, c, e⟩ := t.node j hj
  unfold kidsOf
  rw [e]
theorem GTwin.meas {g h : Gr} (t : GTwin g h) (ms : Nat → Meas) : Measured h.nodes ms 0 ↔ Measured g.nodes ms 0 := by
  unfold Measured
  constructor
  · intro H m h0 hm
    have := H m h0 (by rw [t.len]; exact hm)
    rw [t.len, t.kids m hm] at this
    exact this
  · intro H m h0 hm
    rw [t.len] at hm
    have := H m h0 hm
    rw [t.len, t.kids m hm]
    exact this
theorem GTwin.right {g h : Gr} (t : GTwin g h) : Right h ↔ Right g := by
  constructor
  · intro H
    refine ⟨by have := H.rules; rwa [t.rules] at this, by have := H.nodes; rwa [t.len] at this, by have := H.named; rwa [t.rules] at this, fun j hj => ?_, ?_⟩
    · have := H.all j (by rw [t.len]; exact hj)
      rwa [t.ok j hj, t.rules] at this
    · obtain ⟨ms, h1, h2⟩ := H.pre
      exact ⟨ms, (t.meas ms).1 h1, by rwa [t.len, t.rules] at h2⟩
  · intro H
    refine ⟨by rw [t.rules]; exact H.rules, by rw [t.len]; exact H.nodes, by rw [t.rules]; exact H.named, fun j hj => ?_, ?_⟩
    · rw [t.len] at hj
      rw [t.ok j hj, t.rules]
      exact H.all j hj
    · obtain ⟨ms, h1, h2⟩ := H.pre
      exact ⟨ms, (t.meas ms).2 h1, by rw [t.len, t.rules]; exact h2⟩
theorem GTwin.rightB {g h : Gr} (t : GTwin g h) : rightB h = rightB g := by
  rw [Bool.eq_iff_iff, rightB_true, rightB_true]
  exact t.right
theorem GTwin.measOf {g h : Gr} (t : GTwin g h) (n : Int) : measOf h n = measOf g n := by
  by_cases hy : Right g ∧ 0 ≤ n ∧ n < g.nodes.length
  · obtain ⟨hr, h0, h1⟩ := hy
    obtain ⟨k, rfl⟩ : ∃ k : Nat, n = k := ⟨n.toNat, by omega⟩
    obtain ⟨ms, hm, _⟩ := hr.pre
    rw [measOf_yes hr hm (by omega), measOf_yes (t.right.2 hr) ((t.meas ms).2 hm) (by rw [t.len]; omega)]
  · rw [measOf_no hy, measOf_no (fun ⟨a, b, c⟩ => hy ⟨t.right.1 a, b, by rw [t.len] at c; exact c⟩)]
theorem GTwin.owner {g h : Gr} (t : GTwin g h) (n : Int) : ownerOf h n = ownerOf g n := by
  by_cases hy : Right g ∧ 0 ≤ n ∧ n < g.nodes.length
  · rw [ownerOf_yes hy, ownerOf_yes ⟨t.right.2 hy.1, hy.2.1, by rw [t.len]; exact hy.2.2⟩, t.rules]
  · rw [ownerOf_no hy, ownerOf_no (fun ⟨a, b, c⟩ => hy ⟨t.right.1 a, b, by rw [t.len] at c; exact c⟩)]
theorem GTwin.same {g h : Gr} (t : GTwin g h) : sameGr h g = true := by
  unfold sameGr
  rw [rowSame_true (by rw [t.rules]) (fun i _ => by rw [t.rules]; simp [sameRl]), rowSame_true t.len (fun i hi => by
    rw [t.len] at hi
    obtain ⟨A, c, e⟩ := t.node i hi
    rw [e]
    simp [sameNd])]
  rfl
set_option maxRecDepth 100000 in
set_option maxHeartbeats 8000000 in
theorem numbers_any (g h : Gr) (t : GTwin g h) (n : Int) (w : World) (hg : Gr.At w g) (hh : Gr.At w h) (hi : Gr.In g) : Calls Try.prog 19 #[h.val, g.val, .int .i64 n] w fun e w' => e = .returned (.bool true) ∧ Below w.heap.size w w' := by
  have ih := t.within hi
  obtain ⟨wb, ewb⟩ : ∃ u, u = (w.alloc (.cells #[.slice h.RA h.rules.length h.rc, .slice h.NA h.nodes.length h.nc] 25)).alloc (.cells #[.slice g.RA g.rules.length g.rc, .slice g.NA g.nodes.length g.nc] 25) := ⟨_, rfl⟩
  have hb2 : Below w.heap.size w wb := by rw [ewb]; exact B2 _ _ _
  have K1 : Blk wb w.heap.size #[.slice h.RA h.rules.length h.rc, .slice h.NA h.nodes.length h.nc] 25 := by rw [ewb]; exact (Blk.new _ _ _).alloc _
  have K2 : Blk wb (w.heap.size + 1) #[.slice g.RA g.rules.length g.rc, .slice g.NA g.nodes.length g.nc] 25 := by
    rw [ewb]; have := Blk.new (w.alloc (.cells #[.slice h.RA h.rules.length h.rc, .slice h.NA h.nodes.length h.nc] 25)) #[.slice g.RA g.rules.length g.rc, .slice g.NA g.nodes.length g.nc] 25; rw [World.size_alloc] at this; exact this
  have S1 := Lib.hid (fun (e : Ext wb) => by have := size_of h n e.val ((hh.below hb2).below e.grown) ih; rw [t.measOf n] at this; exact this)
  have S2 := Lib.hid (fun (e : Ext wb) => refSize_any g n e.val ((hg.below hb2).below e.grown) hi)
  have H1 := Lib.hid (fun (e : Ext wb) => by have := height_of h n e.val ((hh.below hb2).below e.grown) ih; rw [t.measOf n] at this; exact this)
  have H2 := Lib.hid (fun (e : Ext wb) => refHeight_any g n e.val ((hg.below hb2).below e.grown) hi)
  have O1 := Lib.hid (fun (e : Ext wb) => by have := owner_of h n e.val ((hh.below hb2).below e.grown) ih; rw [t.owner n] at this; exact this)
  have O2 := Lib.hid (fun (e : Ext wb) => refOwner_any g n e.val ((hg.below hb2).below e.grown) hi)
  obtain ⟨sz, esz⟩ : ∃ z, z = (measOf g n).1 := ⟨_, rfl⟩
  obtain ⟨ht, eht⟩ : ∃ z, z = (measOf g n).2 := ⟨_, rfl⟩
  obtain ⟨ow, eow⟩ : ∃ z, z = ownerOf g n := ⟨_, rfl⟩
  rw [← esz] at S1 S2
  rw [← eht] at H1 H2
  rw [← eow] at O1 O2
  have z1 : (sz == sz) = true := by simp
  have z2 : (ht == ht) = true := by simp
  have z3 : (ow == ow) = true := by simp
  have a0 := fun e => Ext.cell (w := wb) (K1.cell 0) e
  have a1 := fun e => Ext.cell (w := wb) (K1.cell 1) e
  have c0 := fun e => Ext.cell (w := wb) (K2.cell 0) e
  have c1 := fun e => Ext.cell (w := wb) (K2.cell 1) e
  have BB := Lib.hid hb2
  have EW := Lib.hid ewb
  clear esz eht eow hg hh hi ih hb2 K1 K2 ewb t
  show Calls Try.prog 19 #[.agg #[.slice h.RA h.rules.length h.rc, .slice h.NA h.nodes.length h.nc], .agg #[.slice g.RA g.rules.length g.rc, .slice g.NA g.nodes.length g.nc], .int .i64 n] w _
  go_enter Try.func19, Try.ntmps19
  go_upto_region 1 with fail
  rw [← EW.out]
  refine wp_region_ext (by kernel_rfl) (by kernel_rfl) ?_
  repeat (first | go_big_quiet_step (first | (go_at_call 25; exact Calls.ext_of (S1.out _)) | (go_at_call 42; exact Calls.ext_of (S2.out _)) | (go_at_call 26; exact Calls.ext_of (H1.out _)) | (go_at_call 43; exact Calls.ext_of (H2.out _)) | (go_at_call 27; exact Calls.ext_of (O1.out _)) | (go_at_call 44; exact Calls.ext_of (O2.out _))) | quiet_step (first | (go_at_call 25; exact Calls.ext_of (S1.out _)) | (go_at_call 42; exact Calls.ext_of (S2.out _)) | (go_at_call 26; exact Calls.ext_of (H1.out _)) | (go_at_call 43; exact Calls.ext_of (H2.out _)) | (go_at_call 27; exact Calls.ext_of (O1.out _)) | (go_at_call 44; exact Calls.ext_of (O2.out _))))
  refine wpQuiet_nil ?_
  intro w9 hw'
  obtain ⟨⟨_, hb9⟩, rfl⟩ := hw'
  have B9 := Lib.hid (bb BB.out hb9)
  clear hb9 a0 a1 c0 c1 S1 S2 H1 H2 O1 O2
  go_wp2_with fail
  go_ret
  exact ⟨rfl, B9.out⟩
end Go.Proofs.Ytfdfcagkfnckmaa
