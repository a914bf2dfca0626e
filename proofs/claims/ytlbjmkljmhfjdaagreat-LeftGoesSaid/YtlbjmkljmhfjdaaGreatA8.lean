/- What is a name: the program's answer, the document's. -/
import Derived.Test.YtlbjmkljmhfjdaaGreatA2
import Derived.Laws.IdiomStrings
import Derived.Laws.BytesArg
import Derived.Test.YtlbjmkljmhfjdaaGreatA7
set_option linter.unusedSimpArgs false
set_option linter.unusedVariables false
namespace Go.Proofs.YtlbjmkljmhfjdaaGreat
open Go Go.RowKit
/-- A name: a letter, then letters and digits, from 1 to 32 bytes. -/
def byteOk (i : Nat) (b : Int) : Bool := letter b || (decide (i ≠ 0) && digit b)
def nameOk (s : List UInt8) : Bool := decide (1 ≤ s.length ∧ s.length ≤ 32 ∧ ∀ i, i < s.length → byteOk i (s.getD i 0).toNat = true)
theorem conv_bytes (w : World) (s : ByteArray) : ∃ b c w', (convert 9 151 (.string s)).run Tryz.prog w = .ok (.slice (some ⟨b, 0, none⟩) s.size c) w' ∧ Below w.heap.size w w' ∧ b < w'.heap.size ∧ ∀ i, i < s.size → w'.cell? ⟨b, i, none⟩ = some (.int .u8 (s.data.toList.getD i 0).toNat) := by
  have h := run_bytes_of_string (P := Tryz.prog) w 9 151 5 s Tryz.underlying9 Tryz.underlying151 Tryz.underlying5
  refine ⟨_, _, _, h, ?_, ?_, fun i hi => ?_⟩
  · exact (bdrew1 (Below.refl _ _)).alloc (Nat.le_refl _) _
  · simp
  · rw [show w.heap.size = w.drew.heap.size from rfl, cell_of_row _ _ i _ _ _ (heap_alloc_new w.drew _), bytesRow_at _ _ i (by simpa using hi)]
    simp [List.getD, List.getElem?_eq_getElem (show i < s.data.toList.length from by simpa using hi)]
theorem nameOk_true {s : List UInt8} (h1 : 1 ≤ s.length) (h2 : s.length ≤ 32) (h : ∀ i, i < s.length → byteOk i (s.getD i 0).toNat = true) : nameOk s = true := by
  unfold nameOk; exact decide_eq_true ⟨h1, h2, h⟩
theorem nameOk_len {s : List UInt8} (h : ¬ (1 ≤ s.length ∧ s.length ≤ 32)) : nameOk s = false := by
  unfold nameOk; exact decide_eq_false fun ⟨a, b, _⟩ => h ⟨a, b⟩
theorem nameOk_byte {s : List UInt8} (i : Nat) (hi : i < s.length) (h : byteOk i (s.getD i 0).toNat = false) : nameOk s = false := by
  unfold nameOk; exact decide_eq_false fun ⟨_, _, c⟩ => by rw [c i hi] at h; cases h
theorem wpList_conv (w : World) {ops : Array Oper} {rest : List Oper} {o : Oper} {a : Act} {Q : Exit → Act → World → Prop}
    (hg : o.guard = none) (x : Operand) (hop : o.op = .convert 9 151 x) (s : ByteArray) (hx : a.eval x = .string s)
    (hK : ∀ b c w', Below w.heap.size w w' → (∀ i, i < s.size → w'.cell? ⟨b, i, none⟩ = some (.int .u8 (s.data.toList.getD i 0).toNat)) → wpList Tryz.prog ops Q rest (a.put o.dst (.slice (some ⟨b, 0, none⟩) s.size c)) w') :
    wpList Tryz.prog ops Q (o :: rest) a w := by
  obtain ⟨b, c, w', h1, h2, _, h3⟩ := conv_bytes w s
  refine wpList_plain hg fun K hK' => ?_
  unfold Oper.wp execOp
  simp only [hop, hx, Sem.run_bind, h1, Result.andThen_ok, Sem.run_pure]
  exact hK' _ _ (hK b c w' h2 h3)
set_option maxRecDepth 100000 in
set_option maxHeartbeats 2000000 in
theorem name_any (s : ByteArray) (hs : s.size ≤ 9223372036854775807) (w : World) : Calls Tryz.prog 259 #[.string s] w fun e w' => e = .returned (.bool (nameOk s.data.toList)) ∧ Below w.heap.size w w' := by
  have hl : s.data.toList.length = s.size := by simp
  by_cases hn : 1 ≤ s.size ∧ s.size ≤ 32
  · have NT := Lib.hid (nameOk_true (s := s.data.toList) (by omega) (by omega))
    have NB := Lib.hid (nameOk_byte (s := s.data.toList))
    have HL := Lib.hid hl
    have hn1 : (1 : Int) ≤ s.size := by omega
    have hn2 : (s.size : Int) ≤ 32 := by omega
    have hd : decide ((1 : Int) ≤ s.size ∧ (s.size : Int) ≤ 32) = true := by simp; omega
    have W33 := Lib.hid (fun w => by have := within_any 1 s.size 32 w; rw [hd] at this; exact this)
    clear hn hl hd
    go_enter Tryz.func259, Tryz.ntmps259
    go_wp2_with (first | (go_at_call 233; refine (W33.out _).mono ?_; rintro e w1 ⟨rfl, rfl⟩) | (refine wpList_conv _ rfl (.tmp 9) rfl s rfl ?_; intro b c w1 hb1 hc1; have HB := Lib.hid hb1; have HC := Lib.hid hc1; clear hb1 hc1))
    go_loopw [12, 3, 4] (fun i _ _ wr => ∃ k : Nat, k ≤ s.size ∧ i = .int .i64 k ∧ (∀ j, j < k → byteOk j (s.data.toList.getD j 0).toNat = true) ∧ wr = w1) (fun i _ _ _ => s.size - (intOf i).toNat)
    case atStart => exact ⟨0, by omega, rfl, fun j h => by omega, rfl⟩
    case round =>
      obtain ⟨k, hk, rfl, ht, rfl⟩ := hrel
      have HT := Lib.hid ht
      clear ht
      by_cases hlt : k < s.size
      · have hlt2 : (k : Int) < s.size := by omega
        have hc := HC.out k hlt
        obtain ⟨v, ev⟩ : ∃ v, v = s.data.toList.getD k 0 := ⟨_, rfl⟩
        rw [← ev] at hc
        have EV := Lib.hid ev
        have LA := Lib.hid (fun w => letter_any v.toNat w)
        have DA := Lib.hid (fun w => digit_any v.toNat w)
        have HV := Lib.hid (show byteOk k v.toNat = (letter v.toNat || (decide (k ≠ 0) && digit v.toNat)) from rfl)
        clear ev
        obtain ⟨lb, el⟩ : ∃ lb, lb = letter v.toNat := ⟨_, rfl⟩
        obtain ⟨db, ed⟩ : ∃ db, db = digit v.toNat := ⟨_, rfl⟩
        rw [← el] at LA HV
        rw [← ed] at DA HV
        clear el ed
        cases hbo : byteOk k v.toNat with
        | true =>
          have HBO := Lib.hid hbo
          rw [hbo] at HV
          clear hbo
          cases lb with
          | true =>
            go_wp2_with (go_at_call 286; refine (LA.out _).mono ?_; rintro e w2 ⟨rfl, rfl⟩)
            go_roundw
            case rel => exact ⟨k + 1, by omega, by go_num, fun j hj => by
                by_cases e : j = k
                · subst e; rw [← EV.out]; exact HBO.out
                · exact HT.out j (by omega), by first | trivial | rfl⟩
            case measure => simp [intOf]; omega
          | false =>
            cases db with
            | false => have := HV.out; simp at this
            | true =>
              have k0 : ((k : Int) == 0) = false := by have := HV.out; simp at this ⊢; omega
              go_wp2_with (first | (go_at_call 286; refine (LA.out _).mono ?_; rintro e w2 ⟨rfl, rfl⟩) | (go_at_call 287; refine (DA.out _).mono ?_; rintro e w2 ⟨rfl, rfl⟩))
              go_roundw
              case rel => exact ⟨k + 1, by omega, by go_num, fun j hj => by
                  by_cases e : j = k
                  · subst e; rw [← EV.out]; exact HBO.out
                  · exact HT.out j (by omega), by first | trivial | rfl⟩
              case measure => simp [intOf]; omega
        | false =>
          have HBO := Lib.hid hbo
          rw [hbo] at HV
          clear hbo
          cases lb with
          | true => have := HV.out; simp at this
          | false =>
            by_cases k0 : k = 0
            · have k1 : ((k : Int) == 0) = true := by simp [k0]
              clear k0
              go_wp2_with (first | (go_at_call 286; refine (LA.out _).mono ?_; rintro e w2 ⟨rfl, rfl⟩) | (go_at_call 287; refine (DA.out _).mono ?_; rintro e w2 ⟨rfl, rfl⟩))
              go_ret
              exact ⟨ret_bool (NB.out k (by rw [HL.out]; exact hlt) (by rw [← EV.out]; exact HBO.out)).symm, HB.out⟩
            · cases db with
              | true => have := HV.out; simp at this; exact absurd this k0
              | false =>
                have k1 : ((k : Int) == 0) = false := by simp; omega
                clear k0
                go_wp2_with (first | (go_at_call 286; refine (LA.out _).mono ?_; rintro e w2 ⟨rfl, rfl⟩) | (go_at_call 287; refine (DA.out _).mono ?_; rintro e w2 ⟨rfl, rfl⟩))
                go_ret
                exact ⟨ret_bool (NB.out k (by rw [HL.out]; exact hlt) (by rw [← EV.out]; exact HBO.out)).symm, HB.out⟩
      · obtain rfl : k = s.size := by omega
        have hlt2 : ¬ (s.size : Int) < s.size := by omega
        go_wp2_with fail
        go_ret
        exact ⟨ret_bool (NT.out (fun i hi => HT.out i (by rw [HL.out] at hi; exact hi))).symm, HB.out⟩
  · rw [nameOk_len (by omega)]
    have hd : decide ((1 : Int) ≤ s.size ∧ (s.size : Int) ≤ 32) = false := by simp; omega
    have W33 := Lib.hid (fun w => by have := within_any 1 s.size 32 w; rw [hd] at this; exact this)
    clear hn hd hl
    go_enter Tryz.func259, Tryz.ntmps259
    go_wp2_with (go_at_call 233; refine (W33.out _).mono ?_; rintro e w1 ⟨rfl, rfl⟩)
    go_ret
    exact ⟨rfl, Below.refl _ _⟩
end Go.Proofs.YtlbjmkljmhfjdaaGreat
namespace Go.Proofs.YtlbjmkljmhfjdaaGreat
theorem climb_high {len : Nat} {ms : Nat → Meas} (n0 : Nat) (hs : ∀ m : Nat, n0 ≤ m → m < len → 1 ≤ (ms m).1 ∧ (ms m).2 ≤ (ms m).1) : ∀ (r : List Int) (next high to hh s : Int), (n0 : Int) ≤ next → climb len ms r next high = some (to, hh) → high ≤ next - s → s ≤ next → hh ≤ to - s
  | [], next, high, to, hh, s, _, h, h2, _ => by simp [climb] at h; omega
  | k :: r, next, high, to, hh, s, hn, h, h2, h3 => by
    unfold climb at h
    split at h
    · rename_i hk
      obtain ⟨rfl, hk2⟩ := hk
      obtain ⟨a1, a2⟩ := hs k.toNat (by omega) (by omega)
      exact climb_high n0 hs r _ _ to hh s (by omega) h (by omega) (by omega)
    · cases h
theorem measured_high {l : List Nd} {ms : Nat → Meas} {n : Nat} (h : Measured l ms n) : ∀ d m : Nat, l.length - m ≤ d → n ≤ m → m < l.length → (ms m).2 ≤ (ms m).1
  | 0, m, hd, _, hl => by omega
  | d + 1, m, hd, hn, hl => by
    obtain ⟨a1, a2, a3, a4⟩ := h m hn hl
    have := climb_high (m + 1) (fun k hk hkl => ⟨(h k (by omega) hkl).1, measured_high h d k (by omega) (by omega) hkl⟩) _ _ _ _ _ (m + 1) (by omega) a4 (by omega) (by omega)
    omega
theorem measured_le {l : List Nd} {ms : Nat → Meas} {n : Nat} (h : Measured l ms n) (m : Nat) (hn : n ≤ m) (hl : m < l.length) : (ms m).2 ≤ (ms m).1 := measured_high h _ m (Nat.le_refl _) hn hl
/-- Nodes stand in preorder. -/
def Pre (l : List Nd) : Prop := ∃ ms, Measured l ms 0
noncomputable def preB (l : List Nd) : Bool := by classical exact decide (Pre l)
theorem preB_true {l : List Nd} : preB l = true ↔ Pre l := by unfold preB; simp
theorem preB_false {l : List Nd} : preB l = false ↔ ¬ Pre l := by unfold preB; simp
/-- Bodies one behind the other, none too high; where the last one ends. -/
def bodies (len : Nat) (ms : Nat → Meas) : List Rl → Int → Option Int
  | [], next => some next
  | r :: l, next => if r.body = next ∧ next < len ∧ (ms next.toNat).2 ≤ 16 then bodies len ms l (next + (ms next.toNat).1) else none
/-- Each rule has a name, of its own. -/
def Named (l : List Rl) : Prop := ∀ i, i < l.length → nameOk (l.getD i Rl.zero).name.data.toList = true ∧ ruleAt l (l.getD i Rl.zero).name = i
def AllRight (l : List Nd) (r : Int) : Prop := ∀ i, i < l.length → nodeOk (l.getD i Nd.zero) r = true
structure Right (g : Gr) : Prop where
  rules : 1 ≤ g.rules.length ∧ g.rules.length ≤ 32
  nodes : g.nodes.length ≤ 2048
  named : Named g.rules
  all : AllRight g.nodes g.rules.length
  pre : ∃ ms, Measured g.nodes ms 0 ∧ bodies g.nodes.length ms g.rules 0 = some g.nodes.length
noncomputable def rightB (g : Gr) : Bool := by classical exact decide (Right g)
theorem rightB_true {g : Gr} : rightB g = true ↔ Right g := by unfold rightB; simp
theorem rightB_false {g : Gr} : rightB g = false ↔ ¬ Right g := by unfold rightB; simp
theorem bodies_congr {len : Nat} {ms ms' : Nat → Meas} (h1 : ∀ m, m < len → 1 ≤ (ms m).1) (h : ∀ m, m < len → ms m = ms' m) : ∀ (l : List Rl) (next : Int), 0 ≤ next → bodies len ms l next = bodies len ms' l next
  | [], _, _ => rfl
  | r :: l, next, hn => by
    unfold bodies
    by_cases hl : next < len
    · rw [h next.toNat (by omega)]
      have := h1 next.toNat (by omega)
      rw [h next.toNat (by omega)] at this
      split
      · exact bodies_congr h1 h l _ (by omega)
      · rfl
    · rw [if_neg (fun h => hl h.2.1), if_neg (fun h => hl h.2.1)]
theorem measured_eq {l : List Nd} {ms ms' : Nat → Meas} (h : Measured l ms 0) (h' : Measured l ms' 0) : ∀ m, m < l.length → ms m = ms' m := fun m hm => measured_unique h h' _ m (Nat.le_refl _) (by omega) (by omega) hm
theorem Right.bodies {g : Gr} (h : Right g) {ms : Nat → Meas} (hm : Measured g.nodes ms 0) : bodies g.nodes.length ms g.rules 0 = some g.nodes.length := by
  obtain ⟨ms', h1, h2⟩ := h.pre
  rw [← h2]
  exact bodies_congr (fun m hl => (hm m (by omega) hl).1) (measured_eq hm h1) _ 0 (by omega)
end Go.Proofs.YtlbjmkljmhfjdaaGreat
