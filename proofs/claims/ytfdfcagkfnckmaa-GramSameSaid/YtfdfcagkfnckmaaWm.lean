/- What is a name: the program's answer, the document's. -/
import Derived.Test.YtfdfcagkfnckmaaWc
import Derived.Laws.IdiomStrings
import Derived.Laws.BytesArg
namespace Go.Proofs.Ytfdfcagkfnckmaa
open Go Go.RowKit
/-- A name: a letter, then letters and digits, from 1 to 32 bytes. -/
def byteOk (i : Nat) (b : Int) : Bool := letter b || (decide (i ≠ 0) && digit b)
def nameOk (s : List UInt8) : Bool := decide (1 ≤ s.length ∧ s.length ≤ 32 ∧ ∀ i, i < s.length → byteOk i (s.getD i 0).toNat = true)
theorem conv_bytes (w : World) (s : ByteArray) : ∃ b c w', (convert 9 48 (.string s)).run Try.prog w = .ok (.slice (some ⟨b, 0, none⟩) s.size c) w' ∧ Below w.heap.size w w' ∧ b < w'.heap.size ∧ ∀ i, i < s.size → w'.cell? ⟨b, i, none⟩ = some (.int .u8 (s.data.toList.getD i 0).toNat) := by
  have h := run_bytes_of_string (P := Try.prog) w 9 48 5 s Try.underlying9 Try.underlying48 Try.underlying5
  refine ⟨_, _, _, h, ?_, ?_, fun i hi => ?_⟩
  · exact (bdrew1 (Below.refl _ _)).alloc (Nat.le_refl _) _
  · simp
  · rw [show w.heap.size = w.drew.heap.size from rfl, cell_of_row _ _ i _ _ _ (heap_alloc_new w.drew _), bytesRow_at _ _ i (by simpa using hi)]
    simp [List.getD, List.getElem?_eq_getElem (show i < s.data.toList.length from by simpa using hi)]
theorem nameOk_true {s : List UInt8} (h1 : 1 ≤ s.length) (h2 : s.length ≤ 32) (h : ∀ i, i < s.length → byteOk i (s.getD i 0).toNat = true) : nameOk s = true := by
  unfold nameOk; exact decide_eq_true ⟨h1, h2, h⟩
theorem nameOk_len {s : List UInt8} (h : ¬ (1 ≤ s.length ∧ s.length ≤ 32)) : nameOk s = false := by
  unfold nameOk; exact decide_eq_false fun ⟨a, b, _⟩ => h ⟨a, b⟩
theorem nameOk_byte {s : List UInt8} (i : Nat) (hi : i < s.length) (h : byteOk i (s.getD i 0).toNat = false) : nameOk s = false := by
  unfold nameOk; exact decide_eq_false fun ⟨_, _, c⟩ => by rw [c i hi] at h; cases h
theorem wpList_conv (w : World) {ops : Array Oper} {rest : List Oper} {o : Oper} {a : Act} {Q : Exit → Act → World → Prop}
    (hg : o.guard = none) (x : Operand) (hop : o.op = .convert 9 48 x) (s : ByteArray) (hx : a.eval x = .string s)
    (hK : ∀ b c w', Below w.heap.size w w' → (∀ i, i < s.size → w'.cell? ⟨b, i, none⟩ = some (.int .u8 (s.data.toList.getD i 0).toNat)) → wpList Try.prog ops Q rest (a.put o.dst (.slice (some ⟨b, 0, none⟩) s.size c)) w') :
    wpList Try.prog ops Q (o :: rest) a w := by
  obtain ⟨b, c, w', h1, h2, _, h3⟩ := conv_bytes w s
  refine wpList_plain hg fun K hK' => ?_
  unfold Oper.wp execOp
  simp only [hop, hx, Sem.run_bind, h1, Result.andThen_ok, Sem.run_pure]
  exact hK' _ _ (hK b c w' h2 h3)
set_option maxRecDepth 100000 in
set_option maxHeartbeats 2000000 in
theorem name_any (s : ByteArray) (hs : s.size ≤ 9223372036854775807) (w : World) : Calls Try.prog 11 #[.string s] w fun e w' => e = .returned (.bool (nameOk s.data.toList)) ∧ Below w.heap.size w w' := by
  have hl : s.data.toList.length = s.size := by simp
  by_cases hn : 1 ≤ s.size ∧ s.size ≤ 32
  · have NT := Lib.hid (nameOk_true (s := s.data.toList) (by omega) (by omega))
    have NB := Lib.hid (nameOk_byte (s := s.data.toList))
    have HL := Lib.hid hl
    have hn1 : (1 : Int) ≤ s.size := by omega
    have hn2 : (s.size : Int) ≤ 32 := by omega
    have hd : decide ((1 : Int) ≤ s.size ∧ (s.size : Int) ≤ 32) = true := by simp; omega
    have W33 := Lib.hid (fun w => by have := within_any 1 s.size 32 w; rw [hd] at this; exact this)
    clear hn hl hd
    go_enter Try.func11, Try.ntmps11
    go_wp2_with (first | (go_at_call 33; refine (W33.out _).mono ?_; rintro e w1 ⟨rfl, rfl⟩) | (refine wpList_conv _ rfl (.tmp 9) rfl s rfl ?_; intro b c w1 hb1 hc1; have HB := Lib.hid hb1; have HC := Lib.hid hc1; clear hb1 hc1))
    go_loopw [12, 3, 4] (fun i _ _ wr => ∃ k : Nat, k ≤ s.size ∧ i = .int .i64 k ∧ (∀ j, j < k → byteOk j (s.data.toList.getD j 0).toNat = true) ∧ wr = w1) (fun i _ _ _ => s.size - (intOf i).toNat)
    case atStart => exact ⟨0, by omega, rfl, fun j h => by omega, rfl⟩
    case round =>
      obtain ⟨k, hk, rfl, ht, rfl⟩ := hrel
      have HT := Lib.hid ht
      clear ht
      by_cases hlt : k < s.size
      · have hlt2 : (k : Int) < s.size := by omega
        have hc := HC.out k hlt
        obtain ⟨v, ev⟩ : ∃ v, v = s.data.toList.getD k 0 := ⟨_, rfl⟩
        rw [← ev] at hc
        have EV := Lib.hid ev
        have LA := Lib.hid (fun w => letter_any v.toNat w)
        have DA := Lib.hid (fun w => digit_any v.toNat w)
        have HV := Lib.hid (show byteOk k v.toNat = (letter v.toNat || (decide (k ≠ 0) && digit v.toNat)) from rfl)
        clear ev
        obtain ⟨lb, el⟩ : ∃ lb, lb = letter v.toNat := ⟨_, rfl⟩
        obtain ⟨db, ed⟩ : ∃ db, db = digit v.toNat := ⟨_, rfl⟩
        rw [← el] at LA HV
        rw [← ed] at DA HV
        clear el ed
        cases hbo : byteOk k v.toNat with
        | true =>
          have HBO := Lib.hid hbo
          rw [hbo] at HV
          clear hbo
          cases lb with
          | true =>
            go_wp2_with (go_at_call 34; refine (LA.out _).mono ?_; rintro e w2 ⟨rfl, rfl⟩)
            go_roundw
            case rel => exact ⟨k + 1, by omega, by go_num, fun j hj => by
                by_cases e : j = k
                · subst e; rw [← EV.out]; exact HBO.out
                · exact HT.out j (by omega), by first | trivial | rfl⟩
            case measure => simp [intOf]; omega
          | false =>
            cases db with
            | false => have := HV.out; simp at this
            | true =>
              have k0 : ((k : Int) == 0) = false := by have := HV.out; simp at this ⊢; omega
              go_wp2_with (first | (go_at_call 34; refine (LA.out _).mono ?_; rintro e w2 ⟨rfl, rfl⟩) | (go_at_call 35; refine (DA.out _).mono ?_; rintro e w2 ⟨rfl, rfl⟩))
              go_roundw
              case rel => exact ⟨k + 1, by omega, by go_num, fun j hj => by
                  by_cases e : j = k
                  · subst e; rw [← EV.out]; exact HBO.out
                  · exact HT.out j (by omega), by first | trivial | rfl⟩
              case measure => simp [intOf]; omega
        | false =>
          have HBO := Lib.hid hbo
          rw [hbo] at HV
          clear hbo
          cases lb with
          | true => have := HV.out; simp at this
          | false =>
            by_cases k0 : k = 0
            · have k1 : ((k : Int) == 0) = true := by simp [k0]
              clear k0
              go_wp2_with (first | (go_at_call 34; refine (LA.out _).mono ?_; rintro e w2 ⟨rfl, rfl⟩) | (go_at_call 35; refine (DA.out _).mono ?_; rintro e w2 ⟨rfl, rfl⟩))
              go_ret
              exact ⟨ret_bool (NB.out k (by rw [HL.out]; exact hlt) (by rw [← EV.out]; exact HBO.out)).symm, HB.out⟩
            · cases db with
              | true => have := HV.out; simp at this; exact absurd this k0
              | false =>
                have k1 : ((k : Int) == 0) = false := by simp; omega
                clear k0
                go_wp2_with (first | (go_at_call 34; refine (LA.out _).mono ?_; rintro e w2 ⟨rfl, rfl⟩) | (go_at_call 35; refine (DA.out _).mono ?_; rintro e w2 ⟨rfl, rfl⟩))
                go_ret
                exact ⟨ret_bool (NB.out k (by rw [HL.out]; exact hlt) (by rw [← EV.out]; exact HBO.out)).symm, HB.out⟩
      · obtain rfl : k = s.size := by omega
        have hlt2 : ¬ (s.size : Int) < s.size := by omega
        go_wp2_with fail
        go_ret
        exact ⟨ret_bool (NT.out (fun i hi => HT.out i (by rw [HL.out] at hi; exact hi))).symm, HB.out⟩
  · rw [nameOk_len (by omega)]
    have hd : decide ((1 : Int) ≤ s.size ∧ (s.size : Int) ≤ 32) = false := by simp; omega
    have W33 := Lib.hid (fun w => by have := within_any 1 s.size 32 w; rw [hd] at this; exact this)
    clear hn hd hl
    go_enter Try.func11, Try.ntmps11
    go_wp2_with (go_at_call 33; refine (W33.out _).mono ?_; rintro e w1 ⟨rfl, rfl⟩)
    go_ret
    exact ⟨rfl, Below.refl _ _⟩
end Go.Proofs.Ytfdfcagkfnckmaa
