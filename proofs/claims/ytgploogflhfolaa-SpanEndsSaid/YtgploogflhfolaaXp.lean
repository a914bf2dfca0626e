/- Layer 3: what the law SpanRows calls: Cut and the document's whole; spans onto an empty row. -/
import Derived.Test.YtgploogflhfolaaXn
import Derived.Test.YtgploogflhfolaaLd
namespace Go.Proofs.Ytgploogflhfolaa
open Go Go.Proofs Go.RowKit
theorem rt_iff' {x y : Int} : rt x y = true ↔ 0 ≤ x ∧ x ≤ y := by simp [rt]
theorem wpList_append_first (w : World) {ops : Array Oper} {rest : List Oper} {o : Oper} {a : Act} {Q : Exit → Act → World → Prop}
    (hgd : o.guard = none) (s x : Operand) (ho : o.op = Op.call { callee := Callee.builtin Builtin.append, args := #[s, x], argTypes := #[32, 32] })
    (B g : Nat) (A : Option Addr) (l : List (Int × Int)) (c : Nat) (hs : a.eval s = .slice (some ⟨g, 0, none⟩) 0 0) (hx : a.eval x = .slice A l.length c) (hnc : A = none → c = 0) (hl : l.length ≤ 65536) (hB : B ≤ w.heap.size) (hown : w.ownsRow B 23 2 (.slice (some ⟨g, 0, none⟩) 0 0) 0 []) (h : Spn w A l)
    (hK : ∀ g' cap' w', w'.ownsRow B 23 2 (.slice (some ⟨g', 0, none⟩) l.length cap') l.length (scells l) → Below w.heap.size w w' → wpList Try.prog ops Q rest (a.put o.dst (.slice (some ⟨g', 0, none⟩) l.length cap')) w') :
    wpList Try.prog ops Q (o :: rest) a w := by
  obtain ⟨g', cap', w', hrun, hown', hb⟩ := run_append_first w B g o.type A l c hnc hl hB hown h
  have h := hK g' cap' w' hown' hb
  refine wpList_plain hgd fun K hK => ?_
  unfold Oper.wp
  simp [execOp, ho, resolve, invoke, builtin, hs, hx, hrun, Result.andThen]
  exact hK _ _ h
/-- What Cut answers. -/
def cutE (l : List Nat) (x y : Int) : Nat := if rt x y = true ∧ y ≤ l.length then 0 else 6
def cutR (l : List Nat) (x y : Int) : List Nat := if rt x y = true ∧ y ≤ l.length then cutL l x.toNat y.toNat else []
theorem cut_all (A : Option Addr) (l : List Nat) (c : Nat) (x y : Int) (hl : l.length ≤ 60000) (hc : l.length ≤ c) (hc2 : c ≤ 9223372036854775807) (hnc : A = none → c = 0) (w : World) (h : Txt w A l) :
    Calls Try.prog 23 #[.slice A l.length c, .agg #[.int .i64 x, .int .i64 y]] w fun e w' => ∃ v, e = .returned (.tuple #[v, .int .i64 (cutE l x y : Nat)]) ∧ w'.ownsRow w.heap.size 5 1 v (cutR l x y).length ((cutR l x y).map natb) ∧ Below w.heap.size w w' := by
  by_cases ok : rt x y = true ∧ y ≤ l.length
  · have h3 := rt_iff'.1 ok.1
    obtain ⟨p, rfl⟩ : ∃ p : Nat, x = p := ⟨x.toNat, by omega⟩
    obtain ⟨q, rfl⟩ : ∃ q : Nat, y = q := ⟨y.toNat, by omega⟩
    have e1 : cutE l p q = 0 := if_pos ok
    have e2 : cutR l p q = cutL l p q := if_pos ok
    rw [e1, e2, cutL_length (by omega) (by omega)]
    exact cut_yes A l c p q hl hc hc2 hnc (by omega) (by omega) w h
  · have e1 : cutE l x y = 6 := if_neg ok
    have e2 : cutR l x y = [] := if_neg ok
    rw [e1, e2]
    refine (cut_no A l.length c x y (by omega) ?_ w).mono fun e w' ⟨he, hb⟩ => ⟨_, he, World.ownsRow_nil _ _ _ _, hb⟩
    cases hr : rt x y with
    | false => exact .inl rfl
    | true => exact .inr (by rw [hr] at ok; simp at ok; omega)
theorem rcut_all (A : Option Addr) (l : List Nat) (c : Nat) (x y : Int) (hl : l.length ≤ 60000) (hc : l.length ≤ c) (hc2 : c ≤ 9223372036854775807) (hnc : A = none → c = 0) (w : World) (h : Txt w A l) :
    Calls Try.prog 24 #[.slice A l.length c, .agg #[.int .i64 x, .int .i64 y]] w fun e w' => ∃ v, e = .returned (.tuple #[v, .int .i64 (cutE l x y : Nat)]) ∧ w'.ownsRow w.heap.size 5 1 v (cutR l x y).length ((cutR l x y).map natb) ∧ Below w.heap.size w w' := by
  by_cases ok : rt x y = true ∧ y ≤ l.length
  · have h3 := rt_iff'.1 ok.1
    obtain ⟨p, rfl⟩ : ∃ p : Nat, x = p := ⟨x.toNat, by omega⟩
    obtain ⟨q, rfl⟩ : ∃ q : Nat, y = q := ⟨y.toNat, by omega⟩
    have e1 : cutE l p q = 0 := if_pos ok
    have e2 : cutR l p q = cutL l p q := if_pos ok
    rw [e1, e2, cutL_length (by omega) (by omega)]
    exact rcut_yes A l c p q hl hc hc2 hnc (by omega) (by omega) w h
  · have e1 : cutE l x y = 6 := if_neg ok
    have e2 : cutR l x y = [] := if_neg ok
    rw [e1, e2]
    refine (rcut_no A l.length c x y (by omega) ?_ w).mono fun e w' ⟨he, hb⟩ => ⟨_, he, World.ownsRow_nil _ _ _ _, hb⟩
    cases hr : rt x y with
    | false => exact .inl rfl
    | true => exact .inr (by rw [hr] at ok; simp at ok; omega)
theorem cutR_length (l : List Nat) (x y : Int) : (cutR l x y).length ≤ l.length := by
  unfold cutR
  split
  · simp [cutL]; omega
  · simp
theorem cutR_mem {l : List Nat} {x y : Int} {b : Nat} (h : b ∈ cutR l x y) : b ∈ l := by
  unfold cutR at h
  split at h
  · exact List.mem_of_mem_drop (List.mem_of_mem_take h)
  · cases h
end Go.Proofs.Ytgploogflhfolaa
