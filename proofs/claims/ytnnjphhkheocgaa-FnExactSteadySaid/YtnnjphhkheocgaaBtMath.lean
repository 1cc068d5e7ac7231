/-
  Plain mathematics: the text of a box. Nothing of the program.
-/
import Derived.Test.YtnnjphhkheocgaaNoMath
import Derived.Laws.Concat
namespace Go.Proofs.Ytnnjphhkheocgaa
set_option linter.unusedVariables false

def decB (n : Int) : ByteArray := ⟨(Lib.decDigits n.toNat).toArray⟩
theorem decB_size {n : Int} (h : n ≤ 999999) : (decB n).size ≤ 6 := by
  have := decDigits_len 5 n.toNat (by omega)
  show (Lib.decDigits n.toNat).toArray.size ≤ 6
  rw [List.size_toArray]; exact this
def bt1 (i : Int) : ByteArray := decB i ++ ⟨#[58]⟩
def bt2 (i g : Int) : ByteArray := bt1 i ++ decB g
def bt3 (i g : Int) : ByteArray := bt2 i g ++ ⟨#[47]⟩
def bt4 (i g c : Int) : ByteArray := bt3 i g ++ decB c
def bt5 (i g c : Int) : ByteArray := bt4 i g c ++ ⟨#[47]⟩
def bt6 (i g c p : Int) : ByteArray := bt5 i g c ++ decB p
theorem bt_sizes {i g c p : Int} (hi : i ≤ 999) (hg : g ≤ 30) (hc : c ≤ 3) (hp : p ≤ 6) :
    (bt1 i).size ≤ 7 ∧ (bt2 i g).size ≤ 13 ∧ (bt3 i g).size ≤ 14 ∧ (bt4 i g c).size ≤ 20 ∧ (bt5 i g c).size ≤ 21 ∧ (bt6 i g c p).size ≤ 27 := by
  have h1 := decB_size (n := i) (by omega)
  have h2 := decB_size (n := g) (by omega)
  have h3 := decB_size (n := c) (by omega)
  have h4 := decB_size (n := p) (by omega)
  have e1 : (⟨#[58]⟩ : ByteArray).size = 1 := rfl
  have e2 : (⟨#[47]⟩ : ByteArray).size = 1 := rfl
  unfold bt6 bt5 bt4 bt3 bt2 bt1
  simp only [ByteArray.size_append]
  omega
/-- The text of a box that is valid. -/
def btS (i g c p : Int) (d : Bool) : ByteArray := if d = true then bt6 i g c p ++ ⟨#[99]⟩ else bt6 i g c p
theorem bt_adds (P : Program) {i g c p : Int} (hi : i ≤ 999) (hg : g ≤ 30) (hc : c ≤ 3) (hp : p ≤ 6) :
    (∀ w, (Op.stringOp .add (decB i) ⟨#[58]⟩).run P w = .ok (.string (bt1 i)) w) ∧
    (∀ w, (Op.stringOp .add (bt1 i) (decB g)).run P w = .ok (.string (bt2 i g)) w) ∧
    (∀ w, (Op.stringOp .add (bt2 i g) ⟨#[47]⟩).run P w = .ok (.string (bt3 i g)) w) ∧
    (∀ w, (Op.stringOp .add (bt3 i g) (decB c)).run P w = .ok (.string (bt4 i g c)) w) ∧
    (∀ w, (Op.stringOp .add (bt4 i g c) ⟨#[47]⟩).run P w = .ok (.string (bt5 i g c)) w) ∧
    (∀ w, (Op.stringOp .add (bt5 i g c) (decB p)).run P w = .ok (.string (bt6 i g c p)) w) ∧
    (∀ w, (Op.stringOp .add (bt6 i g c p) ⟨#[99]⟩).run P w = .ok (.string (bt6 i g c p ++ ⟨#[99]⟩)) w) := by
  obtain ⟨s1, s2, s3, s4, s5, s6⟩ := bt_sizes hi hg hc hp
  have h1 := decB_size (n := i) (by omega)
  have h2 := decB_size (n := g) (by omega)
  have h3 := decB_size (n := c) (by omega)
  have h4 := decB_size (n := p) (by omega)
  have e1 : (⟨#[58]⟩ : ByteArray).size = 1 := rfl
  have e2 : (⟨#[47]⟩ : ByteArray).size = 1 := rfl
  have e3 : (⟨#[99]⟩ : ByteArray).size = 1 := rfl
  refine ⟨fun w => run_string_add w _ _ (by omega) (by omega), fun w => run_string_add w _ _ (by omega) (by omega), fun w => run_string_add w _ _ (by omega) (by omega),
    fun w => run_string_add w _ _ (by omega) (by omega), fun w => run_string_add w _ _ (by omega) (by omega), fun w => run_string_add w _ _ (by omega) (by omega), fun w => run_string_add w _ _ (by omega) (by omega)⟩
end Go.Proofs.Ytnnjphhkheocgaa
