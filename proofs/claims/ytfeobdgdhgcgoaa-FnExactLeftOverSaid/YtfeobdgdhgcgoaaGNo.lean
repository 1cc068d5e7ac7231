/-
  Plain mathematics of the law on the values of letters and digits. Nothing of the program.
  Plain mathematics of the numbers of containers: six digits with zeros ahead, the text ahead of the check digit, the number. Nothing of the program.
  Contracts of the model's numbers: l1Number writes a number in decimal, NumberOf makes the number of a container.
  Plain mathematics: the text of a box. Nothing of the program.
  The contract of the model's BoxText.
  Plain mathematics: the weights of some of valid boxes. Nothing of the program.
  The contract of the model's WeightOf.
-/
import Derived.Test.YtfeobdgdhgcgoaaGCr
import Derived.WideShapes
import Derived.Lib.ItoaNum
import Derived.Test.YtfeobdgdhgcgoaaRows
import Derived.WalkKit
import Derived.BigQuiet
import Derived.Deep.QuietTactic
import Derived.Lib.Hide
import Derived.WalkSpells
import Derived.Deep.RegionWith
import Derived.Laws.BytesArg
import Derived.IntWalk
import Derived.Laws.Concat
import Derived.Test.YtfeobdgdhgcgoaaGBx
import Derived.Deep.RegionHeld3
import Derived.Test.YtfeobdgdhgcgoaaGBase
namespace Go.Proofs.Ytfeobdgdhgcgoaa
set_option linter.unusedVariables false

theorem extract_one (s : ByteArray) (k : Nat) (h : k < s.size) : (s.extract k (k + 1)).data.toList = [s.data.toList.getD k 0] := by
  have h' : k < s.data.toList.length := by rw [Array.length_toList]; exact h
  rw [ByteArray.data_extract, Array.toList_extract, List.extract_eq_take_drop, List.drop_eq_getElem_cons h', List.getD_eq_getElem?_getD, List.getElem?_eq_getElem h']
  rw [show k + 1 - k = 1 by omega]
  rfl

/-- A text with a value has one byte, a digit or a capital. -/
theorem cvS_pos {l : List UInt8} (h : 0 ≤ cvS l) : ∃ c : UInt8, l = [c] ∧ ((48 ≤ (c.toNat : Int) ∧ (c.toNat : Int) ≤ 57) ∨ (65 ≤ (c.toNat : Int) ∧ (c.toNat : Int) ≤ 90)) := by
  match l, h with
  | [c], h =>
    refine ⟨c, rfl, ?_⟩
    by_cases h1 : 48 ≤ (c.toNat : Int) ∧ (c.toNat : Int) ≤ 57
    · exact .inl h1
    · by_cases h2 : 65 ≤ (c.toNat : Int) ∧ (c.toNat : Int) ≤ 90
      · exact .inr h2
      · have e : cvS [c] = -1 := cvB_other h1 h2
        omega
  | [], h => have e : cvS [] = -1 := rfl; omega
  | _ :: _ :: _, h => exact absurd h (by show ¬ (0 ≤ (-1 : Int)); omega)

theorem cvS_bd (l : List UInt8) : -1 ≤ cvS l ∧ cvS l ≤ 38 := by
  match l with
  | [c] => exact cvB_bd _
  | [] => exact ⟨by decide, by decide⟩
  | _ :: _ :: _ => exact ⟨by show -1 ≤ (-1 : Int); omega, by show (-1 : Int) ≤ 38; omega⟩

theorem cvB_inj {c d : Int} (hc : (48 ≤ c ∧ c ≤ 57) ∨ (65 ≤ c ∧ c ≤ 90)) (hd : (48 ≤ d ∧ d ≤ 57) ∨ (65 ≤ d ∧ d ≤ 90)) : cvB c = cvB d ↔ c = d := by
  rcases hc with hc | hc <;> rcases hd with hd | hd
  · rw [cvB_digit hc, cvB_digit hd]; omega
  · rw [cvB_digit hc, cvB_capital hd]; omega
  · rw [cvB_capital hc, cvB_digit hd]; omega
  · rw [cvB_capital hc, cvB_capital hd]; omega

theorem cvB_letter {c : Int} (hc : (48 ≤ c ∧ c ≤ 57) ∨ (65 ≤ c ∧ c ≤ 90)) (h : ¬ cvB c < 10) : cvB c % 11 ≠ 0 := by
  rcases hc with hc | hc
  · rw [cvB_digit hc] at h; omega
  · rw [cvB_capital hc] at h ⊢; omega

def allText : ByteArray := ⟨#[65, 66, 67, 68, 69, 70, 71, 72, 73, 74, 75, 76, 77, 78, 79, 80, 81, 82, 83, 84, 85, 86, 87, 88, 89, 90, 48, 49, 50, 51, 52, 53, 54, 55, 56, 57]⟩
theorem allText_at : ∀ k : Fin 36, (48 ≤ byteAt allText k.val ∧ byteAt allText k.val ≤ 57) ∨ (65 ≤ byteAt allText k.val ∧ byteAt allText k.val ≤ 90) := by decide +kernel

/-- Of a text with a value: at each place of the text of all letters and digits the value is the same just where the byte is. -/
theorem all_same (s : ByteArray) (h : 0 ≤ cvS s.data.toList) (k : Nat) (hk : k < 36) :
    (cvB (byteAt allText k) = cvS s.data.toList) ↔ (allText.extract k (k + 1) = s) := by
  obtain ⟨c, hc, hr⟩ := cvS_pos h
  have hs : k < allText.size := hk
  have ha := allText_at ⟨k, hk⟩
  simp only at ha
  have e1 : cvS s.data.toList = cvB (c.toNat : Int) := by rw [hc]; rfl
  rw [e1, cvB_inj ha hr]
  constructor
  · intro e
    apply Go.WideShapes.bytes_inj
    rw [extract_one _ _ hs, hc]
    congr 1
    apply UInt8.toNat_inj.1
    unfold byteAt at e
    omega
  · intro e
    have e2 := extract_one _ _ hs
    rw [e, hc] at e2
    unfold byteAt
    rw [List.cons.inj e2 |>.1]
end Go.Proofs.Ytfeobdgdhgcgoaa
namespace Go.Proofs.Ytfeobdgdhgcgoaa
set_option linter.unusedVariables false

def padJ (j : Nat) (l : List UInt8) : ByteArray := ⟨(List.replicate j 48 ++ l).toArray⟩
theorem padJ_size (j : Nat) (l : List UInt8) : (padJ j l).size = j + l.length := by simp [padJ, ByteArray.size]
theorem padJ_succ (j : Nat) (l : List UInt8) : (⟨#[48]⟩ : ByteArray) ++ padJ j l = padJ (j + 1) l := by
  apply ByteArray.ext
  simp [padJ, List.replicate_succ]

theorem decDigits_len : ∀ (k m : Nat), m < 10 ^ (k + 1) → (Lib.decDigits m).length ≤ k + 1
  | 0, m, h => by rw [Lib.decDigits, dif_pos (by omega)]; simp
  | k + 1, m, h => by
    rw [Lib.decDigits]
    split
    · simp
    · have h' : m < 10 ^ (k + 1) * 10 := by rw [← Nat.pow_succ]; exact h
      have := decDigits_len k (m / 10) (by omega)
      simp; omega

/-- Six digits. -/
def pad6 (m : Nat) : ByteArray := padJ (6 - (Lib.decDigits m).length) (Lib.decDigits m)
theorem pad6_size {m : Nat} (h : m ≤ 999999) : (pad6 m).size = 6 := by
  have := decDigits_len 5 m (by omega)
  rw [pad6, padJ_size]; omega

def kindText : ByteArray := ⟨#[85, 74, 90]⟩
/-- The text ahead of the check digit. -/
def numText (o : ByteArray) (k m : Int) : ByteArray := o ++ kindText.extract k.toNat (k + 1).toNat ++ pad6 m.toNat
theorem numText_size {o : ByteArray} {k m : Int} (h0 : 0 ≤ k) (h1 : k ≤ 2) (h2 : 0 ≤ m) (h3 : m ≤ 999999) : (numText o k m).size = o.size + 7 := by
  rw [numText, ByteArray.size_append, ByteArray.size_append, ByteArray.size_extract, pad6_size (by omega)]
  have : kindText.size = 3 := rfl
  omega
def inNum (k m : Int) : Bool := decide (0 ≤ k ∧ k ≤ 2 ∧ 0 ≤ m ∧ m ≤ 999999)
/-- The number: no text if there is none. -/
def numS (o : ByteArray) (k m : Int) : ByteArray :=
  if inNum k m = true ∧ 0 ≤ crS (numText o k m) then numText o k m ++ ⟨(Lib.decDigits (crS (numText o k m) % 10).toNat).toArray⟩ else ⟨#[]⟩
theorem numS_out {o : ByteArray} {k m : Int} (h : ¬ (0 ≤ k ∧ k ≤ 2 ∧ 0 ≤ m ∧ m ≤ 999999)) : numS o k m = ⟨#[]⟩ := by
  unfold numS; rw [if_neg (fun e => h (by unfold inNum at e; exact of_decide_eq_true e.1))]
theorem numS_none {o : ByteArray} {k m : Int} (h : crS (numText o k m) < 0) : numS o k m = ⟨#[]⟩ := by
  unfold numS; rw [if_neg (by omega)]
theorem numS_yes {o : ByteArray} {k m : Int} (h : 0 ≤ k ∧ k ≤ 2 ∧ 0 ≤ m ∧ m ≤ 999999) (hc : 0 ≤ crS (numText o k m)) :
    numS o k m = numText o k m ++ ⟨(Lib.decDigits (crS (numText o k m) % 10).toNat).toArray⟩ := by
  unfold numS; rw [if_pos ⟨by unfold inNum; exact decide_eq_true h, hc⟩]
end Go.Proofs.Ytfeobdgdhgcgoaa
namespace Go.Proofs.Ytfeobdgdhgcgoaa
open Go.RowKit
set_option linter.unusedVariables false

/-- A text of one byte, made of a new block. -/
theorem conv_one (w : World) (c : Int) (w' : World) (hb : Below (w.heap.size + 1) (w.alloc (.cells #[.int .u8 c] 5)) w') :
    (convert 22 9 (.slice (some ⟨w.heap.size, 0, none⟩) 1 1)).run Try.prog w' = .ok (.string ⟨#[UInt8.ofNat c.toNat]⟩) w' :=
  run_convert_bytes_arg w' 22 5 Try.underlying22 Try.underlying5 w.heap.size 0 1 1 [c] rfl (fun i hi => by
    obtain rfl : i = 0 := by omega
    rw [hb.cell (p := ⟨w.heap.size, 0 + 0, none⟩) (by simp), World.cell?_alloc_new]
    rfl) 9 Try.underlying9

theorem conv_at (b : Nat) (c : Int) (w' : World) (h : w'.cell? ⟨b, 0, none⟩ = some (.int .u8 c)) :
    (convert 22 9 (.slice (some ⟨b, 0, none⟩) 1 1)).run Try.prog w' = .ok (.string ⟨#[UInt8.ofNat c.toNat]⟩) w' :=
  run_convert_bytes_arg w' 22 5 Try.underlying22 Try.underlying5 b 0 1 1 [c] rfl (fun i hi => by
    obtain rfl : i = 0 := by omega
    exact h) 9 Try.underlying9

theorem cell_new_one (w w' : World) (v : Value) (T : TypeId) (hb : Below (w.alloc (.cells #[v] T)).drew.heap.size (w.alloc (.cells #[v] T)).drew w') : w'.cell? ⟨w.heap.size, 0, none⟩ = some v := by
  rw [hb.cell (p := ⟨w.heap.size, 0, none⟩) (by show w.heap.size < (w.alloc (.cells #[v] T)).heap.size; simp)]
  show (w.alloc (.cells #[v] T)).cell? ⟨w.heap.size, 0, none⟩ = some v
  rw [World.cell?_alloc_new]; rfl

theorem decDigits_small (n : Int) (h0 : 0 ≤ n) (h1 : n < 10) : Lib.decDigits n.toNat = [UInt8.ofNat (48 + n).toNat] := by
  rw [Lib.decDigits, dif_pos (by omega)]
  congr 2; omega
theorem decDigits_big (n : Int) (h0 : 10 ≤ n) : Lib.decDigits n.toNat = Lib.decDigits (n / 10).toNat ++ [UInt8.ofNat (48 + n % 10).toNat] := by
  rw [Lib.decDigits, dif_neg (by omega)]
  congr 2
  · omega
  · congr 1; omega

theorem add_list (l r : List UInt8) (hl : l.length ≤ 8388608) (hr : r.length ≤ 8388608) (w : World) :
    (Op.stringOp .add ⟨l.toArray⟩ ⟨r.toArray⟩).run Try.prog w = .ok (.string ⟨(l ++ r).toArray⟩) w := by
  exact run_string_add_lists w l r (by omega) (by omega)

end Go.Proofs.Ytfeobdgdhgcgoaa
namespace Go.Proofs.Ytfeobdgdhgcgoaa
set_option linter.unusedVariables false

def decB (n : Int) : ByteArray := ⟨(Lib.decDigits n.toNat).toArray⟩
theorem decB_size {n : Int} (h : n ≤ 999999) : (decB n).size ≤ 6 := by
  have := decDigits_len 5 n.toNat (by omega)
  show (Lib.decDigits n.toNat).toArray.size ≤ 6
  rw [List.size_toArray]; exact this
def bt1 (i : Int) : ByteArray := decB i ++ ⟨#[58]⟩
def bt2 (i g : Int) : ByteArray := bt1 i ++ decB g
def bt3 (i g : Int) : ByteArray := bt2 i g ++ ⟨#[47]⟩
def bt4 (i g c : Int) : ByteArray := bt3 i g ++ decB c
def bt5 (i g c : Int) : ByteArray := bt4 i g c ++ ⟨#[47]⟩
def bt6 (i g c p : Int) : ByteArray := bt5 i g c ++ decB p
theorem bt_sizes {i g c p : Int} (hi : i ≤ 999) (hg : g ≤ 30) (hc : c ≤ 3) (hp : p ≤ 6) :
    (bt1 i).size ≤ 7 ∧ (bt2 i g).size ≤ 13 ∧ (bt3 i g).size ≤ 14 ∧ (bt4 i g c).size ≤ 20 ∧ (bt5 i g c).size ≤ 21 ∧ (bt6 i g c p).size ≤ 27 := by
  have h1 := decB_size (n := i) (by omega)
  have h2 := decB_size (n := g) (by omega)
  have h3 := decB_size (n := c) (by omega)
  have h4 := decB_size (n := p) (by omega)
  have e1 : (⟨#[58]⟩ : ByteArray).size = 1 := rfl
  have e2 : (⟨#[47]⟩ : ByteArray).size = 1 := rfl
  unfold bt6 bt5 bt4 bt3 bt2 bt1
  simp only [ByteArray.size_append]
  omega
/-- The text of a box that is valid. -/
def btS (i g c p : Int) (d : Bool) : ByteArray := if d = true then bt6 i g c p ++ ⟨#[99]⟩ else bt6 i g c p
theorem bt_adds (P : Program) {i g c p : Int} (hi : i ≤ 999) (hg : g ≤ 30) (hc : c ≤ 3) (hp : p ≤ 6) :
    (∀ w, (Op.stringOp .add (decB i) ⟨#[58]⟩).run P w = .ok (.string (bt1 i)) w) ∧
    (∀ w, (Op.stringOp .add (bt1 i) (decB g)).run P w = .ok (.string (bt2 i g)) w) ∧
    (∀ w, (Op.stringOp .add (bt2 i g) ⟨#[47]⟩).run P w = .ok (.string (bt3 i g)) w) ∧
    (∀ w, (Op.stringOp .add (bt3 i g) (decB c)).run P w = .ok (.string (bt4 i g c)) w) ∧
    (∀ w, (Op.stringOp .add (bt4 i g c) ⟨#[47]⟩).run P w = .ok (.string (bt5 i g c)) w) ∧
    (∀ w, (Op.stringOp .add (bt5 i g c) (decB p)).run P w = .ok (.string (bt6 i g c p)) w) ∧
    (∀ w, (Op.stringOp .add (bt6 i g c p) ⟨#[99]⟩).run P w = .ok (.string (bt6 i g c p ++ ⟨#[99]⟩)) w) := by
  obtain ⟨s1, s2, s3, s4, s5, s6⟩ := bt_sizes hi hg hc hp
  have h1 := decB_size (n := i) (by omega)
  have h2 := decB_size (n := g) (by omega)
  have h3 := decB_size (n := c) (by omega)
  have h4 := decB_size (n := p) (by omega)
  have e1 : (⟨#[58]⟩ : ByteArray).size = 1 := rfl
  have e2 : (⟨#[47]⟩ : ByteArray).size = 1 := rfl
  have e3 : (⟨#[99]⟩ : ByteArray).size = 1 := rfl
  refine ⟨fun w => run_string_add w _ _ (by omega) (by omega), fun w => run_string_add w _ _ (by omega) (by omega), fun w => run_string_add w _ _ (by omega) (by omega),
    fun w => run_string_add w _ _ (by omega) (by omega), fun w => run_string_add w _ _ (by omega) (by omega), fun w => run_string_add w _ _ (by omega) (by omega), fun w => run_string_add w _ _ (by omega) (by omega)⟩
end Go.Proofs.Ytfeobdgdhgcgoaa
namespace Go.Proofs.Ytfeobdgdhgcgoaa
open Go.RowKit
set_option linter.unusedVariables false

/-- The box's cells in a world, and that nothing that was there has turned. -/
def HasBox (B : Nat) (i g c p : Int) (d : Bool) (w w' : World) : Prop :=
  w'.cell? ⟨B, 0, none⟩ = some (.int .i64 i) ∧ w'.cell? ⟨B, 1, none⟩ = some (.int .i64 g) ∧ w'.cell? ⟨B, 2, none⟩ = some (.int .i64 c) ∧ w'.cell? ⟨B, 3, none⟩ = some (.int .i64 p) ∧ w'.cell? ⟨B, 4, none⟩ = some (.bool d) ∧ B < w'.heap.size ∧ Below w.heap.size w w'
theorem HasBox.keep {B : Nat} {i g c p : Int} {d : Bool} {w w1 w2 : World} (h : HasBox B i g c p d w w1) (hb : Below w1.heap.size w1 w2) : HasBox B i g c p d w w2 := by
  obtain ⟨h0, h1, h2, h3, h4, h5, h6⟩ := h
  have k : ∀ o, w2.cell? ⟨B, o, none⟩ = w1.cell? ⟨B, o, none⟩ := fun o => hb.cell (p := ⟨B, o, none⟩) h5
  exact ⟨by rw [k]; exact h0, by rw [k]; exact h1, by rw [k]; exact h2, by rw [k]; exact h3, by rw [k]; exact h4, Nat.lt_of_lt_of_le h5 hb.size, h6.trans (hb.mono h6.size)⟩

/-- What the region's worlds bear: the four cells that it loads, and the rest. -/
theorem HasBox.bears {B : Nat} {i g c p : Int} {d : Bool} {w w1 : World} (h : HasBox B i g c p d w w1) :
    w1.cell? ⟨B, 0, none⟩ = some (.int .i64 i) ∧ w1.cell? ⟨B, 1, none⟩ = some (.int .i64 g) ∧ w1.cell? ⟨B, 2, none⟩ = some (.int .i64 c) ∧ w1.cell? ⟨B, 3, none⟩ = some (.int .i64 p) ∧ HasBox B i g c p d w w1 :=
  ⟨h.1, h.2.1, h.2.2.1, h.2.2.2.1, h⟩
theorem HasBox.bears_on {B : Nat} {i g c p : Int} {d : Bool} {w w1 w2 : World} (hb : Below w1.heap.size w1 w2)
    (h : w1.cell? ⟨B, 0, none⟩ = some (.int .i64 i) ∧ w1.cell? ⟨B, 1, none⟩ = some (.int .i64 g) ∧ w1.cell? ⟨B, 2, none⟩ = some (.int .i64 c) ∧ w1.cell? ⟨B, 3, none⟩ = some (.int .i64 p) ∧ HasBox B i g c p d w w1) :
    w2.cell? ⟨B, 0, none⟩ = some (.int .i64 i) ∧ w2.cell? ⟨B, 1, none⟩ = some (.int .i64 g) ∧ w2.cell? ⟨B, 2, none⟩ = some (.int .i64 c) ∧ w2.cell? ⟨B, 3, none⟩ = some (.int .i64 p) ∧ HasBox B i g c p d w w2 := (h.2.2.2.2.keep hb).bears
theorem HasBox.drew {B : Nat} {i g c p : Int} {d : Bool} {w w1 : World} (h : HasBox B i g c p d w w1) : HasBox B i g c p d w w1.drew := h.keep (Below.refl _ _).drew

/-- The text of a box: none if it is not valid. -/
def bxText (i g c p : Int) (d : Bool) : ByteArray := if bxOk i g c p = true then btS i g c p d else ⟨#[]⟩
end Go.Proofs.Ytfeobdgdhgcgoaa
namespace Go.Proofs.Ytfeobdgdhgcgoaa
set_option linter.unusedVariables false

theorem bxsOk_each {l : List Bx} (h : bxsOk l = true) : (∀ k, k < l.length → okAt l k = true) ∧ l.length ≤ 10 := by
  unfold bxsOk at h
  rw [Bool.and_eq_true] at h
  exact ⟨fun k hk => List.all_eq_true.1 h.1 k (List.mem_range.2 hk), of_decide_eq_true h.2⟩
theorem bxsOk_box {l : List Bx} (h : bxsOk l = true) {k : Nat} (hk : k < l.length) : l[k].ok = true := by
  have := (bxsOk_each h).1 k hk
  unfold okAt at this
  rw [getD_bx hk, Bool.and_eq_true] at this
  exact this.1
/-- The weight of the box with an id. -/
def wAt (l : List Bx) (id : Int) : Int := (l.getD (findB l id).toNat Bx.zero).g
/-- The weights of the first k of some ids. -/
def sumT (l : List Bx) (ids : List Int) : Nat → Int
  | 0 => 0
  | k + 1 => sumT l ids k + wAt l (ids.getD k 0)
theorem wAt_bd {l : List Bx} (h : bxsOk l = true) (id : Int) (hf : 0 ≤ findB l id) : 1 ≤ wAt l id ∧ wAt l id ≤ 30 := by
  have hb := (findB_bd l id).2
  have hk : (findB l id).toNat < l.length := by omega
  have := bxOk_yes (bxsOk_box h hk)
  unfold wAt
  rw [getD_bx hk]
  omega
theorem sumT_bd {l : List Bx} {ids : List Int} (h : bxsOk l = true) : ∀ k, (∀ j, j < k → 0 ≤ findB l (ids.getD j 0)) → 0 ≤ sumT l ids k ∧ sumT l ids k ≤ 30 * k
  | 0, _ => ⟨Int.le_refl 0, Int.le_refl 0⟩
  | k + 1, hf => by
    have h1 := sumT_bd h k (fun j hj => hf j (by omega))
    have h2 := wAt_bd h (ids.getD k 0) (hf k (by omega))
    unfold sumT
    omega
/-- What WeightOf gives. -/
def weighS (l : List Bx) (ids : List Int) : Int := if bxsOk l = true ∧ (∀ j, j < ids.length → 0 ≤ findB l (ids.getD j 0)) then sumT l ids ids.length else -1
theorem weighS_bad {l : List Bx} {ids : List Int} (h : bxsOk l = false) : weighS l ids = -1 := by
  unfold weighS; rw [if_neg (by rw [h]; rintro ⟨h, _⟩; cases h)]
theorem weighS_none {l : List Bx} {ids : List Int} (j : Nat) (hj : j < ids.length) (h : findB l (ids.getD j 0) < 0) : weighS l ids = -1 := by
  unfold weighS; rw [if_neg (by rintro ⟨_, h'⟩; have := h' j hj; omega)]
theorem weighS_sum {l : List Bx} {ids : List Int} (h : bxsOk l = true) (hf : ∀ j, j < ids.length → 0 ≤ findB l (ids.getD j 0)) : weighS l ids = sumT l ids ids.length := by
  unfold weighS; rw [if_pos ⟨h, hf⟩]
end Go.Proofs.Ytfeobdgdhgcgoaa
namespace Go.Proofs.Ytfeobdgdhgcgoaa
open Go.RowKit
set_option linter.unusedVariables false

end Go.Proofs.Ytfeobdgdhgcgoaa
