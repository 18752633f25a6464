/- Plain mathematics of digits: numbers as decimal texts. No Go in sight. -/
namespace DsCal

/-- numbers as bytes -/
def bytesL (ns : List Int) : List UInt8 := ns.map fun n => UInt8.ofNat n.toNat
def bstr (ns : List Int) : ByteArray := ⟨(bytesL ns).toArray⟩

theorem foldl_push (ns : List Int) (r : ByteArray) : ns.foldl (fun r n => r.push (UInt8.ofNat n.toNat)) r = ⟨r.data ++ (bytesL ns).toArray⟩ := by
  induction ns generalizing r with
  | nil => simp [bytesL]
  | cons n ns ih =>
    simp only [List.foldl_cons]
    rw [ih]
    simp [ByteArray.push, bytesL]

/-- the eight digits of a number, the first one first -/
def tx8 (L : Int) : List Int :=
  [48 + L / 10 / 10 / 10 / 10 / 10 / 10 / 10 % 10, 48 + L / 10 / 10 / 10 / 10 / 10 / 10 % 10, 48 + L / 10 / 10 / 10 / 10 / 10 % 10, 48 + L / 10 / 10 / 10 / 10 % 10,
   48 + L / 10 / 10 / 10 % 10, 48 + L / 10 / 10 % 10, 48 + L / 10 % 10, 48 + L % 10]

end DsCal
