/- The bytes of a string as a list. -/
namespace Go.Proofs.YthadeccnibnioaaGreatDoor
theorem loop_eq (x : ByteArray) (i : Nat) (r : List UInt8) : ByteArray.toList.loop x i r = r.reverse ++ x.data.toList.drop i := by
  unfold ByteArray.toList.loop
  split
  · rename_i h
    rw [loop_eq x (i + 1) (x.get! i :: r)]
    have h' : i < x.data.toList.length := by simpa using h
    rw [List.drop_eq_getElem_cons h']
    simp
    show x.get! i = _
    have : i < x.data.size := by simpa using h
    exact getElem!_pos x.data i this
  · rename_i h
    have h' : x.data.toList.length ≤ i := by simpa using h
    rw [List.drop_eq_nil_of_le h']; simp
termination_by x.size - i
theorem toList_eq (x : ByteArray) : x.toList = x.data.toList := by
  unfold ByteArray.toList; rw [loop_eq]; simp

end Go.Proofs.YthadeccnibnioaaGreatDoor
