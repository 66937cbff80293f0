package crc

// matrix is what some number of zeros make of a register: the column i is what they make of the bit i alone.
type matrix [32]uint32

// passZeros returns the register after n bytes 0 were passed through it.
func passZeros(register uint32, n int) uint32 {
	// Squaring doubles the zeros, so three squarings make a byte of a bit.
	zeros := zeroBit().squared().squared().squared()
	for ; n > 0; n /= 2 {
		if n%2 == 1 {
			register = zeros.times(register)
		}
		zeros = zeros.squared()
	}
	return register
}

// zeroBit returns what one bit 0 makes of a register.
func zeroBit() matrix {
	var m matrix
	for i := range m {
		m[i] = shift(1 << i)
	}
	return m
}

// squared returns the matrix multiplied with itself.
func (m matrix) squared() matrix {
	var square matrix
	for i, column := range m {
		square[i] = m.times(column)
	}
	return square
}

// times returns what the matrix makes of a register.
func (m matrix) times(register uint32) uint32 {
	var product uint32
	for i, column := range m {
		if register>>i&1 == 1 {
			product ^= column
		}
	}
	return product
}
